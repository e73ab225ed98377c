/-
  Put together: NodeMath, NodeMem, NodeSort.
-/
import Derived.Test.YtoifhcmgeackdaaGreatDoorGrpTrNum
import Derived.Lib.Bytealg
import Derived.Lib.Hide
import Derived.ProofKit
import Derived.Shelf.SlSortCmp.Insertion
import Derived.Lib.SlicesCompact
import Derived.Lib.Small
/-
  Plain mathematics of layer 8 (node): good nodes, their bytes, how bytes are read, where a key stands; as functions on lists of bytes. No program in sight.
-/
namespace Go.Proofs.YtoifhcmgeackdaaGreatDoor
namespace No
open Num (fixF unfF fixF_length varB varF unvL)
abbrev Bs := List UInt8
def bs (l : Bs) : ByteArray := ⟨l.toArray⟩
abbrev bl (S : ByteArray) : Bs := S.data.toList
theorem bl_bs (l : Bs) : bl (bs l) = l := rfl
theorem bs_bl (S : ByteArray) : bs (bl S) = S := rfl
theorem bs_size (l : Bs) : (bs l).size = l.length := by show l.toArray.size = _; simp
theorem bl_len (S : ByteArray) : (bl S).length = S.size := by simp [bl]
theorem bs_append (a b : Bs) : bs a ++ bs b = bs (a ++ b) := by
  apply ByteArray.ext
  simp [bs, ByteArray.data_append]
theorem bs_inj {a b : Bs} (h : bs a = bs b) : a = b := by
  have := congrArg bl h
  rwa [bl_bs, bl_bs] at this
theorem bs_list (a : Bs) : (bs a).toList = a := by rw [ByteArray.toList_eq]; rfl

structure C where
  z : Int
  d : Bs
  p : Int
structure N where
  f : Bool
  ks : List Bs
  cs : List C
  ps : List Int
def less (a b : Bs) : Bool := Op.bytesLess a b
def rise : List Bs → Bool
  | a :: b :: l => less a b && rise (b :: l)
  | _ => true
def okP (p : Int) : Bool := decide (1 ≤ p) && decide (p < 4096)
def okC (c : C) : Bool := decide (0 ≤ c.z) && (decide (c.z ≤ 5000) && (if c.z ≤ 40 then decide ((c.d.length : Int) = c.z) && decide (c.p = 0) else decide (c.d = []) && okP c.p))
def short (k : Bs) : Bool := decide (k.length ≤ 64)
def unlike : List Int → Bool
  | [] => true
  | a :: l => !l.contains a && unlike l
def okL (n : N) : Bool := decide (n.cs.length = n.ks.length) && (decide (n.ps.length = 0) && n.cs.all okC)
def okI (n : N) : Bool := decide (0 < n.ks.length) && (decide (n.ps.length = n.ks.length + 1) && (decide (n.cs.length = 0) && (n.ps.all okP && unlike n.ps)))
def okN (n : N) : Bool := n.ks.all short && (rise n.ks && (if n.f then okL n else okI n))

/-! ### The order of keys -/
theorem less_irrefl : ∀ a : Bs, less a a = false
  | [] => rfl
  | a :: x => by
    have ih := less_irrefl x
    unfold less at ih ⊢
    unfold Op.bytesLess
    have : ¬ a < a := by rw [UInt8.lt_iff_toNat_lt]; omega
    simp [this, ih]
theorem less_cmp : ∀ a b : Bs, less a b = decide (Lib.compareBytes a b < 0)
  | [], [] => rfl
  | [], _ :: _ => rfl
  | _ :: _, [] => rfl
  | a :: x, b :: y => by
    have ih := less_cmp x y
    unfold less at ih ⊢
    unfold Op.bytesLess Lib.compareBytes
    by_cases h1 : a < b
    · simp [h1]
    · by_cases h2 : b < a
      · have : a ≠ b := fun e => by subst e; exact h1 h2
        simp [h1, h2, this]
      · have : a = b := by
          apply UInt8.toNat_inj.1
          rw [UInt8.lt_iff_toNat_lt] at h1 h2
          omega
        subst this
        simp [h1, ih]
theorem cmp_anti : ∀ a b : Bs, Lib.compareBytes a b = -Lib.compareBytes b a
  | [], [] => rfl
  | [], _ :: _ => rfl
  | _ :: _, [] => rfl
  | a :: x, b :: y => by
    unfold Lib.compareBytes
    by_cases h1 : a < b
    · have h2 : ¬ b < a := by rw [UInt8.lt_iff_toNat_lt] at h1 ⊢; omega
      simp [h1, h2]
    · by_cases h2 : b < a
      · simp [h1, h2]
      · simp only [h1, h2, if_false]; exact cmp_anti x y
theorem cmp_zero : ∀ a b : Bs, Lib.compareBytes a b = 0 ↔ a = b
  | [], [] => by simp [Lib.compareBytes]
  | [], _ :: _ => by simp [Lib.compareBytes]
  | _ :: _, [] => by simp [Lib.compareBytes]
  | a :: x, b :: y => by
    unfold Lib.compareBytes
    by_cases h1 : a < b
    · have : a ≠ b := fun e => by subst e; rw [UInt8.lt_iff_toNat_lt] at h1; omega
      simp [h1, this]
    · by_cases h2 : b < a
      · have : a ≠ b := fun e => by subst e; exact h1 h2
        simp [h1, h2, this]
      · have : a = b := by
          apply UInt8.toNat_inj.1
          rw [UInt8.lt_iff_toNat_lt] at h1 h2
          omega
        subst this
        simp only [h1, if_false, List.cons.injEq, true_and]
        exact cmp_zero x y
theorem less_trans : ∀ {a b c : Bs}, less a b = true → less b c = true → less a c = true
  | [], [], _, h, _ => by simp [less, Op.bytesLess] at h
  | [], _ :: _, [], _, h => by simp [less, Op.bytesLess] at h
  | [], _ :: _, _ :: _, _, _ => rfl
  | _ :: _, [], _, h, _ => by simp [less, Op.bytesLess] at h
  | _ :: _, _ :: _, [], _, h => by simp [less, Op.bytesLess] at h
  | a :: x, b :: y, c :: z, h1, h2 => by
    have ih := @less_trans x y z
    unfold less at ih h1 h2 ⊢
    unfold Op.bytesLess at h1 h2 ⊢
    simp only [Bool.or_eq_true, decide_eq_true_eq, Bool.and_eq_true, beq_iff_eq, UInt8.lt_iff_toNat_lt] at h1 h2 ⊢
    rcases h1 with h1 | ⟨rfl, h1⟩
    · rcases h2 with h2 | ⟨rfl, h2⟩
      · exact Or.inl (by omega)
      · exact Or.inl h1
    · rcases h2 with h2 | ⟨rfl, h2⟩
      · exact Or.inl h2
      · exact Or.inr ⟨rfl, ih h1 h2⟩
theorem less_not {a b : Bs} (h : less a b = false) (hne : a ≠ b) : less b a = true := by
  rw [less_cmp] at h ⊢
  have h0 : Lib.compareBytes a b ≠ 0 := fun e => hne ((cmp_zero _ _).1 e)
  have h1 := cmp_anti a b
  simp only [decide_eq_false_iff_not, decide_eq_true_eq] at h ⊢
  omega
theorem rise_iff : ∀ l : List Bs, rise l = true ↔ ∀ i (h : i + 1 < l.length), less (l[i]'(by omega)) l[i + 1] = true
  | [] => by simp [rise]
  | [a] => by simp [rise]
  | a :: b :: l => by
    have ih := rise_iff (b :: l)
    unfold rise
    rw [Bool.and_eq_true, ih]
    constructor
    · rintro ⟨h1, h2⟩ i hi
      match i with
      | 0 => exact h1
      | i + 1 => exact h2 i (by simpa using hi)
    · intro h
      exact ⟨h 0 (by simp), fun i hi => h (i + 1) (by simpa using hi)⟩
theorem rise_lt {l : List Bs} (h : rise l = true) : ∀ (j i : Nat) (hj : j < l.length) (hi : i < j), less (l[i]'(by omega)) l[j] = true
  | j + 1, i, hj, hi => by
    have h1 := (rise_iff l).1 h j hj
    by_cases e : i = j
    · subst e; exact h1
    · exact less_trans (rise_lt h j i (by omega) (by omega)) h1
/-- Where a key stands. -/
def fi (l : List Bs) (key : Bs) : Nat := (l.takeWhile fun k => less k key).length
theorem fi_le (l : List Bs) (key : Bs) : fi l key ≤ l.length := by
  unfold fi
  induction l with
  | nil => simp
  | cons a l ih => simp only [List.takeWhile_cons]; split <;> simp <;> omega
theorem fi_unique : ∀ (l : List Bs) (key : Bs) (j : Nat) (hj : j ≤ l.length), (∀ i (h : i < j), less (l[i]'(by omega)) key = true) → (∀ h : j < l.length, less l[j] key = false) → fi l key = j
  | [], key, j, hj, _, _ => by
    have : j = 0 := by simpa using hj
    subst this; rfl
  | a :: l, key, 0, hj, _, h2 => by
    have := h2 (by simp)
    unfold fi
    simp only [List.getElem_cons_zero] at this
    simp [this]
  | a :: l, key, j + 1, hj, h1, h2 => by
    have ha := h1 0 (by omega)
    simp only [List.getElem_cons_zero] at ha
    have ih := fi_unique l key j (by simpa using hj) (fun i h => by simpa using h1 (i + 1) (by omega)) (fun h => h2 (by simpa using h))
    unfold fi at ih ⊢
    simp [ha, ih]
theorem fi_below : ∀ (l : List Bs) (key : Bs) (i : Nat) (h : i < fi l key), less (l[i]'(Nat.lt_of_lt_of_le h (fi_le l key))) key = true
  | [], key, i, h => by simp [fi] at h
  | a :: l, key, i, h => by
    unfold fi at h
    cases ha : less a key with
    | false => simp [ha] at h
    | true =>
      match i with
      | 0 => exact ha
      | i + 1 =>
        have : i < fi l key := by unfold fi; simp [ha] at h; exact h
        simpa using fi_below l key i this
theorem fi_at : ∀ (l : List Bs) (key : Bs) (h : fi l key < l.length), less l[fi l key] key = false
  | [], key, h => by simp at h
  | a :: l, key, h => by
    cases ha : less a key with
    | false =>
      have e : fi (a :: l) key = 0 := by unfold fi; simp [ha]
      simp only [e]; exact ha
    | true =>
      have e : fi (a :: l) key = fi l key + 1 := by unfold fi; simp [ha]
      simp only [e]
      rw [e] at h
      simpa using fi_at l key (by simpa using h)
theorem fi_above {l : List Bs} {key : Bs} (hr : rise l = true) (i : Nat) (h1 : fi l key ≤ i) (h2 : i < l.length) : less l[i] key = false := by
  have h0 := fi_at l key (by omega)
  by_cases e : i = fi l key
  · subst e; exact h0
  · have h3 := rise_lt hr i (fi l key) h2 (by omega)
    cases h4 : less l[i] key with
    | false => rfl
    | true => rw [less_trans h3 h4] at h0; cases h0
def isAt (l : List Bs) (key : Bs) : Bool := decide (l[fi l key]? = some key)

/-! ### Bytes -/
def kB (k : Bs) : Bs := varB k.length ++ k
def encC (c : C) : Bs := varB c.z.toNat ++ (if c.z ≤ 40 then c.d else fixF 4 c.p.toNat)
def itsL (ks : List Bs) (cs : List C) : List Bs := List.zipWith (fun k c => kB k ++ encC c) ks cs
def itsI (ks : List Bs) (ps : List Int) : List Bs := List.zipWith (fun k p => kB k ++ fixF 4 p.toNat) ks ps
def items (n : N) : List Bs := if n.f then itsL n.ks n.cs else itsI n.ks n.ps.tail
def headB (n : N) : Bs := (if n.f then [1] else [2]) ++ (fixF 2 n.ks.length ++ (if n.f then [] else fixF 4 (n.ps.headD 0).toNat))
def encN (n : N) : Bs := headB n ++ (items n).flatten
def zeros (k : Nat) : Bs := List.replicate k 0
def page (n : N) : Bs := encN n ++ zeros (232 - (encN n).length)
def sizeN (n : N) : Nat := if okN n then (encN n).length else 0
structure Sr where
  s : Bs
  e : Int
def encR (n : N) : Sr := if okN n then (if 232 < (encN n).length then ⟨[], 47⟩ else ⟨page n, 0⟩) else ⟨[], 1⟩

/-! ### Reading -/
def upS (S : Bs) (m : Nat) : Option (Nat × Bs) := if (unvL 0 0 S).2.2 ≠ 0 ∨ m < (unvL 0 0 S).1 then none else some ((unvL 0 0 S).1, S.drop (unvL 0 0 S).2.1)
def byS (S : Bs) (n : Nat) : Option (Bs × Bs) := if S.length < n then none else some (S.take n, S.drop n)
def fxS (S : Bs) (n : Nat) : Option (Nat × Bs) := (byS S n).map fun x => (unfF 0 x.1, x.2)
def ceB (z : Nat) (S : Bs) : Option (C × Bs) := if z ≤ 40 then (byS S z).map fun x => (⟨z, x.1, 0⟩, x.2) else (fxS S 4).map fun x => (⟨z, [], x.1⟩, x.2)
def ceS (S : Bs) : Option (C × Bs) := (upS S 5000).bind fun z => ceB z.1 z.2
def N.app (a b : N) : N := ⟨a.f, a.ks ++ b.ks, a.cs ++ b.cs, a.ps ++ b.ps⟩
def keS (S : Bs) : Option (Bs × Bs) := (upS S 64).bind fun z => byS z.2 z.1
def itB (f : Bool) (k : Bs) (S : Bs) : Option (N × Bs) := if f then (ceS S).map fun x => (⟨f, [k], [x.1], []⟩, x.2) else (fxS S 4).map fun x => (⟨f, [k], [], [x.1]⟩, x.2)
def itS (f : Bool) (S : Bs) : Option (N × Bs) := (keS S).bind fun k => itB f k.1 k.2
def itsS (f : Bool) : Nat → Bs → Option (N × Bs)
  | 0, S => some (⟨f, [], [], []⟩, S)
  | m + 1, S => (itS f S).bind fun x => (itsS f m x.2).map fun y => (x.1.app y.1, y.2)
def bodyS (m c : Nat) (S : Bs) : Option (N × Bs) :=
  if m = 1 then itsS true c S else if m = 2 then (fxS S 4).bind fun p => (itsS false c p.2).map fun x => ((⟨false, [], [], [p.1]⟩ : N).app x.1, x.2) else none
def parse (S : Bs) : Option (N × Bs) := (fxS S 1).bind fun m => (fxS m.2 2).bind fun c => bodyS m.1 c.1 c.2
theorem upS_var {n m : Nat} (t : Bs) (h : n ≤ m) (hn : n < 18446744073709551616) : upS (varB n ++ t) m = some (n, t) := by
  unfold upS
  rw [Num.unv_varB n t hn]
  simp only [ne_eq, not_true_eq_false, false_or]
  rw [if_neg (by omega)]
  simp
theorem byS_app (a t : Bs) : byS (a ++ t) a.length = some (a, t) := by
  unfold byS
  rw [if_neg (by rw [List.length_append]; omega)]
  simp
theorem fxS_fix (k n : Nat) (t : Bs) (h : n < 256 ^ k) : fxS (fixF k n ++ t) k = some (n, t) := by
  unfold fxS
  have h1 := byS_app (fixF k n) t
  rw [fixF_length] at h1
  rw [h1]
  show some (unfF 0 (fixF k n), t) = _
  rw [Num.unf_fix, Nat.mod_eq_of_lt h]
theorem keS_enc {k : Bs} (t : Bs) (h : k.length ≤ 64) : keS (kB k ++ t) = some (k, t) := by
  unfold keS kB
  rw [List.append_assoc, upS_var _ h (by omega)]
  exact byS_app k t
theorem okC_ways {c : C} (h : okC c = true) : 0 ≤ c.z ∧ c.z ≤ 5000 ∧ ((c.z ≤ 40 ∧ (c.d.length : Int) = c.z ∧ c.p = 0) ∨ (40 < c.z ∧ c.d = [] ∧ 1 ≤ c.p ∧ c.p < 4096)) := by
  unfold okC at h
  simp only [Bool.and_eq_true, decide_eq_true_eq] at h
  obtain ⟨h1, h2, h3⟩ := h
  refine ⟨h1, h2, ?_⟩
  by_cases h4 : c.z ≤ 40
  · rw [if_pos h4] at h3
    simp only [Bool.and_eq_true, decide_eq_true_eq] at h3
    exact Or.inl ⟨h4, h3.1, h3.2⟩
  · rw [if_neg h4] at h3
    unfold okP at h3
    simp only [Bool.and_eq_true, decide_eq_true_eq] at h3
    exact Or.inr ⟨by omega, h3.1, h3.2.1, h3.2.2⟩
theorem ceS_enc {c : C} (t : Bs) (h : okC c = true) : ceS (encC c ++ t) = some (c, t) := by
  obtain ⟨h1, h2, h3⟩ := okC_ways h
  obtain ⟨z, d, p⟩ := c
  simp only at h1 h2 h3
  obtain ⟨m, rfl⟩ := Int.eq_ofNat_of_zero_le h1
  unfold ceS encC
  simp only
  rw [List.append_assoc, show ((m : Int)).toNat = m from rfl, upS_var _ (by omega) (by omega)]
  show ceB m _ = _
  unfold ceB
  rcases h3 with ⟨h3, h4, h5⟩ | ⟨h3, h4, h5, h6⟩
  · rw [if_pos (by omega), if_pos (by omega)]
    have h7 : m = d.length := by omega
    subst h5
    rw [h7, byS_app]
    rfl
  · rw [if_neg (by omega), if_neg (by omega)]
    obtain ⟨q, rfl⟩ := Int.eq_ofNat_of_zero_le (show 0 ≤ p by omega)
    subst h4
    rw [show ((q : Int)).toNat = q from rfl, fxS_fix _ _ _ (by omega)]
    rfl
theorem itsS_leaf : ∀ (ks : List Bs) (cs : List C) (t : Bs), cs.length = ks.length → ks.all short = true → cs.all okC = true → itsS true ks.length ((itsL ks cs).flatten ++ t) = some (⟨true, ks, cs, []⟩, t)
  | [], [], t, _, _, _ => rfl
  | [], _ :: _, _, h, _, _ => by simp at h
  | _ :: _, [], _, h, _, _ => by simp at h
  | k :: ks, c :: cs, t, hl, hk, hc => by
    simp only [List.all_cons, Bool.and_eq_true] at hk hc
    have ih := itsS_leaf ks cs t (by simpa using hl) hk.2 hc.2
    have hk1 : k.length ≤ 64 := by simpa [short] using hk.1
    show (itS true ((itsL (k :: ks) (c :: cs)).flatten ++ t)).bind _ = _
    have e : (itsL (k :: ks) (c :: cs)).flatten ++ t = kB k ++ (encC c ++ ((itsL ks cs).flatten ++ t)) := by
      show ((kB k ++ encC c) ++ (itsL ks cs).flatten) ++ t = _
      simp only [List.append_assoc]
    rw [e]
    have e2 : itS true (kB k ++ (encC c ++ ((itsL ks cs).flatten ++ t))) = some (⟨true, [k], [c], []⟩, (itsL ks cs).flatten ++ t) := by
      unfold itS
      rw [keS_enc _ hk1]
      show itB true k _ = _
      unfold itB
      rw [if_pos rfl, ceS_enc _ hc.1]
      rfl
    rw [e2]
    show (itsS true ks.length _).map _ = _
    rw [ih]
    rfl
theorem itsS_inner : ∀ (ks : List Bs) (ps : List Int) (t : Bs), ps.length = ks.length → ks.all short = true → ps.all okP = true → itsS false ks.length ((itsI ks ps).flatten ++ t) = some (⟨false, ks, [], ps⟩, t)
  | [], [], t, _, _, _ => rfl
  | [], _ :: _, _, h, _, _ => by simp at h
  | _ :: _, [], _, h, _, _ => by simp at h
  | k :: ks, p :: ps, t, hl, hk, hc => by
    simp only [List.all_cons, Bool.and_eq_true] at hk hc
    have ih := itsS_inner ks ps t (by simpa using hl) hk.2 hc.2
    have hk1 : k.length ≤ 64 := by simpa [short] using hk.1
    have hp := hc.1
    unfold okP at hp
    simp only [Bool.and_eq_true, decide_eq_true_eq] at hp
    obtain ⟨q, rfl⟩ := Int.eq_ofNat_of_zero_le (show 0 ≤ p by omega)
    show (itS false ((itsI (k :: ks) ((q : Int) :: ps)).flatten ++ t)).bind _ = _
    have e : (itsI (k :: ks) ((q : Int) :: ps)).flatten ++ t = kB k ++ (fixF 4 q ++ ((itsI ks ps).flatten ++ t)) := by
      show ((kB k ++ fixF 4 q) ++ (itsI ks ps).flatten) ++ t = _
      simp only [List.append_assoc]
    rw [e]
    have e2 : itS false (kB k ++ (fixF 4 q ++ ((itsI ks ps).flatten ++ t))) = some (⟨false, [k], [], [(q : Int)]⟩, (itsI ks ps).flatten ++ t) := by
      unfold itS
      rw [keS_enc _ hk1]
      show itB false k _ = _
      unfold itB
      rw [if_neg (by decide), fxS_fix _ _ _ (by omega)]
      rfl
    rw [e2]
    show (itsS false ks.length _).map _ = _
    rw [ih]
    rfl
/-- What is good is read as itself, whatever stands behind it. -/
theorem parse_enc {n : N} (h : okN n = true) (hk : n.ks.length < 65536) (t : Bs) : parse (encN n ++ t) = some (n, t) := by
  obtain ⟨f, ks, cs, ps⟩ := n
  unfold okN at h
  simp only [Bool.and_eq_true] at h hk
  obtain ⟨h1, -, h3⟩ := h
  cases f with
  | true =>
    rw [if_pos rfl] at h3
    unfold okL at h3
    simp only [Bool.and_eq_true, decide_eq_true_eq] at h3
    obtain ⟨h4, h5, h6⟩ := h3
    have h7 : ps = [] := List.length_eq_zero_iff.1 h5
    subst h7
    have e : encN ⟨true, ks, cs, []⟩ ++ t = [1] ++ (fixF 2 ks.length ++ ((itsL ks cs).flatten ++ t)) := by
      show (([1] ++ (fixF 2 ks.length ++ [])) ++ (itsL ks cs).flatten) ++ t = _
      simp only [List.append_assoc, List.append_nil]
    rw [e]
    unfold parse
    have e1 : fxS ([1] ++ (fixF 2 ks.length ++ ((itsL ks cs).flatten ++ t))) 1 = some (1, fixF 2 ks.length ++ ((itsL ks cs).flatten ++ t)) := fxS_fix 1 1 _ (by decide)
    rw [e1]
    simp only [Option.bind_some]
    rw [fxS_fix _ _ _ (by omega)]
    show itsS true ks.length _ = _
    exact itsS_leaf ks cs t h4 h1 h6
  | false =>
    rw [if_neg (by decide)] at h3
    unfold okI at h3
    simp only [Bool.and_eq_true, decide_eq_true_eq] at h3
    obtain ⟨h4, h5, h6, h7, -⟩ := h3
    have h8 : cs = [] := List.length_eq_zero_iff.1 h6
    subst h8
    match ps, h5, h7 with
    | p :: ps, h5, h7 =>
      simp only [List.all_cons, Bool.and_eq_true] at h7
      have hp := h7.1
      unfold okP at hp
      simp only [Bool.and_eq_true, decide_eq_true_eq] at hp
      obtain ⟨q, rfl⟩ := Int.eq_ofNat_of_zero_le (show 0 ≤ p by omega)
      have e : encN ⟨false, ks, [], (q : Int) :: ps⟩ ++ t = [2] ++ (fixF 2 ks.length ++ (fixF 4 q ++ ((itsI ks ps).flatten ++ t))) := by
        show (([2] ++ (fixF 2 ks.length ++ fixF 4 q)) ++ (itsI ks ps).flatten) ++ t = _
        simp only [List.append_assoc]
      rw [e]
      unfold parse
      have e1 : fxS ([2] ++ (fixF 2 ks.length ++ (fixF 4 q ++ ((itsI ks ps).flatten ++ t)))) 1 = some (2, fixF 2 ks.length ++ (fixF 4 q ++ ((itsI ks ps).flatten ++ t))) := fxS_fix 1 2 _ (by decide)
      rw [e1]
      simp only [Option.bind_some]
      rw [fxS_fix _ _ _ (by omega)]
      simp only [Option.bind_some]
      unfold bodyS
      rw [if_neg (by decide), if_pos rfl, fxS_fix _ _ _ (by omega)]
      show (itsS false ks.length _).map _ = _
      rw [itsS_inner ks ps t (by simpa using h5) h1 h7.2]
      rfl
/-! ### What was read is what stood there -/
theorem fix_unf (l : Bs) : fixF l.length (unfF 0 l) = l := by
  have key : ∀ r : Bs, fixF r.length (unfF 0 r.reverse) = r.reverse := by
    intro r
    induction r with
    | nil => rfl
    | cons b r ih =>
      have hb : b.toNat < 256 := b.toNat_lt
      rw [List.reverse_cons, Num.unfF_append, List.length_cons, fixF]
      have e1 : (unfF 0 r.reverse * 256 + b.toNat) / 256 = unfF 0 r.reverse := by omega
      have e2 : UInt8.ofNat (unfF 0 r.reverse * 256 + b.toNat) = b := by
        apply UInt8.toNat_inj.1
        rw [Num.ofNat_toNat]; omega
      rw [e1, e2, ih]
  have h := key l.reverse
  simpa using h
theorem upS_back {S t : Bs} {m n : Nat} (h : upS S m = some (n, t)) : S = varB n ++ t ∧ n ≤ m := by
  unfold upS at h
  split at h
  · cases h
  · rename_i hn
    simp only [ne_eq, not_or, Decidable.not_not] at hn
    simp only [Option.some.injEq, Prod.mk.injEq] at h
    obtain ⟨h1, h2⟩ := h
    obtain ⟨he, hm⟩ := hn
    obtain ⟨q, hb, -, -, -, -, hv⟩ := Num.unv_back S 0 0 (unvL 0 0 S).1 (unvL 0 0 S).2.1 9 rfl (by rw [← he])
    rw [Nat.pow_zero, Nat.mul_one, Nat.zero_add] at hb
    rw [Nat.sub_zero] at hv
    subst h1
    refine ⟨?_, by omega⟩
    rw [← h2, hb]
    show S = varF 9 q ++ _
    rw [hv, List.take_append_drop]
theorem byS_back {S x t : Bs} {n : Nat} (h : byS S n = some (x, t)) : S = x ++ t ∧ x.length = n := by
  unfold byS at h
  split at h
  · cases h
  · rename_i hn
    simp only [Option.some.injEq, Prod.mk.injEq] at h
    obtain ⟨rfl, rfl⟩ := h
    exact ⟨(List.take_append_drop n S).symm, by rw [List.length_take]; omega⟩
theorem fxS_back {S t : Bs} {k n : Nat} (h : fxS S k = some (n, t)) : S = fixF k n ++ t ∧ n < 256 ^ k := by
  unfold fxS at h
  cases hb : byS S k with
  | none => rw [hb] at h; cases h
  | some x =>
    obtain ⟨x, u⟩ := x
    rw [hb] at h
    simp only [Option.map_some, Option.some.injEq, Prod.mk.injEq] at h
    obtain ⟨rfl, rfl⟩ := h
    obtain ⟨h1, h2⟩ := byS_back hb
    have h3 := Num.unfF_lt x 0
    rw [h2] at h3
    refine ⟨?_, by omega⟩
    have h4 := fix_unf x
    rw [h2] at h4
    rw [h4, h1]
theorem keS_back {S k t : Bs} (h : keS S = some (k, t)) : S = kB k ++ t ∧ k.length ≤ 64 := by
  unfold keS at h
  cases hb : upS S 64 with
  | none => rw [hb] at h; cases h
  | some x =>
    obtain ⟨z, u⟩ := x
    rw [hb] at h
    have h' : byS u z = some (k, t) := h
    obtain ⟨h1, h2⟩ := upS_back hb
    obtain ⟨h3, h4⟩ := byS_back h'
    unfold kB
    rw [h4, List.append_assoc, ← h3]
    exact ⟨h1, h2⟩
theorem ceS_back {S t : Bs} {c : C} (h : ceS S = some (c, t)) : S = encC c ++ t ∧ 0 ≤ c.z ∧ c.z ≤ 5000 ∧ c.d.length ≤ 40 ∧ 0 ≤ c.p ∧ c.p < 4294967296 := by
  unfold ceS at h
  cases hb : upS S 5000 with
  | none => rw [hb] at h; cases h
  | some x =>
    obtain ⟨z, u⟩ := x
    rw [hb] at h
    have h' : ceB z u = some (c, t) := h
    obtain ⟨h1, h2⟩ := upS_back hb
    unfold ceB at h'
    split at h'
    · rename_i hz
      cases hc : byS u z with
      | none => rw [hc] at h'; cases h'
      | some x =>
        obtain ⟨d, v⟩ := x
        rw [hc] at h'
        simp only [Option.map_some, Option.some.injEq, Prod.mk.injEq] at h'
        obtain ⟨rfl, rfl⟩ := h'
        obtain ⟨h3, h4⟩ := byS_back hc
        unfold encC
        simp only
        rw [if_pos (by omega), List.append_assoc, ← h3, show ((z : Int)).toNat = z from rfl]
        exact ⟨h1, by omega, by omega, by omega, by omega, by omega⟩
    · rename_i hz
      cases hc : fxS u 4 with
      | none => rw [hc] at h'; cases h'
      | some x =>
        obtain ⟨q, v⟩ := x
        rw [hc] at h'
        simp only [Option.map_some, Option.some.injEq, Prod.mk.injEq] at h'
        obtain ⟨rfl, rfl⟩ := h'
        obtain ⟨h3, h4⟩ := fxS_back hc
        unfold encC
        simp only
        rw [if_neg (by omega), List.append_assoc, show ((q : Int)).toNat = q from rfl, ← h3, show ((z : Int)).toNat = z from rfl]
        exact ⟨h1, by omega, by omega, by simp, by omega, by omega⟩
/-- Nothing here is great. -/
def calm (x : N) : Prop := (∀ k ∈ x.ks, k.length ≤ 64) ∧ (∀ c ∈ x.cs, 0 ≤ c.z ∧ c.z ≤ 5000 ∧ c.d.length ≤ 40 ∧ 0 ≤ c.p ∧ c.p < 4294967296) ∧ (∀ p ∈ x.ps, 0 ≤ p ∧ p < 4294967296)
theorem varB_one_le (n : Nat) : 1 ≤ (varB n).length := Num.varB_pos n
theorem itsS_back : ∀ (f : Bool) (m : Nat) (S : Bs) (x : N) (t : Bs), itsS f m S = some (x, t) → x.f = f ∧ x.ks.length = m ∧ x.cs.length = (if f then m else 0) ∧ x.ps.length = (if f then 0 else m) ∧ S = (if f then itsL x.ks x.cs else itsI x.ks x.ps).flatten ++ t ∧ calm x ∧ m + t.length ≤ S.length
  | f, 0, S, x, t, h => by
    simp only [itsS, Option.some.injEq, Prod.mk.injEq] at h
    obtain ⟨rfl, rfl⟩ := h
    refine ⟨rfl, rfl, by cases f <;> rfl, by cases f <;> rfl, by cases f <;> rfl, ⟨fun _ h => (by cases h), fun _ h => (by cases h), fun _ h => (by cases h)⟩, by omega⟩
  | f, m + 1, S, x, t, h => by
    have h0 : (itS f S).bind (fun x => (itsS f m x.2).map fun y => (x.1.app y.1, y.2)) = some (x, t) := h
    cases h1 : itS f S with
    | none => rw [h1] at h0; cases h0
    | some r =>
      obtain ⟨a, u⟩ := r
      rw [h1] at h0
      simp only [Option.bind_some] at h0
      cases h2 : itsS f m u with
      | none => rw [h2] at h0; cases h0
      | some r =>
        obtain ⟨b, v⟩ := r
        rw [h2] at h0
        simp only [Option.map_some, Option.some.injEq, Prod.mk.injEq] at h0
        obtain ⟨rfl, rfl⟩ := h0
        obtain ⟨e1, e2, e3, e4, e5, ⟨e6, e7, e8⟩, e9⟩ := itsS_back f m u b v h2
        unfold itS at h1
        cases h3 : keS S with
        | none => rw [h3] at h1; cases h1
        | some r =>
          obtain ⟨k, s⟩ := r
          rw [h3] at h1
          simp only [Option.bind_some] at h1
          obtain ⟨k1, k2⟩ := keS_back h3
          have kl : s.length + 1 ≤ S.length := by
            rw [k1]; unfold kB; have := varB_one_le k.length; simp only [List.length_append]; omega
          unfold itB at h1
          cases f with
          | true =>
            rw [if_pos rfl] at h1
            cases h4 : ceS s with
            | none => rw [h4] at h1; cases h1
            | some r =>
              obtain ⟨c, s2⟩ := r
              rw [h4] at h1
              simp only [Option.map_some, Option.some.injEq, Prod.mk.injEq] at h1
              obtain ⟨rfl, rfl⟩ := h1
              obtain ⟨c1, c2⟩ := ceS_back h4
              have cl : s2.length ≤ s.length := by rw [c1, List.length_append]; omega
              simp only [if_true] at e3 e4 e5 ⊢
              refine ⟨rfl, by simp [N.app, e2], by simp [N.app, e3], by simp [N.app, e4], ?_, ⟨?_, ?_, ?_⟩, by omega⟩
              · show S = (itsL (k :: b.ks) (c :: b.cs)).flatten ++ v
                show S = ((kB k ++ encC c) ++ (itsL b.ks b.cs).flatten) ++ v
                rw [List.append_assoc, ← e5, List.append_assoc, ← c1]
                exact k1
              · intro y hy
                rcases List.mem_cons.1 (show y ∈ k :: b.ks from hy) with rfl | hy
                · exact k2
                · exact e6 y hy
              · intro y hy
                rcases List.mem_cons.1 (show y ∈ c :: b.cs from hy) with rfl | hy
                · exact c2
                · exact e7 y hy
              · intro y hy
                exact e8 y hy
          | false =>
            rw [if_neg (by decide)] at h1
            cases h4 : fxS s 4 with
            | none => rw [h4] at h1; cases h1
            | some r =>
              obtain ⟨q, s2⟩ := r
              rw [h4] at h1
              simp only [Option.map_some, Option.some.injEq, Prod.mk.injEq] at h1
              obtain ⟨rfl, rfl⟩ := h1
              obtain ⟨c1, c2⟩ := fxS_back h4
              have cl : s2.length ≤ s.length := by rw [c1, List.length_append]; omega
              simp only [Bool.false_eq_true, if_false] at e3 e4 e5 ⊢
              refine ⟨rfl, by simp [N.app, e2], by simp [N.app, e3], by simp [N.app, e4], ?_, ⟨?_, ?_, ?_⟩, by omega⟩
              · show S = (itsI (k :: b.ks) ((q : Int) :: b.ps)).flatten ++ v
                show S = ((kB k ++ fixF 4 q) ++ (itsI b.ks b.ps).flatten) ++ v
                rw [List.append_assoc, ← e5, List.append_assoc, ← c1]
                exact k1
              · intro y hy
                rcases List.mem_cons.1 (show y ∈ k :: b.ks from hy) with rfl | hy
                · exact k2
                · exact e6 y hy
              · intro y hy
                exact e7 y hy
              · intro y hy
                rcases List.mem_cons.1 (show y ∈ (q : Int) :: b.ps from hy) with rfl | hy
                · exact ⟨by omega, by omega⟩
                · exact e8 y hy
/-- What is read stood there. -/
theorem parse_back {S t : Bs} {n : N} (h : parse S = some (n, t)) : S = encN n ++ t ∧ calm n ∧ n.ks.length < 65536 ∧ n.ks.length + t.length ≤ S.length ∧ n.cs.length ≤ n.ks.length ∧ n.ps.length ≤ n.ks.length + 1 := by
  unfold parse at h
  cases h1 : fxS S 1 with
  | none => rw [h1] at h; cases h
  | some r =>
    obtain ⟨m, s1⟩ := r
    rw [h1] at h
    simp only [Option.bind_some] at h
    cases h2 : fxS s1 2 with
    | none => rw [h2] at h; cases h
    | some r =>
      obtain ⟨c, s2⟩ := r
      rw [h2] at h
      simp only [Option.bind_some] at h
      obtain ⟨a1, a2⟩ := fxS_back h1
      obtain ⟨b1, b2⟩ := fxS_back h2
      have l1 : s1.length ≤ S.length := by rw [a1, List.length_append]; omega
      have l2 : s2.length ≤ s1.length := by rw [b1, List.length_append]; omega
      unfold bodyS at h
      split at h
      · rename_i hm
        subst hm
        obtain ⟨e1, e2, e3, e4, e5, e6, e9⟩ := itsS_back true c s2 n t h
        obtain ⟨f, ks, cs, ps⟩ := n
        simp only [if_true] at e1 e2 e3 e4 e5 e6 e9 ⊢
        subst e1 e2
        have e10 : ps = [] := List.length_eq_zero_iff.1 e4
        subst e10
        refine ⟨?_, e6, by omega, by omega, by omega, by simp⟩
        show S = (([1] ++ (fixF 2 ks.length ++ [])) ++ (itsL ks cs).flatten) ++ t
        rw [a1, b1, e5]
        simp only [List.append_assoc, List.append_nil]
        rfl
      · split at h
        · rename_i hm
          subst hm
          cases h3 : fxS s2 4 with
          | none => rw [h3] at h; cases h
          | some r =>
            obtain ⟨q, s3⟩ := r
            rw [h3] at h
            simp only [Option.bind_some] at h
            cases h4 : itsS false c s3 with
            | none => rw [h4] at h; cases h
            | some r =>
              obtain ⟨x, s4⟩ := r
              rw [h4] at h
              simp only [Option.map_some, Option.some.injEq, Prod.mk.injEq] at h
              obtain ⟨rfl, rfl⟩ := h
              obtain ⟨c1, c2⟩ := fxS_back h3
              have l3 : s3.length ≤ s2.length := by rw [c1, List.length_append]; omega
              obtain ⟨e1, e2, e3, e4, e5, ⟨e6, e7, e8⟩, e9⟩ := itsS_back false c s3 x s4 h4
              obtain ⟨f, ks, cs, ps⟩ := x
              simp only [Bool.false_eq_true, if_false] at e1 e2 e3 e4 e5 e6 e7 e8 e9 ⊢
              subst e1 e2
              have e10 : cs = [] := List.length_eq_zero_iff.1 e3
              subst e10
              show S = encN ⟨false, ks, [], (q : Int) :: ps⟩ ++ s4 ∧ calm ⟨false, ks, [], (q : Int) :: ps⟩ ∧ ks.length < 65536 ∧ ks.length + s4.length ≤ S.length ∧ 0 ≤ ks.length ∧ ps.length + 1 ≤ ks.length + 1
              refine ⟨?_, ⟨e6, e7, ?_⟩, by omega, by omega, by omega, by omega⟩
              · show S = (([2] ++ (fixF 2 ks.length ++ fixF 4 q)) ++ (itsI ks ps).flatten) ++ s4
                rw [a1, b1, c1, e5]
                simp only [List.append_assoc]
                rfl
              · intro y hy
                rcases List.mem_cons.1 hy with rfl | hy
                · exact ⟨by omega, by omega⟩
                · exact e8 y hy
        · cases h
/-! ### Pages -/
/-- What Decode answers. -/
structure Dr where
  n : N
  e : Int
def noN : N := ⟨false, [], [], []⟩
def blank (t : Bs) : Bool := t.all fun b => b == 0
def decR (S : Bs) : Dr :=
  if S.length ≠ 232 then ⟨noN, 1⟩
  else match parse S with
    | some (n, t) => if blank t && okN n then ⟨n, 0⟩ else ⟨noN, 4⟩
    | none => ⟨noN, 4⟩
theorem blank_zeros (k : Nat) : blank (zeros k) = true := by unfold blank zeros; simp
theorem blank_is {t : Bs} (h : blank t = true) : t = zeros t.length := by
  unfold blank at h
  unfold zeros
  rw [List.eq_replicate_iff]
  refine ⟨rfl, fun b hb => ?_⟩
  have := List.all_eq_true.1 h b hb
  simpa using this
theorem page_len {n : N} (h : (encN n).length ≤ 232) : (page n).length = 232 := by unfold page zeros; rw [List.length_append, List.length_replicate]; omega
/-- A page that is read is written as itself. -/
theorem decR_yes {S : Bs} (h : (decR S).e = 0) : okN (decR S).n = true ∧ (encN (decR S).n).length ≤ 232 ∧ page (decR S).n = S ∧ (decR S).n.ks.length ≤ 232 ∧ S.length = 232 := by
  unfold decR at h ⊢
  by_cases hl : S.length ≠ 232
  · rw [if_pos hl] at h; cases h
  · rw [if_neg hl] at h ⊢
    cases hp : parse S with
    | none => rw [hp] at h; cases h
    | some r =>
      obtain ⟨n, t⟩ := r
      rw [hp] at h
      simp only at h ⊢
      cases hb : (blank t && okN n) with
      | false => rw [hb] at h; cases h
      | true =>
        rw [Bool.and_eq_true] at hb
        simp only [if_true]
        obtain ⟨h1, -, -, h4, -, -⟩ := parse_back hp
        have hS : S.length = 232 := by simpa using hl
        have hL : (encN n).length + t.length = 232 := by rw [← hS, h1, List.length_append]
        refine ⟨hb.2, by omega, ?_, by omega, hS⟩
        unfold page
        have : 232 - (encN n).length = t.length := by omega
        rw [this, ← blank_is hb.1]
        exact h1.symm
theorem decR_no {S : Bs} (h : (decR S).e ≠ 0) : (decR S).n = noN ∧ ((decR S).e = 1 ∨ (decR S).e = 4) := by
  unfold decR at h ⊢
  by_cases hl : S.length ≠ 232
  · rw [if_pos hl]; exact ⟨rfl, Or.inl rfl⟩
  · rw [if_neg hl] at h ⊢
    cases hp : parse S with
    | none => exact ⟨rfl, Or.inr rfl⟩
    | some r =>
      obtain ⟨n, t⟩ := r
      rw [hp] at h
      simp only at h ⊢
      cases hb : (blank t && okN n) with
      | false => exact ⟨rfl, Or.inr rfl⟩
      | true => rw [hb] at h; simp at h
/-- A node that is written is read as itself. -/
theorem decR_page {n : N} (h : okN n = true) (hk : n.ks.length < 65536) (hl : (encN n).length ≤ 232) : decR (page n) = ⟨n, 0⟩ := by
  unfold decR
  rw [if_neg (by rw [page_len hl]; decide)]
  unfold page
  rw [parse_enc h hk]
  simp only [blank_zeros, h, Bool.and_self, if_true]
theorem encN_pos (n : N) : 3 ≤ (encN n).length := by
  unfold encN headB
  simp only [List.length_append, fixF_length]
  split <;> simp <;> omega
end No
end Go.Proofs.YtoifhcmgeackdaaGreatDoor

/-
  Nodes in memory: lists of keys, of cells and of pages as they are read; lists that the call itself makes.
-/
namespace Go.Proofs.YtoifhcmgeackdaaGreatDoor
open Go.RowKit
namespace No
open Num (hid)
abbrev tS : TypeId := 9
abbrev tI : TypeId := 3
abbrev tC : TypeId := 103
abbrev tN : TypeId := 90
abbrev tSs : TypeId := 22
abbrev tIs : TypeId := 58
abbrev tCs : TypeId := 88
def sV (k : Bs) : List Value := [.string (bs k)]
def iV (p : Int) : List Value := [.int .i64 p]
def C.vals (c : C) : List Value := [.int .i64 c.z, .string (bs c.d), .int .i64 c.p]
def C.agg (c : C) : Value := .agg #[.int .i64 c.z, .string (bs c.d), .int .i64 c.p]
section
variable {α : Type}
/-- A slice, as it is read: k cells an element. -/
def LAt (k : Nat) (enc : α → List Value) (w : World) (x : Value) (l : List α) : Prop :=
  ((∃ ao cap, x = .slice ao 0 cap ∧ l = []) ∨ ∃ b o cap, x = .slice (some ⟨b, o, none⟩) l.length cap ∧ l.length ≤ cap ∧ b < w.heap.size ∧ ∀ j (h : j < l.length) i, i < k → w.cell? ⟨b, o + j * k + i, none⟩ = (enc l[j])[i]?) ∧ l.length ≤ maxLen
variable {k : Nat} {enc : α → List Value} {w w' : World} {x : Value} {l : List α}
theorem LAt.nil (w : World) (ao : Option Addr) (cap : Nat) : LAt k enc w (.slice ao 0 cap) [] := ⟨Or.inl ⟨ao, cap, rfl, rfl⟩, Nat.zero_le _⟩
theorem LAt.on (h : LAt k enc w x l) (hb : Below w.heap.size w w') : LAt k enc w' x l := by
  obtain ⟨h1, h2⟩ := h
  refine ⟨?_, h2⟩
  rcases h1 with h1 | ⟨b, o, cap, hv, hc, hlt, hj⟩
  · exact Or.inl h1
  · exact Or.inr ⟨b, o, cap, hv, hc, Nat.lt_of_lt_of_le hlt hb.size, fun j h i hi => (hb.cell (p := ⟨b, o + j * k + i, none⟩) hlt).trans (hj j h i hi)⟩
theorem LAt.ways (h : LAt k enc w x l) : ∃ ao cap, x = .slice ao l.length cap ∧ l.length ≤ maxLen ∧ l.length ≤ cap ∧ ∀ j (hj : j < l.length), ∃ b o, ao = some ⟨b, o, none⟩ ∧ b < w.heap.size ∧ ∀ i, i < k → w.cell? ⟨b, o + j * k + i, none⟩ = (enc l[j])[i]? := by
  obtain ⟨h1, h2⟩ := h
  rcases h1 with ⟨ao, cap, rfl, rfl⟩ | ⟨b, o, cap, rfl, hc, hlt, hj⟩
  · exact ⟨ao, cap, rfl, h2, Nat.zero_le _, fun j hj => absurd hj (Nat.not_lt_zero _)⟩
  · exact ⟨_, cap, rfl, h2, hc, fun j h => ⟨b, o, rfl, hlt, hj j h⟩⟩
theorem LAt.room {ao : Option Addr} {n cap : Nat} (h : LAt k enc w (.slice ao n cap) l) : n = l.length ∧ n ≤ cap := by
  obtain ⟨ao', cap', hv, -, hc, -⟩ := h.ways
  cases hv
  exact ⟨rfl, hc⟩
theorem LAt.take {ao : Option Addr} {n cap : Nat} (h : LAt k enc w (.slice ao n cap) l) {m : Nat} (hm : m ≤ n) : LAt k enc w (.slice ao m cap) (l.take m) := by
  obtain ⟨h1, h2⟩ := h
  have hl : (l.take m).length ≤ maxLen := by rw [List.length_take]; omega
  refine ⟨?_, hl⟩
  rcases h1 with ⟨ao', cap', hv, rfl⟩ | ⟨b, o, cap', hv, hc, hlt, hj⟩
  · cases hv
    have : m = 0 := by omega
    subst this
    exact Or.inl ⟨ao, cap, rfl, rfl⟩
  · cases hv
    have hml : (l.take m).length = m := by rw [List.length_take]; omega
    refine Or.inr ⟨b, o, cap, by rw [hml], by rw [hml]; omega, hlt, fun j hj' => ?_⟩
    have e : (l.take m)[j] = l[j]'(by omega) := by simp
    rw [e]
    exact hj j (by omega)
/-- a[m:]. -/
def dropS (k : Nat) (ao : Option Addr) (n cap m : Nat) : Value := .slice (if cap = m then ao else ao.map (·.add (m * k))) (n - m) (cap - m)
theorem LAt.drop {ao : Option Addr} {n cap : Nat} (h : LAt k enc w (.slice ao n cap) l) {m : Nat} (hm : m ≤ n) : LAt k enc w (dropS k ao n cap m) (l.drop m) := by
  obtain ⟨h1, h2⟩ := h
  have hl : (l.drop m).length ≤ maxLen := by rw [List.length_drop]; omega
  refine ⟨?_, hl⟩
  unfold dropS
  rcases h1 with ⟨ao', cap', hv, rfl⟩ | ⟨b, o, cap', hv, hc, hlt, hj⟩
  · cases hv
    have : m = 0 := by omega
    subst this
    exact Or.inl ⟨_, _, rfl, rfl⟩
  · cases hv
    by_cases hck : cap = m
    · have e : l.drop m = [] := List.drop_of_length_le (by omega)
      rw [if_pos hck, e]
      exact Or.inl ⟨some ⟨b, o, none⟩, cap - m, by rw [show l.length - m = 0 by omega], rfl⟩
    · rw [if_neg hck]
      refine Or.inr ⟨b, o + m * k, cap - m, by rw [List.length_drop]; simp [Addr.add], by rw [List.length_drop]; omega, hlt, fun j hj' i hi => ?_⟩
      have hjl : m + j < l.length := by rw [List.length_drop] at hj'; omega
      have e : (l.drop m)[j] = l[m + j] := by simp
      rw [e]
      have h3 := hj (m + j) hjl i hi
      rw [show o + (m + j) * k + i = o + m * k + j * k + i by rw [Nat.add_mul]; omega] at h3
      exact h3
end
abbrev SAt (w : World) (x : Value) (l : List Bs) : Prop := LAt 1 sV w x l
abbrev IAt (w : World) (x : Value) (l : List Int) : Prop := LAt 1 iV w x l
abbrev CAt (w : World) (x : Value) (l : List C) : Prop := LAt 3 C.vals w x l
theorem SAt.ways1 {w : World} {x : Value} {l : List Bs} (h : SAt w x l) : ∃ ao cap, x = .slice ao l.length cap ∧ l.length ≤ maxLen ∧ l.length ≤ cap ∧ ∀ j (hj : j < l.length), ∃ b o, ao = some ⟨b, o, none⟩ ∧ b < w.heap.size ∧ w.cell? ⟨b, o + j, none⟩ = some (.string (bs l[j])) := by
  obtain ⟨ao, cap, h1, h2, h3, h4⟩ := LAt.ways h
  refine ⟨ao, cap, h1, h2, h3, fun j hj => ?_⟩
  obtain ⟨b, o, e1, e2, e3⟩ := h4 j hj
  have := e3 0 Nat.one_pos
  rw [Nat.mul_one] at this
  exact ⟨b, o, e1, e2, this⟩
theorem IAt.ways1 {w : World} {x : Value} {l : List Int} (h : IAt w x l) : ∃ ao cap, x = .slice ao l.length cap ∧ l.length ≤ maxLen ∧ l.length ≤ cap ∧ ∀ j (hj : j < l.length), ∃ b o, ao = some ⟨b, o, none⟩ ∧ b < w.heap.size ∧ w.cell? ⟨b, o + j, none⟩ = some (.int .i64 l[j]) := by
  obtain ⟨ao, cap, h1, h2, h3, h4⟩ := LAt.ways h
  refine ⟨ao, cap, h1, h2, h3, fun j hj => ?_⟩
  obtain ⟨b, o, e1, e2, e3⟩ := h4 j hj
  have := e3 0 Nat.one_pos
  rw [Nat.mul_one] at this
  exact ⟨b, o, e1, e2, this⟩
theorem CAt.ways3 {w : World} {x : Value} {l : List C} (h : CAt w x l) : ∃ ao cap, x = .slice ao l.length cap ∧ l.length ≤ maxLen ∧ l.length ≤ cap ∧ ∀ j (hj : j < l.length), ∃ b o, ao = some ⟨b, o, none⟩ ∧ b < w.heap.size ∧ w.cell? ⟨b, o + j * 3, none⟩ = some (.int .i64 l[j].z) ∧ w.cell? ⟨b, o + j * 3 + 1, none⟩ = some (.string (bs l[j].d)) ∧ w.cell? ⟨b, o + j * 3 + 2, none⟩ = some (.int .i64 l[j].p) := by
  obtain ⟨ao, cap, h1, h2, h3, h4⟩ := LAt.ways h
  refine ⟨ao, cap, h1, h2, h3, fun j hj => ?_⟩
  obtain ⟨b, o, e1, e2, e3⟩ := h4 j hj
  exact ⟨b, o, e1, e2, e3 0 (by decide), e3 1 (by decide), e3 2 (by decide)⟩
/-! ### Lists of the call's own -/
section
variable {α : Type}
abbrev OwnL (t : TypeId) (k : Nat) (enc : α → List Value) (w : World) (base : Nat) (x : Value) (l : List α) : Prop := w.ownsRow base t k x l.length (l.flatMap enc)
theorem flat_len {k : Nat} {enc : α → List Value} (he : ∀ a, (enc a).length = k) : ∀ l : List α, (l.flatMap enc).length = l.length * k
  | [] => (Nat.zero_mul _).symm
  | a :: l => by rw [List.flatMap_cons, List.length_append, he, flat_len he l, List.length_cons, Nat.add_mul, Nat.one_mul, Nat.add_comm]
theorem flat_at {k : Nat} {enc : α → List Value} (he : ∀ a, (enc a).length = k) : ∀ (l : List α) (j : Nat) (h : j < l.length) (i : Nat), i < k → (l.flatMap enc)[j * k + i]? = (enc l[j])[i]?
  | a :: l, 0, _, i, hi => by
    rw [List.flatMap_cons, Nat.zero_mul, Nat.zero_add, List.getElem?_append_left (by rw [he]; exact hi)]
    rfl
  | a :: l, j + 1, h, i, hi => by
    have ih := flat_at he l j (by simpa using h) i hi
    rw [List.flatMap_cons, List.getElem?_append_right (by rw [he, Nat.add_mul]; omega), he, show (j + 1) * k + i - k = j * k + i by rw [Nat.add_mul]; omega]
    exact ih
variable {t : TypeId} {k : Nat} {enc : α → List Value} {w w' : World} {base : Nat} {x : Value} {l : List α}
theorem OwnL.row (he : ∀ a, (enc a).length = k) (h : OwnL t k enc w base x l) (hl : l.length ≤ maxLen) : LAt k enc w x l := by
  refine ⟨?_, hl⟩
  rcases h.2 with ⟨rfl, h0⟩ | ⟨g, cap, cur, rfl, h1, h2, h3, h4, h5, h6⟩
  · exact Or.inl ⟨none, 0, rfl, List.length_eq_zero_iff.1 h0⟩
  · refine Or.inr ⟨g, 0, cap, rfl, h3, lt_of_block h2, fun j hj i hi => ?_⟩
    rw [Nat.zero_add, ← flat_at he l j hj i hi]
    refine h.cellAt _ ?_
    have := Nat.mul_le_mul_right k (show j + 1 ≤ l.length by omega)
    rw [Nat.add_mul] at this
    omega
theorem OwnL.on (h : OwnL t k enc w base x l) (hb : Below w.heap.size w w') : OwnL t k enc w' base x l := by
  obtain ⟨h1, h2⟩ := h
  refine ⟨h1, ?_⟩
  rcases h2 with h2 | ⟨g, cap, cur, e1, e2, e3, e4⟩
  · exact Or.inl h2
  · exact Or.inr ⟨g, cap, cur, e1, e2, (hb.block _ (lt_of_block e3)).trans e3, e4⟩
theorem OwnL.empty (w : World) (base : Nat) : OwnL t k enc w base (.slice none 0 0) [] := World.ownsRow_nil w base t k
end
theorem sV_len (a : Bs) : (sV a).length = 1 := rfl
theorem iV_len (a : Int) : (iV a).length = 1 := rfl
theorem vals_len (a : C) : a.vals.length = 3 := rfl
abbrev OwnS (w : World) (base : Nat) (x : Value) (l : List Bs) : Prop := OwnL tS 1 sV w base x l
abbrev OwnI (w : World) (base : Nat) (x : Value) (l : List Int) : Prop := OwnL tI 1 iV w base x l
abbrev OwnC (w : World) (base : Nat) (x : Value) (l : List C) : Prop := OwnL tC 3 C.vals w base x l
theorem infoS : (Tryz.prog.info? tS).map (fun i => (i.zero, i.size, i.bytes)) = some (some (.string ⟨#[]⟩), 1, 16) := by kernel_rfl
theorem infoI : (Tryz.prog.info? tI).map (fun i => (i.zero, i.size, i.bytes)) = some (some (.int .i64 0), 1, 8) := by kernel_rfl
theorem infoC : (Tryz.prog.info? tC).map (fun i => (i.zero, i.size, i.bytes)) = some (some (.agg #[.int .i64 0, .string ⟨#[]⟩, .int .i64 0]), 3, 32) := by kernel_rfl
/-- 'out = append(out, v..)', what is put behind read as a list. -/
theorem append_list {α : Type} {P : Program} {w w0 : World} {ops : Array Oper} {rest : List Oper} {o : Oper} {a : Act} {Q : Exit → Act → World → Prop} (hgd : o.guard = none) (s x : Operand) (t : TypeId)
    (ho : o.op = .call { callee := .builtin .append, args := #[s, x], argTypes := #[t, t] })
    (base : Nat) (e : TypeId) (i : TypeInfo) (z : Value) (k bytes : Nat) (enc : α → List Value) (he : ∀ a, (enc a).length = k) (h1e : ∀ a, ∀ u ∈ enc a, u.oneCell' = true)
    (ht : P.underlying t = some (.slice e)) (hi : P.info? e = some i) (hz : i.zero = some z) (hsize : i.size = k) (hby : i.bytes = bytes) (hzs : z.cells.size = k) (hk : 0 < k) (hb48 : bytes ≤ 32)
    (d : Value) (l : List α) (hs : a.eval s = d) (hown : OwnL e k enc w base d l) (hbel : Below base w0 w) (hbase : base ≤ w.heap.size)
    (g of : Nat) (cap : Nat) (news : List α) (hx : a.eval x = .slice (some ⟨g, of, none⟩) news.length cap) (hcell : ∀ j (h : j < news.length) i, i < k → w.cell? ⟨g, of + j * k + i, none⟩ = (enc news[j])[i]?) (hlen : l.length + news.length ≤ 4000000000000)
    (h : ∀ d' w', OwnL e k enc w' base d' (l ++ news) → Below base w0 w' → wpList P ops Q rest (a.put o.dst d') w') : wpList P ops Q (o :: rest) a w := by
  refine wpList_append_own w hgd s x t ho base e i z k bytes ht hi hz hsize hby hzs hk d l.length (l.flatMap enc) hs hown ⟨g, of, none⟩ news.length cap (news.flatMap enc) hx (flat_len he news) ?_ ?_ ?_ ?_ hbase ?_
  · intro j u hj
    have hjl : j < news.length * k := by
      have := (List.getElem?_eq_some_iff.1 hj).1
      rwa [flat_len he news] at this
    have hq : j / k < news.length := Nat.div_lt_of_lt_mul (by rw [Nat.mul_comm]; exact hjl)
    have hr : j % k < k := Nat.mod_lt _ hk
    have ej : j = j / k * k + j % k := by rw [Nat.mul_comm]; exact (Nat.div_add_mod _ _).symm
    rw [ej, flat_at he news _ hq _ hr, ← hcell _ hq _ hr] at hj
    have ea : (⟨g, of, none⟩ : Addr).add j = ⟨g, of + j, none⟩ := by simp [Addr.add]
    have eo : of + j = of + j / k * k + j % k := by omega
    rw [ea, eo]
    exact hj
  · intro u hu
    obtain ⟨b, _, hb⟩ := List.mem_flatMap.1 hu
    exact h1e b u hb
  · unfold maxLen; omega
  · have := Nat.mul_le_mul (Nat.le_refl (l.length + news.length)) hb48
    omega
  · intro d' w' ho' hg' _
    refine h d' w' ?_ (hbel.grown hg' hbase (fun k hk => (hown.lt k hk).1))
    unfold OwnL
    rw [List.flatMap_append, List.length_append]
    exact ho'
theorem sV_one (a : Bs) : ∀ u ∈ sV a, u.oneCell' = true := by intro u hu; simp [sV] at hu; subst hu; rfl
theorem iV_one (a : Int) : ∀ u ∈ iV a, u.oneCell' = true := by intro u hu; simp [iV] at hu; subst hu; rfl
theorem vals_one (a : C) : ∀ u ∈ a.vals, u.oneCell' = true := by intro u hu; simp [C.vals] at hu; rcases hu with rfl | rfl | rfl <;> rfl
/-- 'keys = append(keys, news...)'. -/
theorem append_keys {w w0 : World} {ops : Array Oper} {rest : List Oper} {o : Oper} {a : Act} {Q : Exit → Act → World → Prop} (hgd : o.guard = none) (s x : Operand)
    (ho : o.op = .call { callee := .builtin .append, args := #[s, x], argTypes := #[tSs, tSs] })
    (base : Nat) (d : Value) (l : List Bs) (hs : a.eval s = d) (hown : OwnS w base d l) (hbel : Below base w0 w) (hbase : base ≤ w.heap.size)
    (g of cap : Nat) (news : List Bs) (hx : a.eval x = .slice (some ⟨g, of, none⟩) news.length cap) (hcell : ∀ j (h : j < news.length) i, i < 1 → w.cell? ⟨g, of + j * 1 + i, none⟩ = (sV news[j])[i]?) (hlen : l.length + news.length ≤ 4000000000000)
    (h : ∀ d' w', OwnS w' base d' (l ++ news) → Below base w0 w' → wpList Tryz.prog ops Q rest (a.put o.dst d') w') : wpList Tryz.prog ops Q (o :: rest) a w := by
  obtain ⟨i, hi, h0, h1, h2⟩ := info_parts infoS
  exact append_list hgd s x tSs ho base tS i _ 1 16 sV sV_len sV_one Tryz.underlying22 hi h0 h1 h2 rfl (by decide) (by decide) d l hs hown hbel hbase g of cap news hx hcell hlen h
/-- 'kids = append(kids, news...)'. -/
theorem append_kids {w w0 : World} {ops : Array Oper} {rest : List Oper} {o : Oper} {a : Act} {Q : Exit → Act → World → Prop} (hgd : o.guard = none) (s x : Operand)
    (ho : o.op = .call { callee := .builtin .append, args := #[s, x], argTypes := #[tIs, tIs] })
    (base : Nat) (d : Value) (l : List Int) (hs : a.eval s = d) (hown : OwnI w base d l) (hbel : Below base w0 w) (hbase : base ≤ w.heap.size)
    (g of cap : Nat) (news : List Int) (hx : a.eval x = .slice (some ⟨g, of, none⟩) news.length cap) (hcell : ∀ j (h : j < news.length) i, i < 1 → w.cell? ⟨g, of + j * 1 + i, none⟩ = (iV news[j])[i]?) (hlen : l.length + news.length ≤ 4000000000000)
    (h : ∀ d' w', OwnI w' base d' (l ++ news) → Below base w0 w' → wpList Tryz.prog ops Q rest (a.put o.dst d') w') : wpList Tryz.prog ops Q (o :: rest) a w := by
  obtain ⟨i, hi, h0, h1, h2⟩ := info_parts infoI
  exact append_list hgd s x tIs ho base tI i _ 1 8 iV iV_len iV_one Tryz.underlying58 hi h0 h1 h2 rfl (by decide) (by decide) d l hs hown hbel hbase g of cap news hx hcell hlen h
/-- 'cells = append(cells, news...)'. -/
theorem append_cells {w w0 : World} {ops : Array Oper} {rest : List Oper} {o : Oper} {a : Act} {Q : Exit → Act → World → Prop} (hgd : o.guard = none) (s x : Operand)
    (ho : o.op = .call { callee := .builtin .append, args := #[s, x], argTypes := #[tCs, tCs] })
    (base : Nat) (d : Value) (l : List C) (hs : a.eval s = d) (hown : OwnC w base d l) (hbel : Below base w0 w) (hbase : base ≤ w.heap.size)
    (g of cap : Nat) (news : List C) (hx : a.eval x = .slice (some ⟨g, of, none⟩) news.length cap) (hcell : ∀ j (h : j < news.length) i, i < 3 → w.cell? ⟨g, of + j * 3 + i, none⟩ = (news[j].vals)[i]?) (hlen : l.length + news.length ≤ 4000000000000)
    (h : ∀ d' w', OwnC w' base d' (l ++ news) → Below base w0 w' → wpList Tryz.prog ops Q rest (a.put o.dst d') w') : wpList Tryz.prog ops Q (o :: rest) a w := by
  obtain ⟨i, hi, h0, h1, h2⟩ := info_parts infoC
  exact append_list hgd s x tCs ho base tC i _ 3 32 C.vals vals_len vals_one Tryz.underlying88 hi h0 h1 h2 rfl (by decide) (by decide) d l hs hown hbel hbase g of cap news hx hcell hlen h
/-! ### Nodes -/
/-- A node, as it is handed over: its four parts. -/
structure NAt (w : World) (ks cs ps : Value) (n : N) : Prop where
  k : SAt w ks n.ks
  c : CAt w cs n.cs
  p : IAt w ps n.ps
def nV (f : Bool) (ks cs ps : Value) : Value := .agg #[.bool f, ks, cs, ps]
theorem NAt.on {w w' : World} {ks cs ps : Value} {n : N} (h : NAt w ks cs ps n) (hb : Below w.heap.size w w') : NAt w' ks cs ps n := ⟨h.k.on hb, h.c.on hb, h.p.on hb⟩
end No
end Go.Proofs.YtoifhcmgeackdaaGreatDoor

/-
  Plain mathematics: a row of numbers that is sorted and freed of repeats is as long as before just if no number stood there twice.
-/
namespace Go.Proofs.YtoifhcmgeackdaaGreatDoor
open Go.RowKit Go.Sort
namespace No
theorem unlike_nodup : ∀ l : List Int, unlike l = true ↔ l.Nodup
  | [] => by simp [unlike]
  | a :: l => by
    unfold unlike
    rw [Bool.and_eq_true, unlike_nodup l, List.nodup_cons]
    simp
theorem lt_cmp (x y : Int) : ltOf Lib.compareInt x y = decide (x < y) := by
  unfold ltOf Lib.compareInt
  by_cases h : x < y
  · simp [h]
  · by_cases h2 : x > y <;> simp [h, h2]
theorem swo_cmp : SWO (ltOf Lib.compareInt) := by
  refine ⟨fun x => ?_, fun x y z h1 h2 => ?_, fun x y z h1 h2 => ?_⟩
  · rw [lt_cmp]; simp
  · rw [lt_cmp, decide_eq_true_eq] at *; omega
  · rw [lt_cmp, decide_eq_false_iff_not] at *; omega
theorem len_filter_all {l : List Nat} {p : Nat → Bool} (h : (l.filter p).length = l.length) : ∀ x ∈ l, p x = true := by
  intro x hx
  exact (List.filter_eq_self.1 (List.Sublist.eq_of_length (List.filter_sublist) h)) x hx
theorem compact_len (l : List Int) (d : Array Int) (hP : PermIn 0 l.toArray.size l.toArray d) (hS : SortedIn (ltOf Lib.compareInt) 0 l.toArray.size d) : decide ((Lib.compact d.toList).length = l.length) = unlike l := by
  obtain ⟨hsz, -, hp⟩ := hP
  have hsz' : d.size = l.length := by simpa using hsz
  have hperm : d.toList.Perm l := by
    have e1 : (d.extract 0 l.toArray.size).toList = d.toList := by
      rw [← hsz]; simp
    have e2 : (l.toArray.extract 0 l.toArray.size).toList = l := by simp
    rw [e1, e2] at hp
    exact hp
  have hle : ∀ i j, i < j → j < d.size → d[i]! ≤ d[j]! := by
    intro i j h1 h2
    have := hS i j (Nat.zero_le _) h1 (by rw [← hsz]; exact h2)
    rw [lt_cmp, decide_eq_false_iff_not] at this
    omega
  have hget : ∀ i (h : i < d.size), d[i]! = d[i] := fun i h => getElem!_pos d i h
  have hlen : (Lib.compact d.toList).length = ((List.range d.size).filter (Lib.keeps d)).length := by
    unfold Lib.compact Lib.compactUpTo
    simp only [List.length_map, Array.length_toList]
  rw [Bool.eq_iff_iff, decide_eq_true_eq, unlike_nodup, ← hperm.nodup_iff, hlen, ← hsz']
  constructor
  · intro h
    have hk := len_filter_all (h.trans List.length_range.symm)
    have hlt : ∀ i j, i < j → j < d.size → d[i]! < d[j]! := by
      intro i j h1 h2
      have hkj := hk j (List.mem_range.2 h2)
      unfold Lib.keeps at hkj
      rw [decide_eq_true_eq] at hkj
      rcases hkj with hkj | hkj
      · omega
      · have h3 := hle (j - 1) j (by omega) h2
        by_cases e : i = j - 1
        · subst e; omega
        · have h4 := hle i (j - 1) (by omega) (by omega)
          omega
    refine (List.pairwise_iff_getElem.2 ?_ : d.toList.Pairwise (· ≠ ·))
    intro i j hi hj hij
    have h2 : j < d.size := by simpa using hj
    have h1 := hlt i j hij h2
    rw [hget i (by omega), hget j h2] at h1
    simp only [Array.getElem_toList]
    omega
  · intro h
    have hk : ∀ x ∈ List.range d.size, Lib.keeps d x = true := by
      intro x hx
      have hx' := List.mem_range.1 hx
      unfold Lib.keeps
      rw [decide_eq_true_eq]
      by_cases h0 : x = 0
      · exact Or.inl h0
      · refine Or.inr fun e => ?_
        have := List.pairwise_iff_getElem.1 h (x - 1) x (by simp; omega) (by simpa using hx') (by omega)
        rw [hget x hx', hget (x - 1) (by omega)] at e
        simp only [Array.getElem_toList] at this
        exact this e.symm
    rw [List.filter_eq_self.2 hk, List.length_range]
end No
end Go.Proofs.YtoifhcmgeackdaaGreatDoor
