/-
  Put together: ValMath, ValLaws, ValShow.
-/
import Derived.Test.YtiellodbkanciaaGreatDoorGrpNum
import Derived.Lib.ItoaNum
import Derived.Lib.AtoiAllCases
import Derived.Lib.Bytealg
import Derived.Lib.Small
import Derived.Lib.ReplaceLaws
import Derived.Lib.SplitLaws
/-
  Plain mathematics of layer 6 (value): what Good, Compare, Key, Unkey, Show and Parse compute, as functions on numbers and lists of bytes. No program in sight.
-/
namespace Go.Proofs.YtiellodbkanciaaGreatDoor
namespace Va
open Num (fixF unfF fixF_length)
abbrev Bs := List UInt8

/-! ### Good, Compare -/
def Good (K N : Int) (S : Bs) : Prop := (K = 0 ∧ N = 0 ∧ S = []) ∨ (K = 1 ∧ S = []) ∨ ((K = 2 ∨ K = 3) ∧ N = 0 ∧ S.length ≤ 2000)
instance (K N : Int) (S : Bs) : Decidable (Good K N S) := by unfold Good; infer_instance
theorem good_null : Good 0 0 [] := Or.inl ⟨rfl, rfl, rfl⟩
theorem good_int (N : Int) : Good 1 N [] := Or.inr (Or.inl ⟨rfl, rfl⟩)
theorem good_text {S : Bs} (h : S.length ≤ 2000) : Good 2 0 S := Or.inr (Or.inr ⟨Or.inl rfl, rfl, h⟩)
theorem good_blob {S : Bs} (h : S.length ≤ 2000) : Good 3 0 S := Or.inr (Or.inr ⟨Or.inr rfl, rfl, h⟩)
def cmpI (a b : Int) : Int := if a < b then -1 else if b < a then 1 else 0
def cmpB (a b : Bs) : Int := Lib.compareBytes a b
def orI (a b : Int) : Int := if a = 0 then b else a
def cmpV (K N : Int) (S : Bs) (K' N' : Int) (S' : Bs) : Int := orI (cmpI K K') (orI (cmpI N N') (cmpB S S'))
def compareL (K N : Int) (S : Bs) (K' N' : Int) (S' : Bs) : Int := if Good K N S ∧ Good K' N' S' then cmpV K N S K' N' S' else 0

theorem cmpI_self (a : Int) : cmpI a a = 0 := by unfold cmpI; simp
theorem cmpI_zero {a b : Int} : cmpI a b = 0 ↔ a = b := by unfold cmpI; split <;> (try split) <;> omega
theorem cmpI_neg {a b : Int} : cmpI a b < 0 ↔ a < b := by unfold cmpI; split <;> (try split) <;> omega
theorem cmpI_anti (a b : Int) : cmpI a b = -cmpI b a := by unfold cmpI; split <;> split <;> (try split) <;> (try split) <;> omega
theorem cmpB_self : ∀ a : Bs, cmpB a a = 0
  | [] => rfl
  | a :: as1 => by unfold cmpB Lib.compareBytes; simp; exact cmpB_self as1
theorem cmpB_anti : ∀ a b : Bs, cmpB a b = -cmpB b a
  | [], [] => rfl
  | [], _ :: _ => rfl
  | _ :: _, [] => rfl
  | a :: as1, b :: bs => by
    unfold cmpB Lib.compareBytes
    by_cases h1 : a < b
    · have h2 : ¬ b < a := fun h => by have := UInt8.lt_iff_toNat_lt.1 h; have := UInt8.lt_iff_toNat_lt.1 h1; omega
      simp [h1, h2]
    · by_cases h2 : b < a
      · simp [h1, h2]
      · simp only [h1, h2, if_false]; exact cmpB_anti as1 bs
theorem cmpB_zero : ∀ a b : Bs, cmpB a b = 0 ↔ a = b
  | [], [] => by simp [cmpB, Lib.compareBytes]
  | [], _ :: _ => by simp [cmpB, Lib.compareBytes]
  | _ :: _, [] => by simp [cmpB, Lib.compareBytes]
  | a :: as1, b :: bs => by
    unfold cmpB Lib.compareBytes
    by_cases h1 : a < b
    · have : a ≠ b := fun e => by subst e; exact absurd (UInt8.lt_iff_toNat_lt.1 h1) (by omega)
      simp [h1, this]
    · by_cases h2 : b < a
      · have : a ≠ b := fun e => by subst e; exact h1 h2
        simp [h1, h2, this]
      · have : a = b := by
          apply UInt8.toNat_inj.1
          have h1' : ¬ a.toNat < b.toNat := fun h => h1 (UInt8.lt_iff_toNat_lt.2 h)
          have h2' : ¬ b.toNat < a.toNat := fun h => h2 (UInt8.lt_iff_toNat_lt.2 h)
          omega
        simp only [h1, h2, if_false]
        rw [show (Lib.compareBytes as1 bs = 0) = (cmpB as1 bs = 0) from rfl, cmpB_zero as1 bs]
        simp [this]
theorem cmpB_ways (a b : Bs) : cmpB a b = -1 ∨ cmpB a b = 0 ∨ cmpB a b = 1 := by
  induction a generalizing b with
  | nil => cases b <;> simp [cmpB, Lib.compareBytes]
  | cons a as1 ih =>
    cases b with
    | nil => simp [cmpB, Lib.compareBytes]
    | cons b bs =>
      unfold cmpB Lib.compareBytes
      split
      · exact Or.inl rfl
      · split
        · exact Or.inr (Or.inr rfl)
        · exact ih bs
theorem cmpB_trans : ∀ a b c : Bs, cmpB a b ≤ 0 → cmpB b c ≤ 0 → cmpB a c ≤ 0 ∧ (cmpB a c < 0 ↔ (cmpB a b < 0 ∨ cmpB b c < 0))
  | [], [], c, _, h2 => by cases c <;> simp [cmpB, Lib.compareBytes] at *
  | [], b :: bs, [], _, h2 => by simp [cmpB, Lib.compareBytes] at h2
  | [], b :: bs, c :: cs, _, h2 => by simp [cmpB, Lib.compareBytes]
  | a :: as1, [], c, h1, _ => by simp [cmpB, Lib.compareBytes] at h1
  | a :: as1, b :: bs, [], h1, h2 => by simp [cmpB, Lib.compareBytes] at h2
  | a :: as1, b :: bs, c :: cs, h1, h2 => by
    have ih := cmpB_trans as1 bs cs
    unfold cmpB at *
    simp only [Lib.compareBytes, UInt8.lt_iff_toNat_lt] at *
    by_cases hab : a.toNat < b.toNat
    · by_cases hbc : b.toNat < c.toNat
      · rw [if_pos (by omega : a.toNat < c.toNat), if_pos hab]; simp
      · by_cases hcb : c.toNat < b.toNat
        · rw [if_neg hbc, if_pos hcb] at h2; omega
        · rw [if_pos (by omega : a.toNat < c.toNat), if_pos hab]; simp
    · by_cases hba : b.toNat < a.toNat
      · rw [if_neg hab, if_pos hba] at h1; omega
      · rw [if_neg hab, if_neg hba] at h1 ⊢
        by_cases hbc : b.toNat < c.toNat
        · rw [if_pos (by omega : a.toNat < c.toNat), if_pos hbc]; simp
        · by_cases hcb : c.toNat < b.toNat
          · rw [if_neg hbc, if_pos hcb] at h2; omega
          · rw [if_neg hbc, if_neg hcb] at h2 ⊢
            rw [if_neg (by omega : ¬ a.toNat < c.toNat), if_neg (by omega : ¬ c.toNat < a.toNat)]
            exact ih h1 h2
theorem cmpI_trans (a b c : Int) (h1 : cmpI a b ≤ 0) (h2 : cmpI b c ≤ 0) : cmpI a c ≤ 0 ∧ (cmpI a c < 0 ↔ (cmpI a b < 0 ∨ cmpI b c < 0)) := by
  unfold cmpI at *
  split at h1 <;> split at h2 <;> (try split at h1) <;> (try split at h2) <;> first | omega | (repeat' split) <;> omega
theorem cmpI_ways (a b : Int) : cmpI a b = -1 ∨ cmpI a b = 0 ∨ cmpI a b = 1 := by unfold cmpI; split <;> (try split) <;> simp
theorem cmpV_ways (K N : Int) (S : Bs) (K' N' : Int) (S' : Bs) : cmpV K N S K' N' S' = -1 ∨ cmpV K N S K' N' S' = 0 ∨ cmpV K N S K' N' S' = 1 := by
  unfold cmpV orI
  have h1 := cmpI_ways K K'
  have h2 := cmpI_ways N N'
  have h3 := cmpB_ways S S'
  split
  · split
    · exact h3
    · exact h2
  · exact h1
theorem cmpV_anti (K N : Int) (S : Bs) (K' N' : Int) (S' : Bs) : cmpV K N S K' N' S' = -cmpV K' N' S' K N S := by
  unfold cmpV orI
  have h1 := cmpI_anti K K'
  have h2 := cmpI_anti N N'
  have h3 := cmpB_anti S S'
  split <;> split <;> (try split) <;> (try split) <;> omega
theorem cmpV_self (K N : Int) (S : Bs) : cmpV K N S K N S = 0 := by unfold cmpV orI; simp [cmpI_self, cmpB_self]
theorem cmpV_zero (K N : Int) (S : Bs) (K' N' : Int) (S' : Bs) : cmpV K N S K' N' S' = 0 ↔ (K = K' ∧ N = N' ∧ S = S') := by
  unfold cmpV orI
  rw [← cmpI_zero (a := K), ← cmpI_zero (a := N), ← cmpB_zero S S']
  split
  · rename_i h
    split
    · rename_i h2; simp [h, h2]
    · rename_i h2; simp [h, h2]
  · rename_i h; simp [h]
theorem cmpV_trans (K N : Int) (S : Bs) (K' N' : Int) (S' : Bs) (K2 N2 : Int) (S2 : Bs) (h1 : cmpV K N S K' N' S' ≤ 0) (h2 : cmpV K' N' S' K2 N2 S2 ≤ 0) :
    cmpV K N S K2 N2 S2 ≤ 0 ∧ (cmpV K N S K2 N2 S2 < 0 ↔ (cmpV K N S K' N' S' < 0 ∨ cmpV K' N' S' K2 N2 S2 < 0)) := by
  have tK := cmpI_trans K K' K2
  have tN := cmpI_trans N N' N2
  have tS := cmpB_trans S S' S2
  unfold cmpV orI at *
  generalize cmpI K K' = k1 at *
  generalize cmpI K' K2 = k2 at *
  generalize cmpI K K2 = k3 at *
  generalize cmpI N N' = n1 at *
  generalize cmpI N' N2 = n2 at *
  generalize cmpI N N2 = n3 at *
  generalize cmpB S S' = s1 at *
  generalize cmpB S' S2 = s2 at *
  generalize cmpB S S2 = s3 at *
  have tK' : k1 ≤ 0 → k2 ≤ 0 → k3 ≤ 0 ∧ (k3 < 0 ↔ k1 < 0 ∨ k2 < 0) := tK
  have tN' : n1 ≤ 0 → n2 ≤ 0 → n3 ≤ 0 ∧ (n3 < 0 ↔ n1 < 0 ∨ n2 < 0) := tN
  have tS' : s1 ≤ 0 → s2 ≤ 0 → s3 ≤ 0 ∧ (s3 < 0 ↔ s1 < 0 ∨ s2 < 0) := tS
  by_cases a1 : k1 = 0 <;> by_cases a2 : k2 = 0 <;> by_cases b1 : n1 = 0 <;> by_cases b2 : n2 = 0 <;> simp only [a1, a2, b1, b2, if_true, if_false] at h1 h2 ⊢ <;> by_cases a3 : k3 = 0 <;> by_cases b3 : n3 = 0 <;> simp only [a3, b3, if_true, if_false] <;> omega

/-! ### Key, Unkey -/
def stuff : Bs → Bs
  | [] => []
  | b :: l => if b = 0 then 0 :: 255 :: stuff l else b :: stuff l
def off (N : Int) : Nat := (N + 9223372036854775808).toNat
def keyL (K N : Int) (S : Bs) : Bs := if Good K N S then (if K = 0 then [0] else if K = 1 then 1 :: fixF 8 (off N) else UInt8.ofNat K.toNat :: (stuff S ++ [0, 1])) else []
/-- How bytes behind a Kind are read: the bytes and how many they stand for. -/
inductive Rd where
  | ok (out : Bs) (n : Nat)
  | short
  | form
def Rd.on (pre : Bs) (k : Nat) : Rd → Rd
  | .ok out n => .ok (pre ++ out) (k + n)
  | .short => .short
  | .form => .form
def unst : Nat → Bs → Rd
  | _, [] => .short
  | 0, b :: l =>
    if b = 0 then match l with
      | [] => .short
      | c :: _ => if c = 1 then .ok [] 2 else .form
    else .form
  | k + 1, b :: l =>
    if b = 0 then match l with
      | [] => .short
      | c :: l' => if c = 1 then .ok [] 2 else if c = 255 then (unst k l').on [0] 2 else .form
    else (unst k l).on [b] 1
structure Un where
  K : Int
  N : Int
  S : Bs
  n : Nat
  e : Int
def unTail (K : Int) : Rd → Un
  | .ok out n => ⟨K, 0, out, 1 + n, 0⟩
  | .short => ⟨0, 0, [], 0, 3⟩
  | .form => ⟨0, 0, [], 0, 4⟩
def unkeyL : Bs → Un
  | [] => ⟨0, 0, [], 0, 3⟩
  | k :: r =>
    if k = 0 then ⟨0, 0, [], 1, 0⟩
    else if k = 1 then (if r.length < 8 then ⟨0, 0, [], 0, 3⟩ else ⟨1, (unfF 0 (r.take 8) : Int) - 9223372036854775808, [], 9, 0⟩)
    else if k = 2 ∨ k = 3 then unTail k.toNat (unst 2000 r)
    else ⟨0, 0, [], 0, 4⟩

/-! ### Show, Parse -/
def odd (b : UInt8) : Bool := decide (b.toNat < 32) || decide (126 < b.toNat) || decide (b.toNat = 92)
def hexc (n : Nat) : UInt8 := if n < 10 then UInt8.ofNat (48 + n) else UInt8.ofNat (87 + n)
def shb (b : UInt8) : Bs := if b.toNat = 39 then [39, 39] else if odd b then [92, hexc (b.toNat / 16), hexc (b.toNat % 16)] else [b]
def showS : Bs → Bs
  | [] => []
  | b :: l => shb b ++ showS l
def nullL : Bs := [110, 117, 108, 108]
def openL (K : Int) : Bs := if K = 2 then [39] else [120, 39]
def showL (K N : Int) (S : Bs) : Bs := if Good K N S then (if K = 0 then nullL else if K = 1 then Lib.itoa N else openL K ++ showS S ++ [39]) else []
/-- The number of a digit of base 16, small letters; 16: it is none. -/
def hexv (c : UInt8) : Nat := if 48 ≤ c.toNat ∧ c.toNat ≤ 57 then c.toNat - 48 else if 97 ≤ c.toNat ∧ c.toNat ≤ 102 then c.toNat - 87 else 16
/-- The byte that is written at the beginning, and by how many bytes. -/
def pbyte : Bs → Option (UInt8 × Nat)
  | [] => none
  | c :: l =>
    if c.toNat = 39 then match l with
      | [] => none
      | d :: _ => if d.toNat = 39 then some (39, 2) else none
    else if c.toNat = 92 then match l with
      | a :: b :: _ => if hexv a < 16 ∧ hexv b < 16 ∧ odd (UInt8.ofNat (16 * hexv a + hexv b)) then some (UInt8.ofNat (16 * hexv a + hexv b), 3) else none
      | _ => none
    else if odd c then none else some (c, 1)
def pq : Nat → Bs → Option (Bs × Nat)
  | 0, l => match pbyte l with
    | some _ => none
    | none => if l.head? = some 39 then some ([], 1) else none
  | k + 1, l => match pbyte l with
    | some (b, n) => (pq k (l.drop n)).map fun x => (b :: x.1, n + x.2)
    | none => if l.head? = some 39 then some ([], 1) else none
/-- The number whose digits these bytes are. -/
def intAt (l : Bs) : Option Int := match Lib.atoiAll l with
  | .ok n => if Lib.itoa n = l then some n else none
  | _ => none
def pint : Nat → Bs → Option (Int × Nat)
  | 0, _ => none
  | m + 1, s => match intAt (s.take (m + 1)) with
    | some n => some (n, m + 1)
    | none => pint m s
def noneU : Un := ⟨0, 0, [], 0, 4⟩
def quotedU (K : Int) (from' : Nat) : Option (Bs × Nat) → Un
  | some (out, n) => ⟨K, 0, out, from' + n, 0⟩
  | none => noneU
def numU : Option (Int × Nat) → Un
  | some (n, m) => ⟨1, n, [], m, 0⟩
  | none => noneU
def parseL (s : Bs) : Un :=
  if nullL.isPrefixOf s then ⟨0, 0, [], 4, 0⟩
  else if [39].isPrefixOf s then quotedU 2 1 (pq 2000 (s.drop 1))
  else if [120, 39].isPrefixOf s then quotedU 3 2 (pq 2000 (s.drop 2))
  else numU (pint (min s.length 20) s)
end Va
end Go.Proofs.YtiellodbkanciaaGreatDoor

/-
  Laws between Key and Unkey, Show and Parse of layer 6; how keys stand. No program in sight.
-/
namespace Go.Proofs.YtiellodbkanciaaGreatDoor
namespace Va
open Num (fixF unfF fixF_length)

/-! ### strings.ReplaceAll of byte 0 -/
theorem stuff_cons (b : UInt8) (l : Bs) : stuff (b :: l) = (if b = 0 then [0, 255] else [b]) ++ stuff l := by
  rw [stuff]; split <;> rfl
theorem index_zero (l : Bs) : Lib.index (0 :: l) [0] = 0 := by simp [Lib.index, List.isPrefixOf]
theorem index_other (b : UInt8) (l : Bs) (hb : b ≠ 0) : Lib.index (b :: l) [0] = if Lib.index l [0] == -1 then -1 else Lib.index l [0] + 1 := by
  rw [Lib.index]
  simp [List.isPrefixOf, Ne.symm hb]
theorem replaceK_other (k : Nat) (b : UInt8) (l : Bs) (hb : b ≠ 0) : Lib.replaceK [0] [0, 255] k (b :: l) = b :: Lib.replaceK [0] [0, 255] k l := by
  cases k with
  | zero => rfl
  | succ k =>
    have hge := Lib.index_ge l [0]
    by_cases hm : Lib.index l [0] = -1
    · have h1 : Lib.index (b :: l) [0] = -1 := by rw [index_other b l hb, hm]; rfl
      rw [Lib.replaceK, Lib.replaceK, h1, hm]
      rfl
    · obtain ⟨i, hi⟩ : ∃ i : Nat, Lib.index l [0] = i := ⟨(Lib.index l [0]).toNat, by omega⟩
      have h1 : Lib.index (b :: l) [0] = ((i + 1 : Nat) : Int) := by
        rw [index_other b l hb, if_neg (by simpa using hm), hi]; rfl
      rw [Lib.replaceK_hit _ _ _ _ _ h1, Lib.replaceK_hit _ _ _ _ _ hi]
      simp
theorem replaceK_stuff : ∀ S : Bs, Lib.replaceK [0] [0, 255] (S.count 0) S = stuff S
  | [] => rfl
  | b :: l => by
    by_cases hb : b = 0
    · subst hb
      rw [List.count_cons_self, Lib.replaceK_hit _ _ _ _ 0 (index_zero l)]
      simp only [List.take_zero, List.nil_append, Nat.zero_add, List.length_cons, List.length_nil, List.drop_succ_cons, List.drop_zero]
      rw [replaceK_stuff l, stuff_cons, if_pos rfl]
    · rw [List.count_cons_of_ne (by simpa using hb), replaceK_other _ b l hb, replaceK_stuff l, stuff_cons, if_neg hb]
      rfl
theorem replaceAll_stuff (S : Bs) : Lib.replaceAll S [0] [0, 255] = stuff S := by
  unfold Lib.replaceAll Lib.replace Lib.replaceNum
  rw [if_neg (by decide), if_pos (by omega), Lib.count_one, replaceK_stuff]
theorem stuff_length (S : Bs) : (stuff S).length ≤ 2 * S.length := by
  induction S with
  | nil => simp [stuff]
  | cons b l ih => rw [stuff_cons]; split <;> simp <;> omega

/-! ### Key and Unkey -/
theorem unst_stuff : ∀ (S : Bs) (k : Nat) (r : Bs), S.length ≤ k → unst k (stuff S ++ 0 :: 1 :: r) = .ok S ((stuff S).length + 2)
  | [], k, r, _ => by cases k <;> simp [stuff, unst]
  | b :: l, k, r, h => by
    obtain ⟨k, rfl⟩ : ∃ j, k = j + 1 := ⟨k - 1, by simp at h; omega⟩
    have ih := unst_stuff l k r (by simpa using h)
    by_cases hb : b = 0
    · subst hb
      simp only [stuff, if_true, List.cons_append, unst, if_neg (by decide : ¬ (255 : UInt8) = 1), ih, Rd.on]
      simp; omega
    · simp only [stuff, hb, if_false, List.cons_append, unst, ih, Rd.on]
      simp; omega
theorem on_ok {pre : Bs} {k : Nat} {x : Rd} {S : Bs} {n : Nat} (h : x.on pre k = .ok S n) : ∃ S' n', x = .ok S' n' ∧ S = pre ++ S' ∧ n = k + n' := by
  cases x with
  | ok S' n' => simp only [Rd.on, Rd.ok.injEq] at h; exact ⟨S', n', rfl, h.1.symm, h.2.symm⟩
  | short => cases h
  | form => cases h
theorem unst_back : ∀ (k : Nat) (l S : Bs) (n : Nat), unst k l = .ok S n → n ≤ l.length ∧ S.length ≤ k ∧ l.take n = stuff S ++ [0, 1]
  | 0, l, S, n, h => by
    match l with
    | [] => simp [unst] at h
    | b :: l =>
      simp only [unst] at h
      split at h
      · rename_i hb
        subst hb
        match l with
        | [] => simp at h
        | c :: l =>
          simp only at h
          split at h
          · rename_i hc
            subst hc
            simp only [Rd.ok.injEq] at h
            obtain ⟨rfl, rfl⟩ := h
            simp [stuff]
          · cases h
      · cases h
  | k + 1, l, S, n, h => by
    match l with
    | [] => simp [unst] at h
    | b :: l =>
      simp only [unst] at h
      split at h
      · rename_i hb
        subst hb
        match l with
        | [] => simp at h
        | c :: l =>
          simp only at h
          split at h
          · rename_i hc
            subst hc
            simp only [Rd.ok.injEq] at h
            obtain ⟨rfl, rfl⟩ := h
            simp [stuff]
          · split at h
            · rename_i hc
              subst hc
              obtain ⟨S', n', h', rfl, rfl⟩ := on_ok h
              obtain ⟨h1, h2, h3⟩ := unst_back k l S' n' h'
              refine ⟨by simp; omega, by simpa using h2, ?_⟩
              rw [show 2 + n' = n' + 2 by omega]
              simp [stuff, h3]
            · cases h
      · rename_i hb
        obtain ⟨S', n', h', rfl, rfl⟩ := on_ok h
        obtain ⟨h1, h2, h3⟩ := unst_back k l S' n' h'
        refine ⟨by simp; omega, by simpa using h2, ?_⟩
        rw [show 1 + n' = n' + 1 by omega]
        simp [stuff, hb, h3]
def InI (N : Int) : Prop := -9223372036854775808 ≤ N ∧ N ≤ 9223372036854775807
theorem off_lt {N : Int} (h : InI N) : off N < 18446744073709551616 := by unfold InI at h; unfold off; omega
theorem off_back {N : Int} (h : InI N) : ((off N : Nat) : Int) - 9223372036854775808 = N := by unfold InI at h; unfold off; omega
theorem unf_off {N : Int} (h : InI N) : unfF 0 (fixF 8 (off N)) = off N := by
  rw [Num.unf_fix, show (256 : Nat) ^ 8 = 18446744073709551616 by decide]; exact Nat.mod_eq_of_lt (off_lt h)
theorem unkey_key {K N : Int} {S : Bs} (h : Good K N S) (hN : InI N) (r : Bs) : unkeyL (keyL K N S ++ r) = ⟨K, N, S, (keyL K N S).length, 0⟩ := by
  unfold keyL
  rw [if_pos h]
  rcases h with ⟨rfl, rfl, rfl⟩ | ⟨rfl, rfl⟩ | ⟨rfl | rfl, rfl, hS⟩
  · simp [unkeyL]
  · have hl := fixF_length 8 (off N)
    rw [if_neg (by decide), if_pos rfl]
    simp only [List.cons_append, unkeyL, if_neg (by decide : ¬ (1 : UInt8) = 0), if_true, List.length_append, hl]
    rw [if_neg (by omega), List.take_append_of_le_length (by omega), List.take_of_length_le (by omega), unf_off hN, off_back hN]
    simp [hl]
  · rw [if_neg (by decide), if_neg (by decide)]
    have e : UInt8.ofNat (2 : Int).toNat = 2 := rfl
    simp only [e, List.cons_append, List.append_assoc, List.nil_append, unkeyL, if_neg (by decide : ¬ (2 : UInt8) = 0), if_neg (by decide : ¬ (2 : UInt8) = 1)]
    rw [if_pos (by decide), unst_stuff S 2000 r hS]
    have e2 : ((2 : UInt8).toNat : Int) = 2 := rfl
    simp only [unTail, e2, List.length_cons, List.length_append, List.length_nil, Un.mk.injEq, true_and, and_true]
    omega
  · rw [if_neg (by decide), if_neg (by decide)]
    have e : UInt8.ofNat (3 : Int).toNat = 3 := rfl
    simp only [e, List.cons_append, List.append_assoc, List.nil_append, unkeyL, if_neg (by decide : ¬ (3 : UInt8) = 0), if_neg (by decide : ¬ (3 : UInt8) = 1)]
    rw [if_pos (by decide), unst_stuff S 2000 r hS]
    have e2 : ((3 : UInt8).toNat : Int) = 3 := rfl
    simp only [unTail, e2, List.length_cons, List.length_append, List.length_nil, Un.mk.injEq, true_and, and_true]
    omega
theorem fix_unf (l : Bs) : fixF l.length (unfF 0 l) = l := by
  have key : ∀ r : Bs, fixF r.length (unfF 0 r.reverse) = r.reverse := by
    intro r
    induction r with
    | nil => rfl
    | cons b r ih =>
      have hb : b.toNat < 256 := b.toNat_lt
      rw [List.reverse_cons, Num.unfF_append, List.length_cons, fixF]
      have e1 : (unfF 0 r.reverse * 256 + b.toNat) / 256 = unfF 0 r.reverse := by omega
      have e2 : UInt8.ofNat (unfF 0 r.reverse * 256 + b.toNat) = b := by
        apply UInt8.toNat_inj.1
        rw [Num.ofNat_toNat]; omega
      rw [e1, e2, ih]
  have h := key l.reverse
  simpa using h
theorem unf8_lt (l : Bs) (h : l.length = 8) : unfF 0 l < 18446744073709551616 := by
  have := Num.unfF_lt l 0
  rw [h, show (256 : Nat) ^ 8 = 18446744073709551616 by decide] at this
  omega
theorem off_of (n : Nat) : off ((n : Int) - 9223372036854775808) = n := by unfold off; omega
/-- What an answer that tells an error holds beside it. -/
def Un.Bare (u : Un) : Prop := u.K = 0 ∧ u.N = 0 ∧ u.S = [] ∧ u.n = 0
theorem unTail_bare (K : Int) (x : Rd) (h : (unTail K x).e ≠ 0) : (unTail K x).Bare := by
  cases x with
  | ok => exact absurd rfl h
  | short => exact ⟨rfl, rfl, rfl, rfl⟩
  | form => exact ⟨rfl, rfl, rfl, rfl⟩
theorem unkey_bare (s : Bs) (h : (unkeyL s).e ≠ 0) : (unkeyL s).Bare := by
  unfold unkeyL at h ⊢
  match s with
  | [] => exact ⟨rfl, rfl, rfl, rfl⟩
  | k :: r =>
    simp only at h ⊢
    split
    · rename_i h0; rw [if_pos h0] at h; exact absurd rfl h
    · rename_i h0
      rw [if_neg h0] at h
      split
      · rename_i h1
        rw [if_pos h1] at h
        split
        · exact ⟨rfl, rfl, rfl, rfl⟩
        · rename_i h2; rw [if_neg h2] at h; exact absurd rfl h
      · rename_i h1
        rw [if_neg h1] at h
        split
        · rename_i h2; rw [if_pos h2] at h; exact unTail_bare _ _ h
        · exact ⟨rfl, rfl, rfl, rfl⟩
theorem unkey_back (s : Bs) (h : (unkeyL s).e = 0) : 1 ≤ (unkeyL s).n ∧ (unkeyL s).n ≤ s.length ∧ InI (unkeyL s).N ∧ Good (unkeyL s).K (unkeyL s).N (unkeyL s).S ∧ keyL (unkeyL s).K (unkeyL s).N (unkeyL s).S = s.take (unkeyL s).n := by
  unfold unkeyL at h ⊢
  match s with
  | [] => simp at h
  | k :: r =>
    simp only at h ⊢
    split
    · rename_i h0
      subst h0
      exact ⟨Nat.le_refl _, by simp, by unfold InI; simp, good_null, by simp [keyL, good_null]⟩
    · rename_i h0
      rw [if_neg h0] at h
      split
      · rename_i h1
        subst h1
        rw [if_pos rfl] at h
        split
        · rename_i h2; rw [if_pos h2] at h; simp at h
        · rename_i h2
          have hl : (r.take 8).length = 8 := by simp; omega
          have hlt := unf8_lt _ hl
          refine ⟨by simp, by simp; omega, by unfold InI; simp only; omega, good_int _, ?_⟩
          simp only [keyL, if_pos (good_int _), if_neg (by decide : ¬ (1 : Int) = 0), if_true, off_of]
          have hfu := fix_unf (r.take 8)
          rw [hl] at hfu
          rw [hfu]
          rfl
      · rename_i h1
        rw [if_neg h1] at h
        split
        · rename_i h2
          rw [if_pos h2] at h
          cases hx : unst 2000 r with
          | short => rw [hx] at h; simp [unTail] at h
          | form => rw [hx] at h; simp [unTail] at h
          | ok S n =>
            obtain ⟨g1, g2, g3⟩ := unst_back _ _ _ _ hx
            rcases h2 with rfl | rfl
            · have e2 : ((2 : UInt8).toNat : Int) = 2 := rfl
              have e3 : UInt8.ofNat (2 : Int).toNat = 2 := rfl
              simp only [unTail, e2]
              refine ⟨by omega, by simp; omega, by unfold InI; decide, good_text g2, ?_⟩
              simp only [keyL, if_pos (good_text g2), if_neg (by decide : ¬ (2 : Int) = 0), if_neg (by decide : ¬ (2 : Int) = 1), e3]
              rw [Nat.add_comm 1 n, List.take_succ_cons, g3]
            · have e2 : ((3 : UInt8).toNat : Int) = 3 := rfl
              have e3 : UInt8.ofNat (3 : Int).toNat = 3 := rfl
              simp only [unTail, e2]
              refine ⟨by omega, by simp; omega, by unfold InI; decide, good_blob g2, ?_⟩
              simp only [keyL, if_pos (good_blob g2), if_neg (by decide : ¬ (3 : Int) = 0), if_neg (by decide : ¬ (3 : Int) = 1), e3]
              rw [Nat.add_comm 1 n, List.take_succ_cons, g3]
        · rename_i h2
          rw [if_neg h2] at h
          simp at h

/-! ### How keys stand -/
/-- Two texts part at a byte: the first one is below, or above. -/
def Part (x y : Bs) (lt : Prop) : Prop := ∃ (p : Bs) (c d : UInt8) (x' y' : Bs), x = p ++ c :: x' ∧ y = p ++ d :: y' ∧ c ≠ d ∧ (c < d ↔ lt)
theorem Part.cons {x y : Bs} {lt : Prop} (q : Bs) (h : Part x y lt) : Part (q ++ x) (q ++ y) lt := by
  obtain ⟨p, c, d, x', y', rfl, rfl, h1, h2⟩ := h
  exact ⟨q ++ p, c, d, x', y', by simp, by simp, h1, h2⟩
theorem less_pre : ∀ (p x y : Bs), Op.bytesLess (p ++ x) (p ++ y) = Op.bytesLess x y
  | [], _, _ => rfl
  | b :: p, x, y => by
    have : ¬ b < b := fun h => by have := UInt8.lt_iff_toNat_lt.1 h; omega
    simp only [List.cons_append, Op.bytesLess]
    rw [less_pre p x y]
    simp
theorem Part.less {x y : Bs} {lt : Prop} [Decidable lt] (h : Part x y lt) (u v : Bs) : Op.bytesLess (x ++ u) (y ++ v) = decide lt := by
  obtain ⟨p, c, d, x', y', rfl, rfl, h1, h2⟩ := h
  rw [List.append_assoc, List.append_assoc, less_pre]
  simp only [List.cons_append, Op.bytesLess]
  have : (c == d) = false := by simpa using h1
  rw [this]
  simp [h2]
theorem Part.ne {x y : Bs} {lt : Prop} (h : Part x y lt) : x ≠ y := by
  obtain ⟨p, c, d, x', y', rfl, rfl, h1, h2⟩ := h
  intro e
  have := List.append_cancel_left e
  simp at this
  exact h1 this.1
theorem Part.no_pre {x y : Bs} {lt : Prop} (h : Part x y lt) : y.take x.length ≠ x := by
  obtain ⟨p, c, d, x', y', rfl, rfl, h1, h2⟩ := h
  intro e
  have h3 := congrArg (fun l => l[p.length]?) e
  simp only [List.getElem?_take] at h3
  rw [if_pos (by simp)] at h3
  simp at h3
  exact h1 h3.symm
theorem Part.no_pre' {x y : Bs} {lt : Prop} (h : Part x y lt) : x.take y.length ≠ y := by
  obtain ⟨p, c, d, x', y', rfl, rfl, h1, h2⟩ := h
  intro e
  have h3 := congrArg (fun l => l[p.length]?) e
  simp only [List.getElem?_take] at h3
  rw [if_pos (by simp)] at h3
  simp at h3
  exact h1 h3
theorem part_same : ∀ (x y : Bs), x.length = y.length → x ≠ y → Part x y (Op.bytesLess x y = true)
  | [], [], _, h => absurd rfl h
  | [], _ :: _, h, _ => by simp at h
  | _ :: _, [], h, _ => by simp at h
  | a :: x, b :: y, h, hne => by
    by_cases hab : a = b
    · subst hab
      have h1 := part_same x y (by simpa using h) (fun e => hne (by rw [e]))
      have h2 := h1.cons [a]
      have e : Op.bytesLess (a :: x) (a :: y) = Op.bytesLess x y := less_pre [a] x y
      rw [e]
      exact h2
    · refine ⟨[], a, b, x, y, rfl, rfl, hab, ?_⟩
      have : (a == b) = false := by simpa using hab
      simp [Op.bytesLess, this]
theorem fix_off_less {N N' : Int} (h : InI N) (h' : InI N') : Op.bytesLess (fixF 8 (off N)) (fixF 8 (off N')) = decide (N < N') := by
  have e := Num.fix8_less (off N) (off N') (off_lt h) (off_lt h')
  unfold Num.fix8 at e
  rw [e]
  unfold InI at h h'
  unfold off
  apply decide_eq_decide.2
  omega
theorem part_stuff : ∀ (S S' : Bs), S ≠ S' → Part (stuff S ++ [0, 1]) (stuff S' ++ [0, 1]) (cmpB S S' < 0)
  | [], [], h => absurd rfl h
  | [], b :: l, _ => by
    have hc : cmpB [] (b :: l) < 0 := by simp [cmpB, Lib.compareBytes]
    by_cases hb : b = 0
    · subst hb
      exact ⟨[0], 1, 255, [], stuff l ++ [0, 1], rfl, by simp [stuff], by decide, iff_of_true (by decide) hc⟩
    · exact ⟨[], 0, b, [1], stuff l ++ [0, 1], rfl, by simp [stuff, hb], Ne.symm hb, iff_of_true (by
        apply UInt8.lt_iff_toNat_lt.2
        have : b.toNat ≠ 0 := fun e => hb (UInt8.toNat_inj.1 e)
        show 0 < _; omega) hc⟩
  | b :: l, [], _ => by
    have hc : ¬ cmpB (b :: l) [] < 0 := by simp [cmpB, Lib.compareBytes]
    by_cases hb : b = 0
    · subst hb
      exact ⟨[0], 255, 1, stuff l ++ [0, 1], [], by simp [stuff], rfl, by decide, iff_of_false (by decide) hc⟩
    · exact ⟨[], b, 0, stuff l ++ [0, 1], [1], by simp [stuff, hb], rfl, hb, iff_of_false (fun h => by
        have := UInt8.lt_iff_toNat_lt.1 h
        have e : (0 : UInt8).toNat = 0 := rfl
        omega) hc⟩
  | a :: as1, b :: bs, hne => by
    by_cases hab : a = b
    · subst hab
      have h1 := part_stuff as1 bs (fun e => hne (by rw [e]))
      have e : cmpB (a :: as1) (a :: bs) = cmpB as1 bs := by simp [cmpB, Lib.compareBytes]
      rw [e, stuff_cons, stuff_cons, List.append_assoc, List.append_assoc]
      exact h1.cons _
    · have hc : (cmpB (a :: as1) (b :: bs) < 0) ↔ a < b := by
        unfold cmpB Lib.compareBytes
        by_cases h1 : a < b
        · simp [h1]
        · have h2 : b < a := by
            apply UInt8.lt_iff_toNat_lt.2
            have g1 : ¬ a.toNat < b.toNat := fun h => h1 (UInt8.lt_iff_toNat_lt.2 h)
            have g2 : a.toNat ≠ b.toNat := fun e => hab (UInt8.toNat_inj.1 e)
            omega
          simp [h1, h2]
      refine ⟨[], a, b, (if a = 0 then 255 :: stuff as1 else stuff as1) ++ [0, 1], (if b = 0 then 255 :: stuff bs else stuff bs) ++ [0, 1], ?_, ?_, hab, hc.symm⟩
      · by_cases ha : a = 0 <;> simp [stuff, ha]
      · by_cases hb : b = 0 <;> simp [stuff, hb]
theorem part_key {K N : Int} {S : Bs} {K' N' : Int} {S' : Bs} (h : Good K N S) (h' : Good K' N' S') (hN : InI N) (hN' : InI N') (hne : cmpV K N S K' N' S' ≠ 0) :
    Part (keyL K N S) (keyL K' N' S') (cmpV K N S K' N' S' < 0) := by
  have hk : ∀ {K N : Int} {S : Bs}, Good K N S → ∃ t, keyL K N S = UInt8.ofNat K.toNat :: t := by
    intro K N S g
    unfold keyL
    rw [if_pos g]
    rcases g with ⟨rfl, rfl, rfl⟩ | ⟨rfl, rfl⟩ | ⟨rfl | rfl, rfl, _⟩
    · exact ⟨[], rfl⟩
    · exact ⟨_, rfl⟩
    · exact ⟨_, rfl⟩
    · exact ⟨_, rfl⟩
  have hr : ∀ {K N : Int} {S : Bs}, Good K N S → 0 ≤ K ∧ K ≤ 3 := by
    intro K N S g
    rcases g with ⟨rfl, rfl, rfl⟩ | ⟨rfl, rfl⟩ | ⟨rfl | rfl, rfl, _⟩ <;> omega
  by_cases hK : K = K'
  · subst hK
    have ev : cmpV K N S K N' S' = orI (cmpI N N') (cmpB S S') := by unfold cmpV; rw [cmpI_self]; rfl
    rw [ev] at hne ⊢
    unfold keyL
    rw [if_pos h, if_pos h']
    rcases h with ⟨rfl, rfl, rfl⟩ | ⟨rfl, rfl⟩ | ⟨hK, rfl, hS⟩
    · have e1 : N' = 0 := by rcases h' with ⟨_, h, _⟩ | ⟨h, _⟩ | ⟨h | h, _, _⟩ <;> omega
      have e2 : S' = [] := by rcases h' with ⟨_, _, h⟩ | ⟨h, _⟩ | ⟨h | h, _, _⟩ <;> first | exact h | omega
      subst e1; subst e2
      exact absurd (by rw [cmpI_self]; rfl) hne
    · have e2 : S' = [] := by rcases h' with ⟨h, _, _⟩ | ⟨_, h⟩ | ⟨h | h, _, _⟩ <;> first | exact h | omega
      subst e2
      have e3 : orI (cmpI N N') (cmpB [] []) = cmpI N N' := by
        unfold orI
        split
        · rename_i h; rw [h]; rfl
        · rfl
      rw [e3] at hne ⊢
      rw [if_neg (by decide), if_pos rfl]
      have hNN : N ≠ N' := fun e => hne (cmpI_zero.2 e)
      have hff : fixF 8 (off N) ≠ fixF 8 (off N') := fun e => by
        have := congrArg (unfF 0) e
        rw [unf_off hN, unf_off hN'] at this
        apply hNN
        rw [← off_back hN, ← off_back hN', this]
      have hp := (part_same _ _ (by rw [fixF_length, fixF_length]) hff).cons [1]
      rw [fix_off_less hN hN'] at hp
      have e4 : (decide (N < N') = true) = (cmpI N N' < 0) := by simp [cmpI_neg]
      rw [e4] at hp
      exact hp
    · have e1 : N' = 0 := by rcases h' with ⟨h, _, _⟩ | ⟨h, _⟩ | ⟨_, h, _⟩ <;> omega
      subst e1
      have e3 : orI (cmpI 0 0) (cmpB S S') = cmpB S S' := by rw [cmpI_self]; rfl
      rw [e3] at hne ⊢
      simp only [if_neg (by omega : ¬ K = 0), if_neg (by omega : ¬ K = 1)]
      have hSS : S ≠ S' := fun e => hne ((cmpB_zero _ _).2 e)
      exact (part_stuff S S' hSS).cons [UInt8.ofNat K.toNat]
  · obtain ⟨t, ht⟩ := hk h
    obtain ⟨t', ht'⟩ := hk h'
    have r1 := hr h
    have r2 := hr h'
    rw [ht, ht']
    have ev : cmpV K N S K' N' S' = cmpI K K' := by
      unfold cmpV orI
      rw [if_neg (fun e => hK (cmpI_zero.1 e))]
    rw [ev]
    refine ⟨[], _, _, t, t', rfl, rfl, ?_, ?_⟩
    · intro e
      have := congrArg UInt8.toNat e
      rw [Num.ofNat_toNat, Num.ofNat_toNat] at this
      omega
    · rw [UInt8.lt_iff_toNat_lt, Num.ofNat_toNat, Num.ofNat_toNat, cmpI_neg]
      omega
end Va
end Go.Proofs.YtiellodbkanciaaGreatDoor

/-
  Laws between Show and Parse of layer 6: bytes as they are written, numbers and their digits. No program in sight.
-/
namespace Go.Proofs.YtiellodbkanciaaGreatDoor
namespace Va
open Num (fixF unfF fixF_length)

/-! ### Bytes as they are written -/
theorem hexv_hexc : ∀ n : Fin 16, hexv (hexc n.val) = n.val := by decide +kernel
theorem hexc_hexv : ∀ c : Fin 256, hexv (UInt8.ofNat c.val) < 16 → hexc (hexv (UInt8.ofNat c.val)) = UInt8.ofNat c.val := by decide +kernel
theorem byte_fin (c : UInt8) : ∃ n : Fin 256, c = UInt8.ofNat n.val := ⟨⟨c.toNat, c.toNat_lt⟩, UInt8.toNat_inj.1 (by rw [Num.ofNat_toNat]; have := c.toNat_lt; simp only; omega)⟩
theorem hexc_back {c : UInt8} (h : hexv c < 16) : hexc (hexv c) = c := by
  obtain ⟨n, rfl⟩ := byte_fin c
  exact hexc_hexv n h
theorem hexv_back (n : Nat) (h : n < 16) : hexv (hexc n) = n := hexv_hexc ⟨n, h⟩
theorem byte_of (b : UInt8) : UInt8.ofNat (16 * (b.toNat / 16) + b.toNat % 16) = b := by
  apply UInt8.toNat_inj.1
  rw [Num.ofNat_toNat]
  have := b.toNat_lt
  omega
theorem odd_39 {b : UInt8} (h : odd b = true) : b.toNat ≠ 39 := by
  intro e
  unfold odd at h
  rw [e] at h
  exact absurd h (by decide)
theorem odd_92 {b : UInt8} (h : odd b = false) : b.toNat ≠ 92 := by
  intro e
  unfold odd at h
  rw [e] at h
  exact absurd h (by decide)
theorem pbyte_shb (b : UInt8) (r : Bs) : pbyte (shb b ++ r) = some (b, (shb b).length) := by
  unfold shb
  by_cases h39 : b.toNat = 39
  · have e : b = 39 := UInt8.toNat_inj.1 h39
    subst e
    rfl
  · rw [if_neg h39]
    cases ho : odd b with
    | true =>
      have hb := b.toNat_lt
      rw [if_pos rfl]
      have e92 : (92 : UInt8).toNat = 92 := rfl
      simp only [List.cons_append, List.nil_append, pbyte, e92, if_neg (by decide : ¬ 92 = 39), if_true]
      rw [hexv_back _ (by omega), hexv_back _ (by omega), byte_of]
      rw [if_pos ⟨by omega, by omega, ho⟩]
      rfl
    | false =>
      have h92 := odd_92 ho
      simp [pbyte, h39, h92, ho]
theorem pbyte_back : ∀ (l : Bs) (b : UInt8) (n : Nat), pbyte l = some (b, n) → 1 ≤ n ∧ n ≤ l.length ∧ l.take n = shb b
  | [], b, n, h => by simp [pbyte] at h
  | c :: l, b, n, h => by
    simp only [pbyte] at h
    split at h
    · rename_i h39
      have e : c = 39 := UInt8.toNat_inj.1 h39
      subst e
      match l with
      | [] => simp at h
      | d :: l =>
        simp only at h
        split at h
        · rename_i hd
          have e2 : d = 39 := UInt8.toNat_inj.1 hd
          subst e2
          simp only [Option.some.injEq, Prod.mk.injEq] at h
          obtain ⟨rfl, rfl⟩ := h
          exact ⟨by decide, by simp, rfl⟩
        · cases h
    · rename_i h39
      split at h
      · rename_i h92
        have e : c = 92 := UInt8.toNat_inj.1 h92
        subst e
        match l with
        | [] => simp at h
        | [_] => simp at h
        | x :: y :: l =>
          simp only at h
          split at h
          · rename_i hh
            obtain ⟨h1, h2, h3⟩ := hh
            simp only [Option.some.injEq, Prod.mk.injEq] at h
            obtain ⟨rfl, rfl⟩ := h
            refine ⟨by decide, by simp, ?_⟩
            have et : (UInt8.ofNat (16 * hexv x + hexv y)).toNat = 16 * hexv x + hexv y := by rw [Num.ofNat_toNat]; omega
            unfold shb
            rw [if_neg (odd_39 h3), if_pos h3, et]
            rw [show (16 * hexv x + hexv y) / 16 = hexv x by omega, show (16 * hexv x + hexv y) % 16 = hexv y by omega, hexc_back h1, hexc_back h2]
            rfl
          · cases h
      · rename_i h92
        split at h
        · cases h
        · rename_i ho
          simp only [Option.some.injEq, Prod.mk.injEq] at h
          obtain ⟨rfl, rfl⟩ := h
          refine ⟨by decide, by simp, ?_⟩
          unfold shb
          rw [if_neg h39, if_neg ho]
          rfl
theorem shb_pos (b : UInt8) : 1 ≤ (shb b).length := by unfold shb; split <;> (try split) <;> simp
theorem shb_le (b : UInt8) : (shb b).length ≤ 3 := by unfold shb; split <;> (try split) <;> simp
theorem pbyte_end (r : Bs) (h : r.head? ≠ some 39) : pbyte (39 :: r) = none := by
  have e : (39 : UInt8).toNat = 39 := rfl
  match r with
  | [] => rfl
  | d :: r =>
    have : d.toNat ≠ 39 := fun e => h (by rw [show d = 39 from UInt8.toNat_inj.1 e]; rfl)
    simp [pbyte, this]
theorem pq_show : ∀ (S : Bs) (k : Nat) (r : Bs), S.length ≤ k → r.head? ≠ some 39 → pq k (showS S ++ 39 :: r) = some (S, (showS S).length + 1)
  | [], k, r, _, h => by
    cases k <;> simp [showS, pq, pbyte_end r h]
  | b :: l, k, r, hk, h => by
    obtain ⟨k, rfl⟩ : ∃ j, k = j + 1 := ⟨k - 1, by simp at hk; omega⟩
    have ih := pq_show l k r (by simpa using hk) h
    simp only [showS, List.append_assoc, pq, pbyte_shb, List.drop_left, ih, Option.map_some, List.length_append]
    rw [Nat.add_assoc]
theorem pq_back : ∀ (k : Nat) (l S : Bs) (n : Nat), pq k l = some (S, n) → 1 ≤ n ∧ n ≤ l.length ∧ S.length ≤ k ∧ l.take n = showS S ++ [39]
  | 0, l, S, n, h => by
    simp only [pq] at h
    split at h
    · cases h
    · split at h
      · rename_i hh
        simp only [Option.some.injEq, Prod.mk.injEq] at h
        obtain ⟨rfl, rfl⟩ := h
        match l, hh with
        | c :: l, hh =>
          simp at hh
          subst hh
          exact ⟨by decide, by simp, by simp, rfl⟩
      · cases h
  | k + 1, l, S, n, h => by
    simp only [pq] at h
    split at h
    · rename_i b m hb
      obtain ⟨g1, g2, g3⟩ := pbyte_back _ _ _ hb
      cases hq : pq k (l.drop m) with
      | none => rw [hq] at h; cases h
      | some x =>
        obtain ⟨S', n'⟩ := x
        rw [hq] at h
        simp only [Option.map_some, Option.some.injEq, Prod.mk.injEq] at h
        obtain ⟨rfl, rfl⟩ := h
        obtain ⟨k1, k2, k3, k4⟩ := pq_back k _ _ _ hq
        rw [List.length_drop] at k2
        refine ⟨by omega, by omega, by simpa using k3, ?_⟩
        rw [List.take_add, k4, g3, showS, List.append_assoc]
    · split at h
      · rename_i hh
        simp only [Option.some.injEq, Prod.mk.injEq] at h
        obtain ⟨rfl, rfl⟩ := h
        match l, hh with
        | c :: l, hh =>
          simp at hh
          subst hh
          exact ⟨by decide, by simp, by simp, rfl⟩
      · cases h
theorem showS_length (S : Bs) : (showS S).length ≤ 3 * S.length := by
  induction S with
  | nil => simp [showS]
  | cons b l ih => have := shb_le b; simp [showS]; omega

/-! ### Numbers and their digits -/
theorem parse10_append : ∀ (l m : Bs) (acc : Nat), Lib.parseUint10 acc (l ++ m) = (match Lib.parseUint10 acc l with | .ok a => Lib.parseUint10 a m | x => x)
  | [], m, acc => by simp [Lib.parseUint10]
  | c :: l, m, acc => by
    simp only [List.cons_append, Lib.parseUint10]
    split
    · split
      · rfl
      · split
        · rfl
        · exact parse10_append l m _
    · rfl
theorem digit_nat {d : Nat} (h : d < 10) : (UInt8.ofNat (48 + d)).toNat = 48 + d := by rw [Num.ofNat_toNat]; omega
theorem parse10_digits (u : Nat) (h : u < 18446744073709551616) : Lib.parseUint10 0 (Lib.decDigits u) = .ok u := by
  induction u using Nat.strongRecOn with
  | _ u ih =>
    rw [Lib.decDigits]
    by_cases hu : u < 10
    · rw [dif_pos hu]
      simp only [Lib.parseUint10, digit_nat hu]
      rw [if_pos (by omega), if_neg (by omega), if_neg (by omega)]
      congr 1; omega
    · rw [dif_neg hu, parse10_append, ih (u / 10) (by omega) (by omega)]
      simp only [Lib.parseUint10, digit_nat (Nat.mod_lt u (by decide : 10 > 0))]
      rw [if_pos (by omega), if_neg (by omega), if_neg (by omega)]
      congr 1; omega
theorem digits_all (u : Nat) : ∀ c ∈ Lib.decDigits u, 48 ≤ c.toNat ∧ c.toNat ≤ 57 := by
  induction u using Nat.strongRecOn with
  | _ u ih =>
    rw [Lib.decDigits]
    by_cases hu : u < 10
    · rw [dif_pos hu]
      intro c hc
      simp only [List.mem_singleton] at hc
      subst hc
      rw [digit_nat hu]; omega
    · rw [dif_neg hu]
      intro c hc
      rcases List.mem_append.1 hc with hc | hc
      · exact ih (u / 10) (by omega) c hc
      · simp only [List.mem_singleton] at hc
        subst hc
        rw [digit_nat (Nat.mod_lt u (by decide : 10 > 0))]; omega
theorem digits_pos (u : Nat) : 1 ≤ (Lib.decDigits u).length := by rw [Lib.decDigits_length]; exact Lib.nDigits_pos u
theorem digits_cons (u : Nat) : ∃ c r, Lib.decDigits u = c :: r ∧ 48 ≤ c.toNat ∧ c.toNat ≤ 57 := by
  have h := digits_pos u
  have ha := digits_all u
  match hd : Lib.decDigits u with
  | [] => rw [hd] at h; simp at h
  | c :: r => exact ⟨c, r, rfl, ha c (by rw [hd]; simp)⟩
theorem nDigits_le {u : Nat} (h : u < 10000000000000000000) : Lib.nDigits u ≤ 19 := by
  have key : ∀ (k u : Nat), u < 10 ^ k → 1 ≤ k → Lib.nDigits u ≤ k := by
    intro k
    induction k with
    | zero => intro u _ h; omega
    | succ k ih =>
      intro u hu _
      by_cases h10 : u < 10
      · rw [Lib.nDigits_small h10]; omega
      · rw [Lib.nDigits_big h10]
        have hk : 1 ≤ k := by
          rcases Nat.eq_zero_or_pos k with e | e
          · subst e; simp at hu; omega
          · exact e
        have := ih (u / 10) (by rw [Nat.pow_succ] at hu; omega) hk
        omega
  exact key 19 u h (by decide)
theorem itoa_le {n : Int} (h : InI n) : (Lib.itoa n).length ≤ 20 := by
  unfold InI at h
  unfold Lib.itoa
  split
  · have := nDigits_le (u := n.natAbs) (by omega)
    simp only [List.length_cons, Lib.decDigits_length]; omega
  · have := nDigits_le (u := n.toNat) (by omega)
    rw [Lib.decDigits_length]; omega
theorem itoa_pos (n : Int) : 1 ≤ (Lib.itoa n).length := by
  unfold Lib.itoa
  split
  · simp
  · exact digits_pos _
theorem itoa_all (n : Int) : ∀ c ∈ Lib.itoa n, (48 ≤ c.toNat ∧ c.toNat ≤ 57) ∨ c.toNat = 45 := by
  unfold Lib.itoa
  intro c hc
  split at hc
  · rcases List.mem_cons.1 hc with rfl | hc
    · exact Or.inr rfl
    · exact Or.inl (digits_all _ c hc)
  · exact Or.inl (digits_all _ c hc)
theorem atoi_itoa {n : Int} (h : InI n) : Lib.atoiAll (Lib.itoa n) = .ok n := by
  unfold InI at h
  unfold Lib.itoa
  split
  · obtain ⟨c, r, hd, h1, h2⟩ := digits_cons n.natAbs
    have hp := parse10_digits n.natAbs (by omega)
    rw [hd] at hp ⊢
    rw [Lib.atoiAll_minus]
    unfold Lib.parseMag
    rw [if_neg (by simp), hp]
    simp only [Lib.signed]
    rw [if_neg (by omega)]
    congr 1; omega
  · obtain ⟨c, r, hd, h1, h2⟩ := digits_cons n.toNat
    have hp := parse10_digits n.toNat (by omega)
    rw [hd] at hp ⊢
    rw [Lib.atoiAll_plain _ _ (by omega) (by omega)]
    unfold Lib.parseMag
    rw [if_neg (by simp), hp]
    simp only [Lib.signless]
    rw [if_neg (by omega)]
    congr 1; omega
theorem intAt_itoa {n : Int} (h : InI n) : intAt (Lib.itoa n) = some n := by
  unfold intAt
  rw [atoi_itoa h]
  simp
theorem intAt_back {l : Bs} {n : Int} (h : intAt l = some n) : InI n ∧ Lib.itoa n = l := by
  unfold intAt at h
  split at h
  · rename_i m hm
    split at h
    · rename_i hi
      obtain rfl := Option.some.inj h
      exact ⟨Lib.atoiAll_bounds hm, hi⟩
    · cases h
  · cases h
theorem pint_some : ∀ (M : Nat) (s : Bs) (n : Int) (m : Nat), pint M s = some (n, m) → 1 ≤ m ∧ m ≤ M ∧ intAt (s.take m) = some n
  | 0, _, _, _, h => by simp [pint] at h
  | M + 1, s, n, m, h => by
    simp only [pint] at h
    split at h
    · rename_i k hk
      simp only [Option.some.injEq, Prod.mk.injEq] at h
      obtain ⟨rfl, rfl⟩ := h
      exact ⟨by omega, Nat.le_refl _, hk⟩
    · obtain ⟨h1, h2, h3⟩ := pint_some M s n m h
      exact ⟨h1, by omega, h3⟩
theorem pint_is : ∀ (M : Nat) (s : Bs) (n : Int) (m : Nat), 1 ≤ m → m ≤ M → intAt (s.take m) = some n → (∀ j, m < j → j ≤ M → intAt (s.take j) = none) → pint M s = some (n, m)
  | 0, _, _, _, h, h', _, _ => by omega
  | M + 1, s, n, m, h1, h2, h3, h4 => by
    by_cases e : m = M + 1
    · subst e
      simp only [pint, h3]
    · have := h4 (M + 1) (by omega) (Nat.le_refl _)
      simp only [pint, this]
      exact pint_is M s n m h1 (by omega) h3 (fun j hj hj' => h4 j hj (by omega))
theorem pint_none : ∀ (M : Nat) (s : Bs), (∀ j, 1 ≤ j → j ≤ M → intAt (s.take j) = none) → pint M s = none
  | 0, _, _ => rfl
  | M + 1, s, h => by
    simp only [pint, h (M + 1) (by omega) (Nat.le_refl _)]
    exact pint_none M s (fun j h1 h2 => h j h1 (by omega))
/-- The number at the beginning of a text. -/
def pintL (s : Bs) : Option (Int × Nat) := pint (min s.length 20) s
theorem pint_show {n : Int} (h : InI n) (r : Bs) : pintL (Lib.itoa n ++ 41 :: r) = some (n, (Lib.itoa n).length) := by
  have h20 := itoa_le h
  refine pint_is _ _ _ _ (itoa_pos n) ?_ ?_ ?_
  · simp only [List.length_append, List.length_cons]; omega
  · rw [List.take_left, intAt_itoa h]
  · intro j hj _
    cases hx : intAt (List.take j (Lib.itoa n ++ 41 :: r)) with
    | none => rfl
    | some k =>
      obtain ⟨_, hk⟩ := intAt_back hx
      have hall := itoa_all k 41
      rw [hk] at hall
      have hm : (41 : UInt8) ∈ List.take j (Lib.itoa n ++ 41 :: r) := by
        obtain ⟨i, rfl⟩ : ∃ i, j = (Lib.itoa n).length + (i + 1) := ⟨j - (Lib.itoa n).length - 1, by omega⟩
        rw [List.take_length_add_append]
        simp
      have := hall hm
      have e : (41 : UInt8).toNat = 41 := rfl
      omega

/-! ### Show and Parse -/
theorem itoa_head (n : Int) (r : Bs) : ∃ c t, Lib.itoa n ++ r = c :: t ∧ ((48 ≤ c.toNat ∧ c.toNat ≤ 57) ∨ c.toNat = 45) := by
  have h := itoa_pos n
  have ha := itoa_all n
  match hd : Lib.itoa n with
  | [] => rw [hd] at h; simp at h
  | c :: t => exact ⟨c, t ++ r, rfl, ha c (by rw [hd]; simp)⟩
theorem parse_eq (s : Bs) : parseL s = if nullL.isPrefixOf s then ⟨0, 0, [], 4, 0⟩ else if [39].isPrefixOf s then quotedU 2 1 (pq 2000 (s.drop 1)) else if [120, 39].isPrefixOf s then quotedU 3 2 (pq 2000 (s.drop 2)) else numU (pintL s) := rfl
theorem show_null : showL 0 0 [] = nullL := by simp [showL, good_null]
theorem show_int (N : Int) : showL 1 N [] = Lib.itoa N := by simp [showL, good_int]
theorem show_text {S : Bs} (h : S.length ≤ 2000) : showL 2 0 S = 39 :: (showS S ++ [39]) := by simp [showL, good_text h, openL]
theorem show_blob {S : Bs} (h : S.length ≤ 2000) : showL 3 0 S = 120 :: 39 :: (showS S ++ [39]) := by simp [showL, good_blob h, openL]
theorem parse_show {K N : Int} {S : Bs} (h : Good K N S) (hN : InI N) (r : Bs) : parseL (showL K N S ++ 41 :: r) = ⟨K, N, S, (showL K N S).length, 0⟩ := by
  have h41 : ∀ r : Bs, (41 :: r).head? ≠ some 39 := fun r => by simp
  rw [parse_eq]
  rcases h with ⟨rfl, rfl, rfl⟩ | ⟨rfl, rfl⟩ | ⟨rfl | rfl, rfl, hS⟩
  · rw [show_null, if_pos (by simp [nullL, List.isPrefixOf])]
    rfl
  · obtain ⟨c, t, hc, h1⟩ := itoa_head N (41 :: r)
    have e110 : c ≠ 110 := fun e => by subst e; revert h1; decide
    have e39 : c ≠ 39 := fun e => by subst e; revert h1; decide
    have e120 : c ≠ 120 := fun e => by subst e; revert h1; decide
    rw [show_int, pint_show hN]
    rw [hc, if_neg (by simp [nullL, List.isPrefixOf, Ne.symm e110]), if_neg (by simp [List.isPrefixOf, Ne.symm e39]), if_neg (by simp [List.isPrefixOf, Ne.symm e120])]
    rfl
  · rw [show_text hS, if_neg (by simp [nullL, List.isPrefixOf]), if_pos (by simp [List.isPrefixOf])]
    have e : List.drop 1 (39 :: (showS S ++ [39]) ++ 41 :: r) = showS S ++ 39 :: 41 :: r := by simp
    rw [e, pq_show S 2000 _ hS (h41 r)]
    simp only [quotedU, List.length_append, List.length_cons, List.length_nil, Un.mk.injEq, true_and, and_true]
    omega
  · rw [show_blob hS, if_neg (by simp [nullL, List.isPrefixOf]), if_neg (by simp [List.isPrefixOf]), if_pos (by simp [List.isPrefixOf])]
    have e : List.drop 2 (120 :: 39 :: (showS S ++ [39]) ++ 41 :: r) = showS S ++ 39 :: 41 :: r := by simp
    rw [e, pq_show S 2000 _ hS (h41 r)]
    simp only [quotedU, List.length_append, List.length_cons, List.length_nil, Un.mk.injEq, true_and, and_true]
    omega
theorem prefix_take {p s : Bs} (h : p.isPrefixOf s = true) : s.take p.length = p := by
  have := List.isPrefixOf_iff_prefix.1 h
  exact (List.prefix_iff_eq_take.1 this).symm
theorem prefix_len {p s : Bs} (h : p.isPrefixOf s = true) : p.length ≤ s.length := (List.isPrefixOf_iff_prefix.1 h).length_le
theorem parse_bare (s : Bs) (h : (parseL s).e ≠ 0) : (parseL s).Bare := by
  rw [parse_eq] at h ⊢
  split
  · rename_i h0; rw [if_pos h0] at h; exact absurd rfl h
  · rename_i h0
    rw [if_neg h0] at h
    split
    · rename_i h1
      rw [if_pos h1] at h
      cases hq : pq 2000 (s.drop 1) with
      | none => exact ⟨rfl, rfl, rfl, rfl⟩
      | some x => rw [hq] at h; exact absurd rfl h
    · rename_i h1
      rw [if_neg h1] at h
      split
      · rename_i h2
        rw [if_pos h2] at h
        cases hq : pq 2000 (s.drop 2) with
        | none => exact ⟨rfl, rfl, rfl, rfl⟩
        | some x => rw [hq] at h; exact absurd rfl h
      · rename_i h2
        rw [if_neg h2] at h
        cases hq : pintL s with
        | none => exact ⟨rfl, rfl, rfl, rfl⟩
        | some x => rw [hq] at h; exact absurd rfl h
theorem parse_back (s : Bs) (h : (parseL s).e = 0) : 1 ≤ (parseL s).n ∧ (parseL s).n ≤ s.length ∧ InI (parseL s).N ∧ Good (parseL s).K (parseL s).N (parseL s).S ∧ showL (parseL s).K (parseL s).N (parseL s).S = s.take (parseL s).n := by
  rw [parse_eq] at h ⊢
  split
  · rename_i h0
    exact ⟨by simp, prefix_len h0, by unfold InI; decide, good_null, by simp [showL, good_null]; exact (prefix_take h0).symm⟩
  · rename_i h0
    rw [if_neg h0] at h
    split
    · rename_i h1
      rw [if_pos h1] at h
      cases hq : pq 2000 (s.drop 1) with
      | none => rw [hq] at h; simp [quotedU, noneU] at h
      | some x =>
        obtain ⟨S, n⟩ := x
        obtain ⟨g1, g2, g3, g4⟩ := pq_back _ _ _ _ hq
        have hl := prefix_len h1
        have ht := prefix_take h1
        simp only [List.length_cons, List.length_nil] at hl ht
        rw [List.length_drop] at g2
        simp only [quotedU]
        refine ⟨by omega, by omega, by unfold InI; decide, good_text g3, ?_⟩
        rw [List.take_add, g4]
        simp only [showL, if_pos (good_text g3), if_neg (by decide : ¬ (2 : Int) = 0), if_neg (by decide : ¬ (2 : Int) = 1), openL, if_true]
        rw [show s.take 1 = [39] from ht, List.append_assoc]
    · rename_i h1
      rw [if_neg h1] at h
      split
      · rename_i h2
        rw [if_pos h2] at h
        cases hq : pq 2000 (s.drop 2) with
        | none => rw [hq] at h; simp [quotedU, noneU] at h
        | some x =>
          obtain ⟨S, n⟩ := x
          obtain ⟨g1, g2, g3, g4⟩ := pq_back _ _ _ _ hq
          have hl := prefix_len h2
          have ht := prefix_take h2
          simp only [List.length_cons, List.length_nil] at hl ht
          rw [List.length_drop] at g2
          simp only [quotedU]
          refine ⟨by omega, by omega, by unfold InI; decide, good_blob g3, ?_⟩
          rw [List.take_add, g4]
          simp only [showL, if_pos (good_blob g3), if_neg (by decide : ¬ (3 : Int) = 0), if_neg (by decide : ¬ (3 : Int) = 1), openL, if_neg (by decide : ¬ (3 : Int) = 2)]
          rw [show s.take 2 = [120, 39] from ht, List.append_assoc]
      · rename_i h2
        rw [if_neg h2] at h
        cases hq : pintL s with
        | none => rw [hq] at h; simp [numU, noneU] at h
        | some x =>
          obtain ⟨n, m⟩ := x
          obtain ⟨g1, g2, g3⟩ := pint_some _ _ _ _ hq
          obtain ⟨k1, k2⟩ := intAt_back g3
          simp only [numU]
          refine ⟨g1, by omega, k1, good_int n, ?_⟩
          simp only [showL, if_pos (good_int n), if_neg (by decide : ¬ (1 : Int) = 0), if_true]
          exact k2
end Va
end Go.Proofs.YtiellodbkanciaaGreatDoor
