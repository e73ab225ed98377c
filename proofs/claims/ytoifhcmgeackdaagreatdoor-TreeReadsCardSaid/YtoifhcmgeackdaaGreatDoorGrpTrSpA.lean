/-
  Put together: SpareMath, SpareGood, SpareNum, SpareBld, SpareEnc, SpareDst, SpareDec.
-/
import Derived.Test.YtoifhcmgeackdaaGreatDoorGrpTrNum
import Derived.Test.YtoifhcmgeackdaaGreatDoorMem
import Derived.Laws.Cover1
import Derived.BigQuiet
import Derived.Deep.QuietTactic
import Derived.Test.YtoifhcmgeackdaaGreatDoorSpareShelf
import Derived.Shelf.Strings.OnBuilder
import Derived.Shelf.Strings.BuilderK
import Derived.Shelf.Strings.BuilderF
import Derived.Laws.Strings
/-
  Plain mathematics of layer 9 (spare): trunks and their pages, books of pages, what Take and Give answer. No program in sight.
-/
namespace Go.Proofs.YtoifhcmgeackdaaGreatDoor
namespace Sp
open Num (fixF unfF fixF_length hid)
open Part (numAt mid)
open Mem (Bs bs)
abbrev bl (S : ByteArray) : Bs := S.data.toList
theorem bl_bs (l : Bs) : bl (bs l) = l := rfl
theorem bs_bl (S : ByteArray) : bs (bl S) = S := rfl
theorem bs_size (l : Bs) : (bs l).size = l.length := by show l.toArray.size = _; simp
theorem bs_append (a b : Bs) : bs a ++ bs b = bs (a ++ b) := by
  apply ByteArray.ext
  simp [bs, ByteArray.data_append]
theorem bs_inj {a b : Bs} (h : bs a = bs b) : a = b := by
  have := congrArg bl h
  rwa [bl_bs, bl_bs] at this
def zeros (n : Nat) : Bs := List.replicate n 0
theorem zeros_len (n : Nat) : (zeros n).length = n := List.length_replicate

/-! ### Trunks and their pages -/
structure Tr where
  next : Int
  list : List Int
def noT : Tr := ⟨0, []⟩
def okP (p : Int) : Bool := decide (1 ≤ p) && decide (p < 4096)
def okT (t : Tr) : Bool := (decide (0 ≤ t.next) && decide (t.next < 4096)) && (decide (t.list.length ≤ 50) && t.list.all okP)
theorem okP_iff (p : Int) : okP p = true ↔ 1 ≤ p ∧ p < 4096 := by unfold okP; simp
theorem okT_iff (t : Tr) : okT t = true ↔ (0 ≤ t.next ∧ t.next < 4096) ∧ t.list.length ≤ 50 ∧ ∀ x ∈ t.list, 1 ≤ x ∧ x < 4096 := by
  unfold okT
  simp only [Bool.and_eq_true, decide_eq_true_eq, List.all_eq_true, okP_iff]
def nums (l : List Int) : Bs := l.flatMap fun x => fixF 4 x.toNat
theorem nums_len : ∀ l : List Int, (nums l).length = l.length * 4
  | [] => rfl
  | a :: l => by
    have ih := nums_len l
    unfold nums at ih ⊢
    rw [List.flatMap_cons, List.length_append, ih, fixF_length, List.length_cons]
    omega
theorem nums_append (a b : List Int) : nums (a ++ b) = nums a ++ nums b := List.flatMap_append ..
theorem nums_one (x : Int) : nums [x] = fixF 4 x.toNat := by unfold nums; simp
def headT (t : Tr) : Bs := [4] ++ (fixF 4 t.next.toNat ++ fixF 1 t.list.length)
def bodyT (t : Tr) : Bs := headT t ++ nums t.list
theorem head_len (t : Tr) : (headT t).length = 6 := by unfold headT; simp [fixF_length]
theorem body_len (t : Tr) : (bodyT t).length = 6 + t.list.length * 4 := by unfold bodyT; rw [List.length_append, head_len, nums_len]
def pageT (t : Tr) : Bs := bodyT t ++ zeros (232 - (bodyT t).length)
theorem page_len {t : Tr} (h : okT t = true) : (pageT t).length = 232 := by
  have := ((okT_iff t).1 h).2.1
  unfold pageT
  rw [List.length_append, zeros_len, body_len]
  omega
def rawT (m : Nat) (s : Bs) : Tr := ⟨(numAt s 1 4 : Nat), (List.range (min (numAt s 5 1) m)).map fun i => ((numAt s (6 + 4 * i) 4 : Nat) : Int)⟩
theorem fix4_back (n : Nat) (h : n < 4096) : unfF 0 (fixF 4 n) = n := by rw [Num.unf_fix]; exact Nat.mod_eq_of_lt (by omega)
theorem fix1_back (n : Nat) (h : n ≤ 50) : unfF 0 (fixF 1 n) = n := by rw [Num.unf_fix]; exact Nat.mod_eq_of_lt (by omega)
theorem at_next {t : Tr} (h : okT t = true) : (numAt (pageT t) 1 4 : Nat) = t.next.toNat := by
  obtain ⟨⟨h1, h2⟩, -⟩ := (okT_iff t).1 h
  have e : pageT t = [4] ++ (fixF 4 t.next.toNat ++ (fixF 1 t.list.length ++ (nums t.list ++ zeros (232 - (bodyT t).length)))) := by
    unfold pageT bodyT headT; simp only [List.append_assoc]
  unfold numAt
  rw [e, mid [4] _ _ 1 4 rfl (fixF_length 4 _)]
  exact fix4_back _ (by omega)
theorem at_count {t : Tr} (h : okT t = true) : numAt (pageT t) 5 1 = t.list.length := by
  obtain ⟨-, h1, -⟩ := (okT_iff t).1 h
  have e : pageT t = ([4] ++ fixF 4 t.next.toNat) ++ (fixF 1 t.list.length ++ (nums t.list ++ zeros (232 - (bodyT t).length))) := by
    unfold pageT bodyT headT; simp only [List.append_assoc]
  unfold numAt
  rw [e, mid _ _ _ 5 1 (by simp [fixF_length]) (fixF_length 1 _)]
  exact fix1_back _ h1
theorem at_list {t : Tr} (h : okT t = true) (i : Nat) (hi : i < t.list.length) : ((numAt (pageT t) (6 + 4 * i) 4 : Nat) : Int) = t.list[i] := by
  obtain ⟨-, -, h1⟩ := (okT_iff t).1 h
  have hx := h1 _ (List.getElem_mem hi)
  have e0 : t.list = t.list.take i ++ ([t.list[i]] ++ t.list.drop (i + 1)) := by simp
  have e : pageT t = (headT t ++ nums (t.list.take i)) ++ (fixF 4 t.list[i].toNat ++ (nums (t.list.drop (i + 1)) ++ zeros (232 - (bodyT t).length))) := by
    have e1 : nums t.list = nums (t.list.take i) ++ (fixF 4 t.list[i].toNat ++ nums (t.list.drop (i + 1))) := by
      rw [← nums_one, ← nums_append, ← nums_append, ← e0]
    unfold pageT
    rw [show bodyT t = headT t ++ nums t.list from rfl, e1]
    simp only [List.append_assoc]
  unfold numAt
  rw [e, mid _ _ _ (6 + 4 * i) 4 (by rw [List.length_append, head_len, nums_len, List.length_take]; omega) (fixF_length 4 _), fix4_back _ (by omega)]
  omega
/-- What the bytes of a good trunk's page say. -/
theorem raw_page {t : Tr} (h : okT t = true) {m : Nat} (hm : 50 ≤ m) : rawT m (pageT t) = t := by
  obtain ⟨⟨h1, h2⟩, h3, h4⟩ := (okT_iff t).1 h
  unfold rawT
  rw [at_next h, at_count h, show min t.list.length m = t.list.length by omega]
  have e1 : ((t.next.toNat : Nat) : Int) = t.next := by omega
  rw [e1]
  have e2 : ((List.range t.list.length).map fun i => ((numAt (pageT t) (6 + 4 * i) 4 : Nat) : Int)) = t.list := by
    apply List.ext_getElem
    · simp
    · intro i hi1 hi2
      simp only [List.getElem_map, List.getElem_range]
      exact at_list h i hi2
  rw [e2]
/-- What Decode answers. -/
def decT (s : Bs) : Tr × Int := if s.length ≠ 232 then (noT, 1) else if okT (rawT 50 s) = true ∧ pageT (rawT 50 s) = s then (rawT 50 s, 0) else (noT, 4)
def encT (t : Tr) : Bs × Int := if okT t then (pageT t, 0) else ([], 1)
theorem dec_page {t : Tr} (h : okT t = true) : decT (pageT t) = (t, 0) := by
  unfold decT
  rw [if_neg (by simpa using page_len h), raw_page h (Nat.le_refl _), if_pos ⟨h, rfl⟩]
theorem dec_ok {s : Bs} (h : (decT s).2 = 0) : okT (decT s).1 = true ∧ s = pageT (decT s).1 := by
  unfold decT at h ⊢
  split at h
  · cases h
  · rename_i h1
    rw [if_neg h1]
    split at h
    · rename_i h2
      rw [if_pos h2]
      exact ⟨h2.1, h2.2.symm⟩
    · cases h
/-- Read with another bound on the list, it is the same. -/
theorem raw_same (s : Bs) (m : Nat) (hm : 50 ≤ m) : (okT (rawT m s) = true ∧ pageT (rawT m s) = s) ↔ (okT (rawT 50 s) = true ∧ pageT (rawT 50 s) = s) := by
  constructor
  · rintro ⟨h1, h2⟩
    have e := raw_page h1 (m := 50) (Nat.le_refl _)
    rw [h2] at e
    rw [e]
    exact ⟨h1, h2⟩
  · rintro ⟨h1, h2⟩
    have e := raw_page h1 (m := m) hm
    rw [h2] at e
    rw [e]
    exact ⟨h1, h2⟩
theorem raw_eq (s : Bs) (m : Nat) (hm : 50 ≤ m) (h : okT (rawT 50 s) = true ∧ pageT (rawT 50 s) = s) : rawT m s = rawT 50 s := by
  have e := raw_page h.1 (m := m) hm
  rwa [h.2] at e
theorem dec_ref (s : Bs) : decT s = if s.length ≠ 232 then (noT, 1) else if okT (rawT 56 s) = true ∧ pageT (rawT 56 s) = s then (rawT 56 s, 0) else (noT, 4) := by
  unfold decT
  by_cases h1 : s.length ≠ 232
  · rw [if_pos h1, if_pos h1]
  · rw [if_neg h1, if_neg h1]
    by_cases h2 : okT (rawT 50 s) = true ∧ pageT (rawT 50 s) = s
    · rw [if_pos h2, if_pos ((raw_same s 56 (by decide)).2 h2), raw_eq s 56 (by decide) h2]
    · rw [if_neg h2, if_neg (fun h => h2 ((raw_same s 56 (by decide)).1 h))]

/-! ### Books -/
abbrev Book := List (Int × Bs)
def getB : Book → Int → Bs
  | [], _ => zeros 232
  | x :: r, n => if x.1 = n then x.2 else getB r n
def putB : Book → Int → Bs → Book
  | [], n, d => [(n, d)]
  | x :: r, n, d => if x.1 = n then (n, d) :: r else x :: putB r n d
/-- Where a page stands. -/
def placeB : Book → Int → Int
  | [], _ => -1
  | x :: r, n => if x.1 = n then 0 else if placeB r n < 0 then -1 else placeB r n + 1
theorem get_same (n : Int) (d : Bs) : ∀ B : Book, getB (putB B n d) n = d
  | [] => by unfold putB getB; rw [if_pos rfl]
  | x :: r => by
    have ih := get_same n d r
    unfold putB
    by_cases h : x.1 = n
    · rw [if_pos h]; unfold getB; rw [if_pos rfl]
    · rw [if_neg h]; unfold getB; rw [if_neg h]; exact ih
theorem get_other {n k : Int} (hne : k ≠ n) (d : Bs) : ∀ B : Book, getB (putB B n d) k = getB B k
  | [] => by unfold putB getB; rw [if_neg (fun e => hne e.symm)]; rfl
  | x :: r => by
    have ih := get_other hne d r
    unfold putB
    by_cases h : x.1 = n
    · rw [if_pos h]; unfold getB; rw [if_neg (fun e => hne e.symm), if_neg (fun e => hne (e.symm.trans h))]
    · rw [if_neg h]; unfold getB; rw [ih]
theorem put_mem {n : Int} {d : Bs} : ∀ {B : Book} {x : Int × Bs}, x ∈ putB B n d → x ∈ B ∨ x = (n, d)
  | [], x, h => by unfold putB at h; simp at h; exact Or.inr h
  | y :: r, x, h => by
    unfold putB at h
    by_cases hy : y.1 = n
    · rw [if_pos hy] at h
      rcases List.mem_cons.1 h with rfl | h
      · exact Or.inr rfl
      · exact Or.inl (List.mem_cons_of_mem _ h)
    · rw [if_neg hy] at h
      rcases List.mem_cons.1 h with rfl | h
      · exact Or.inl (List.mem_cons_self ..)
      · rcases put_mem h with h | h
        · exact Or.inl (List.mem_cons_of_mem _ h)
        · exact Or.inr h
theorem put_keys {n : Int} {d : Bs} : ∀ {B : Book}, (B.map (·.1)).Nodup → ((putB B n d).map (·.1)).Nodup
  | [], _ => by unfold putB; simp
  | y :: r, h => by
    rw [List.map_cons, List.nodup_cons] at h
    unfold putB
    by_cases hy : y.1 = n
    · rw [if_pos hy, List.map_cons, List.nodup_cons]
      exact ⟨by simpa [hy] using h.1, h.2⟩
    · rw [if_neg hy, List.map_cons, List.nodup_cons]
      refine ⟨fun hm => ?_, put_keys h.2⟩
      obtain ⟨z, hz, e⟩ := List.mem_map.1 hm
      rcases put_mem hz with hz | rfl
      · exact h.1 (List.mem_map.2 ⟨z, hz, e⟩)
      · exact hy e.symm
theorem put_len (n : Int) (d : Bs) : ∀ B : Book, (putB B n d).length ≤ B.length + 1
  | [] => Nat.le_refl _
  | y :: r => by
    have := put_len n d r
    unfold putB
    split
    · simp
    · simp; omega
theorem get_at : ∀ (B : Book) (k : Nat) (hk : k < B.length), (B.map (·.1)).Nodup → getB B B[k].1 = B[k].2
  | x :: r, 0, _, _ => by unfold getB; simp
  | x :: r, k + 1, hk, h => by
    rw [List.map_cons, List.nodup_cons] at h
    have hk2 : k < r.length := by simpa using hk
    have ih := get_at r k hk2 h.2
    have hne : ¬ x.1 = r[k].1 := fun e => h.1 (List.mem_map.2 ⟨r[k], List.getElem_mem _, e.symm⟩)
    rw [List.getElem_cons_succ]
    unfold getB
    rw [if_neg hne]
    exact ih
/-- A page stands at the first of its number. -/
theorem place_ways : ∀ (B : Book) (n : Int), (∃ k, ∃ h : k < B.length, placeB B n = k ∧ B[k].1 = n ∧ getB B n = B[k].2 ∧ (∀ d, putB B n d = B.set k (n, d)) ∧ ∀ j (hj : j < k), (B[j]'(by omega)).1 ≠ n) ∨ (placeB B n = -1 ∧ getB B n = zeros 232 ∧ (∀ d, putB B n d = B ++ [(n, d)]) ∧ ∀ j (hj : j < B.length), B[j].1 ≠ n)
  | [], n => Or.inr ⟨rfl, rfl, fun _ => rfl, fun j hj => absurd hj (Nat.not_lt_zero _)⟩
  | x :: r, n => by
    by_cases hx : x.1 = n
    · refine Or.inl ⟨0, by simp, ?_, hx, ?_, fun d => ?_, fun j hj => absurd hj (Nat.not_lt_zero _)⟩
      · unfold placeB; rw [if_pos hx]; rfl
      · unfold getB; rw [if_pos hx]; rfl
      · unfold putB; rw [if_pos hx]; rfl
    · rcases place_ways r n with ⟨k, hk, h1, h2, h3, h4, h5⟩ | ⟨h1, h2, h3, h4⟩
      · refine Or.inl ⟨k + 1, by simpa using hk, ?_, h2, ?_, fun d => ?_, fun j hj => ?_⟩
        · unfold placeB; rw [if_neg hx, h1, if_neg (by omega)]; rfl
        · unfold getB; rw [if_neg hx, h3]; rfl
        · unfold putB; rw [if_neg hx, h4]; rfl
        · cases j with
          | zero => exact hx
          | succ j => exact h5 j (by omega)
      · refine Or.inr ⟨?_, ?_, fun d => ?_, fun j hj => ?_⟩
        · unfold placeB; rw [if_neg hx, h1]; rfl
        · unfold getB; rw [if_neg hx, h2]
        · unfold putB; rw [if_neg hx, h3]; rfl
        · cases j with
          | zero => exact hx
          | succ j => exact h4 j (by simpa using hj)

/-! ### Heads, stores, Take and Give -/
structure Hd where
  mode : Int
  pages : Int
  trunk : Int
  spare : Int
  root : Int
  change : Nat
deriving DecidableEq
def hd0 : Hd := ⟨0, 0, 0, 0, 0, 0⟩
def Fit (h : Hd) : Prop := (h.mode = 1 ∨ h.mode = 2) ∧ 1 ≤ h.pages ∧ h.pages ≤ 4096 ∧ (0 ≤ h.trunk ∧ h.trunk < h.pages) ∧ (0 ≤ h.spare ∧ h.spare < h.pages) ∧ (0 ≤ h.root ∧ h.root < h.pages) ∧ (h.spare = 0 ↔ h.trunk = 0)
instance (h : Hd) : Decidable (Fit h) := by unfold Fit; infer_instance
/-- A store of pages whose calls fail when left is used up. -/
structure St where
  B : Book
  left : Int
def St.get (S : St) (n : Int) : (Bs × Int) × St := if S.left = 0 then (([], 11), S) else ((getB S.B n, 0), ⟨S.B, S.left - 1⟩)
def St.put (S : St) (n : Int) (d : Bs) : Int × St := if S.left = 0 then (11, S) else (0, ⟨putB S.B n d, S.left - 1⟩)
def trunkAt (S : St) (n : Int) : (Tr × Int) × St := if (S.get n).1.2 ≠ 0 then ((noT, (S.get n).1.2), (S.get n).2) else if (decT (S.get n).1.1).2 ≠ 0 then ((noT, 30), (S.get n).2) else (((decT (S.get n).1.1).1, 0), (S.get n).2)
def putTrunk (S : St) (n : Int) (t : Tr) : Int × St := if okT t then S.put n (pageT t) else (1, S)
def takeNew (h : Hd) : Int × Hd × Int := if 4096 ≤ h.pages then (0, hd0, 22) else (h.pages, { h with pages := h.pages + 1 }, 0)
def takeTrunk (h : Hd) (next : Int) : Int × Hd × Int := if decide (h.spare - 1 = 0) ≠ decide (next = 0) then (0, hd0, 30) else (h.trunk, { h with trunk := next, spare := h.spare - 1 }, 0)
/-- The trunk is none of a head with so many pages. -/
def badT (h : Hd) (t : Tr) : Bool := decide (h.pages ≤ t.next) || (decide (0 < t.list.length) && decide (h.pages ≤ t.list.getLastD 0))
def takeOf (h : Hd) (r : (Tr × Int) × St) : (Int × Hd × Int) × St :=
  if r.1.2 ≠ 0 then ((0, hd0, r.1.2), r.2) else if badT h r.1.1 then ((0, hd0, 30), r.2) else if r.1.1.list.length = 0 then (takeTrunk h r.1.1.next, r.2) else
  if (putTrunk r.2 h.trunk ⟨r.1.1.next, r.1.1.list.dropLast⟩).1 ≠ 0 then ((0, hd0, (putTrunk r.2 h.trunk ⟨r.1.1.next, r.1.1.list.dropLast⟩).1), (putTrunk r.2 h.trunk ⟨r.1.1.next, r.1.1.list.dropLast⟩).2)
  else ((r.1.1.list.getLastD 0, { h with spare := h.spare - 1 }, 0), (putTrunk r.2 h.trunk ⟨r.1.1.next, r.1.1.list.dropLast⟩).2)
def takeM (h : Hd) (S : St) : (Int × Hd × Int) × St := if h.spare = 0 then (takeNew h, S) else takeOf h (trunkAt S h.trunk)
/-- The trunk to write, and where. -/
def trunkFor (h : Hd) (S : St) (n : Int) : (Int × Tr × Int) × St :=
  if h.trunk = 0 then ((n, ⟨0, []⟩, 0), S) else
  if (trunkAt S h.trunk).1.2 ≠ 0 then ((0, noT, (trunkAt S h.trunk).1.2), (trunkAt S h.trunk).2) else
  if (trunkAt S h.trunk).1.1.list.length < 50 then ((h.trunk, ⟨(trunkAt S h.trunk).1.1.next, (trunkAt S h.trunk).1.1.list ++ [n]⟩, 0), (trunkAt S h.trunk).2)
  else ((n, ⟨h.trunk, []⟩, 0), (trunkAt S h.trunk).2)
def giveOf (h : Hd) (r : (Int × Tr × Int) × St) : (Hd × Int) × St :=
  if r.1.2.2 ≠ 0 then ((hd0, r.1.2.2), r.2) else
  if (putTrunk r.2 r.1.1 r.1.2.1).1 ≠ 0 then ((hd0, (putTrunk r.2 r.1.1 r.1.2.1).1), (putTrunk r.2 r.1.1 r.1.2.1).2) else (({ h with trunk := r.1.1, spare := h.spare + 1 }, 0), (putTrunk r.2 r.1.1 r.1.2.1).2)
def giveM (h : Hd) (S : St) (n : Int) : (Hd × Int) × St :=
  if n < 1 ∨ h.pages ≤ n then ((hd0, 1), S) else if h.pages - 1 ≤ h.spare then ((hd0, 30), S) else giveOf h (trunkFor h S n)
end Sp
end Go.Proofs.YtoifhcmgeackdaaGreatDoor

/-
  Contract of the project's isGood.
-/
namespace Go.Proofs.YtoifhcmgeackdaaGreatDoor
open Go.RowKit
namespace Sp
open Num (hid)
open Mem (Bs bs IAt tI tS tIs tSs LAt)
abbrev tT : TypeId := 132
abbrev tH : TypeId := 51
/-- A trunk, as it is handed over. -/
def trV (t : Tr) (lv : Value) : Value := .agg #[.int .i64 t.next, lv]
abbrev tObj (n : Int) (lv : Value) : Obj := .cells #[.int .i64 n, lv] tT
theorem all_split {α : Type} {p : α → Bool} {l : List α} {k : Nat} (h : k < l.length) (hg : p l[k] = false) : l.all p = false := by
  rw [List.all_eq_false]
  exact ⟨l[k], List.getElem_mem h, by rw [hg]; decide⟩
theorem all_full {α : Type} {p : α → Bool} {l : List α} (hk : ∀ j (hj : j < l.length), p l[j] = true) : l.all p = true := by
  rw [List.all_eq_true]
  intro v hv
  obtain ⟨j, hj, rfl⟩ := List.getElem_of_mem hv
  exact hk j hj
theorem ret_b {a b : Bool} (h : a = b) : Ending.returned (.bool a) = .returned (.bool b) := by rw [h]
theorem box_cells (w : World) (n : Int) (lv : Value) : (w.alloc (tObj n lv)).cell? ⟨w.heap.size, 0, none⟩ = some (.int .i64 n) ∧ (w.alloc (tObj n lv)).cell? ⟨w.heap.size, 1, none⟩ = some lv := by simp
set_option maxRecDepth 100000 in
set_option maxHeartbeats 1000000 in
theorem good_any (t : Tr) (lv : Value) (w : World) (h : IAt w lv t.list) :
    Calls Tryz.prog 145 #[trV t lv] w fun e w' => e = .returned (.bool (okT t)) ∧ Below w.heap.size w w' := by
  obtain ⟨ao, cap, rfl, hm, -, hat⟩ := Mem.IAt.ways1 h
  have B1 := hid ((Below.refl w.heap.size w).alloc (Nat.le_refl _) (tObj t.next (.slice ao t.list.length cap)))
  have HK := hid hat
  obtain ⟨next, l⟩ := t
  simp only at B1 HK hm ⊢
  unfold trV
  simp only
  have hok : okT ⟨next, l⟩ = ((decide (0 ≤ next) && decide (next < 4096)) && (decide (l.length ≤ 50) && l.all okP)) := rfl
  rw [hok]
  clear hok h hat
  by_cases h1 : next < 0
  · rw [decide_eq_false (by omega : ¬ 0 ≤ next)]
    go_enter Tryz.func145, Tryz.ntmps145
    go_wp2
    go_ret
    exact ⟨rfl, B1.out⟩
  · rw [decide_eq_true (by omega : 0 ≤ next)]
    by_cases h2 : 4096 ≤ next
    · rw [decide_eq_false (by omega : ¬ next < 4096)]
      go_enter Tryz.func145, Tryz.ntmps145
      go_wp2
      go_ret
      exact ⟨rfl, B1.out⟩
    · rw [decide_eq_true (by omega : next < 4096)]
      by_cases h3 : 50 < l.length
      · rw [decide_eq_false (by omega : ¬ l.length ≤ 50)]
        have h3' : (50 : Int) < (l.length : Int) := by omega
        go_enter Tryz.func145, Tryz.ntmps145
        go_wp2
        go_ret
        exact ⟨rfl, B1.out⟩
      · rw [decide_eq_true (by omega : l.length ≤ 50)]
        have h3' : ¬ (50 : Int) < (l.length : Int) := by omega
        obtain ⟨nl, hnl⟩ : ∃ x, l.length = x := ⟨_, rfl⟩
        rw [hnl] at B1 h3' ⊢
        have HNL := hid hnl
        obtain ⟨g, hg⟩ : ∃ x, l.all okP = x := ⟨_, rfl⟩
        have HG := hid hg
        rw [hg]
        clear hnl h3 hm hg
        go_enter Tryz.func145, Tryz.ntmps145
        go_wp2_with fail
        go_loopw [22] (fun i wr => ∃ k : Nat, k ≤ nl ∧ i = .int .i64 k ∧ (∀ j (hj : j < l.length), j < k → okP l[j] = true) ∧ wr = w.alloc (tObj next (.slice ao nl cap))) (fun i _ => nl - (intOf i).toNat)
        case atStart => exact ⟨0, Nat.zero_le _, rfl, fun j _ hj => absurd hj (Nat.not_lt_zero _), rfl⟩
        case round =>
          obtain ⟨k, hk, rfl, hp, rfl⟩ := hrel
          have HP := hid hp
          clear hp
          by_cases hlt : k < nl
          · have hlt' : (k : Int) < nl := by omega
            have i1 : k < l.length := by have := HNL.out; omega
            obtain ⟨b, o, rfl, hbl, x0⟩ := HK.out k i1
            have y0 := (B1.out.cell (p := ⟨b, o + k, none⟩) hbl).trans x0
            by_cases hg : okP l[k] = true
            · have hg2 := (okP_iff _).1 hg
              have HS : Hid (∀ j (hj : j < l.length), j < k + 1 → okP l[j] = true) := hid (fun j hj hjk => by
                by_cases e : j < k
                · exact HP.out j hj e
                · obtain rfl : j = k := by omega
                  exact hg)
              generalize l[k] = x at *
              clear x0
              have g1 : ¬ x < 1 := by omega
              have g2 : ¬ 4096 ≤ x := by omega
              go_wp2
              go_roundw
              case rel => exact ⟨k + 1, by omega, by go_num, HS.out, trivial⟩
              case measure => simp [intOf]; omega
            · have hg' : okP l[k] = false := by simpa using hg
              obtain rfl : false = g := (all_split i1 hg').symm.trans HG.out
              have hg2 : l[k] < 1 ∨ 4096 ≤ l[k] := by
                rcases Int.lt_or_le l[k] 1 with h | h
                · exact Or.inl h
                · rcases Int.lt_or_le l[k] 4096 with h4 | h4
                  · exact absurd ((okP_iff _).2 ⟨h, h4⟩) hg
                  · exact Or.inr h4
              generalize l[k] = x at *
              clear x0
              rcases hg2 with g1 | g1
              · go_wp2
                go_ret
                exact ⟨rfl, B1.out⟩
              · have g2 : ¬ x < 1 := by omega
                go_wp2
                go_ret
                exact ⟨rfl, B1.out⟩
          · obtain rfl : k = nl := by omega
            have hlt' : ¬ (k : Int) < k := by omega
            obtain rfl : true = g := (all_full (fun j hj => HP.out j hj (by have := HNL.out; omega))).symm.trans HG.out
            go_wp2
            go_ret
            exact ⟨rfl, B1.out⟩
end Sp
end Go.Proofs.YtoifhcmgeackdaaGreatDoor

/-
  Contract of the project's number; slices of strings.
-/
namespace Go.Proofs.YtoifhcmgeackdaaGreatDoor
open Go.RowKit
namespace Sp
open Num (hid unfF unfixL)
open Mem (Bs bs)
open Part (numAt)
theorem ex_mid (S : Bs) (i j : Nat) : (bs S).extract i j = bs ((S.drop i).take (j - i)) := by
  have e : (bs S).extract i j = bs (bl ((bs S).extract i j)) := (bs_bl _).symm
  rw [e]
  congr 1
  show ((bs S).extract i j).data.toList = _
  simp [ByteArray.data_extract, bs]
theorem ex_drop (S : Bs) (k : Nat) : (bs S).extract k (bs S).size = bs (S.drop k) := by
  rw [ex_mid, bs_size, List.take_of_length_le (by rw [List.length_drop]; exact Nat.le_refl _)]
theorem ex_take (S : Bs) (k : Nat) : (bs S).extract 0 k = bs (S.take k) := by
  rw [ex_mid, List.drop_zero, Nat.sub_zero]
theorem unfix_take (S : Bs) (i k : Nat) (h1 : 1 ≤ k) (h8 : k ≤ 8) (hl : i + k ≤ S.length) : unfixL ((S.drop i).take k) = (numAt S i k, 0) := by
  unfold unfixL numAt
  rw [if_pos (by rw [List.length_take, List.length_drop]; omega)]
theorem below_drewN {B : Nat} {a w : World} (h : Below B a w) (n : Nat) : Below B a (w.drewN n) := ⟨h.os, h.tape, h.output, h.size, h.block⟩
set_option maxRecDepth 100000 in
set_option maxHeartbeats 400000 in
theorem number_any (S : Bs) (k : Nat) (h1 : 1 ≤ k) (h4 : k ≤ 4) (hl : k ≤ S.length) (w : World) :
    Calls Tryz.prog 144 #[.string (bs S), .int .i64 (k : Nat)] w fun e w' => e = .returned (.tuple #[.int .i64 (numAt S 0 k : Nat), .string (bs (S.drop k))]) ∧ Below w.heap.size w w' := by
  have hz := bs_size S
  have hU := Num.unfixed_any ((bs S).extract 0 k) w
  have e1 : ((bs S).extract 0 k).data.toList = S.take k := by rw [ex_take]; exact bl_bs _
  rw [e1] at hU
  have e2 := unfix_take S 0 k h1 (by omega) (by omega)
  rw [List.drop_zero] at e2
  rw [e2] at hU
  have HU := hid hU
  have hlt : numAt S 0 k < 4294967296 := by
    have h2 := Part.numAt_lt S 0 k
    have h3 : (256 : Nat) ^ k ≤ 256 ^ 4 := Nat.pow_le_pow_right (by decide) h4
    have h5 : (256 : Nat) ^ 4 = 4294967296 := by decide
    omega
  have HD := hid (ex_drop S k)
  clear hU e1 e2
  generalize numAt S 0 k = x at *
  have hk1 : k ≤ (bs S).size := by omega
  have hk2 : (0 : Int) ≤ (k : Int) := by omega
  have hx : wrap64 (x : Int) = (x : Int) := by rw [Num.wrap_i]; omega
  clear hz hl
  go_enter Tryz.func144, Tryz.ntmps144
  go_wp2_with fail
  refine HU.out.mono ?_
  rintro e w2 ⟨rfl, rfl⟩
  go_wp2
  go_quiet (fail)
  go_wp2
  go_ret2
  refine ⟨?_, ?_⟩
  · rw [← HD.out]
    first | rfl | simp_all
  · first | exact Below.refl _ _ | exact below_drewN (Below.refl _ _) _ | exact (Below.refl _ _).drew
end Sp
end Go.Proofs.YtoifhcmgeackdaaGreatDoor

/-
  A builder that a call makes, strings.Repeat: what the library's functions give, in spare's words.
-/
namespace Go.Proofs.YtoifhcmgeackdaaGreatDoor
open Go.RowKit Go.Shelf
namespace Sp
open Num (hid)
open Mem (Bs bs)
theorem extra : Builder.Extra Tryz.prog Tryz.repeatH_ren where
  sizeBuilder := by kernel_rfl
  liesBuilder := by kernel_rfl
  t5 := Tryz.repeatH.t5
  a5 := Tryz.repeatH.a5
  z5 := Tryz.repeatH.z5
  v5 := Tryz.repeatH.v5
  infoByte := by kernel_rfl
  cellsByte := by kernel_rfl
  sizeByte := by kernel_rfl
  neB5 := by decide
theorem repeat_is : Tryz.repeatH_ren.f 105 = 36 := by kernel_rfl
theorem repeat_any (k : Nat) (hk : k ≤ 1000) (w : World) :
    Calls Tryz.prog 36 #[.string ⟨#[0]⟩, .int .i64 k] w fun e w' => e = .returned (.string (bs (zeros k))) ∧ Below w.heap.size w w' := by
  have h := Any.strings_Repeat Tryz.repeatH extra ⟨#[0]⟩ k w (by omega) (by show 1 * k ≤ _; omega)
  rw [repeat_is] at h
  have e : Lib.repeatL (⟨#[0]⟩ : ByteArray).data.toList k = zeros k := by
    have := Lib.repeatL_replicate 0 1 k
    rw [Nat.mul_one] at this
    exact this
  rw [e] at h
  exact h
abbrev tU8 : TypeId := 5
abbrev tBld : TypeId := 142
theorem fown_on {w w' : World} {base : Nat} {e : TypeId} {v : Value} {n : Nat} {l : List Value} (h : w.ownsRowF base e 1 v n l) (hb : Below w.heap.size w w') : w'.ownsRowF base e 1 v n l := by
  obtain ⟨h1, h2⟩ := h
  refine ⟨h1, ?_⟩
  rcases h2 with h2 | ⟨g, cap, cur, fz, e1, e2, e3, e4⟩
  · exact Or.inl h2
  · exact Or.inr ⟨g, cap, cur, fz, e1, e2, (hb.block _ (lt_of_block e3)).trans e3, e4⟩
theorem fbat_on {T e : TypeId} {B b : Nat} {p : Value} {l : List Value} {w w' : World} (h : Lib.BuilderAtF T e B b p l w) (hb : Below w.heap.size w w') : Lib.BuilderAtF T e B b p l w' := by
  obtain ⟨h1, v, h2, h3, h4⟩ := h
  exact ⟨h1, v, (hb.block _ (lt_of_block h2)).trans h2, fown_on h3 hb, h4⟩
/-- A builder of the call's own that holds bytes. -/
abbrev FB (b : Nat) (l : Bs) (w : World) : Prop := Lib.IsBuilderF tBld tU8 b b (Lib.byteCells l) w
theorem FB.on {b : Nat} {l : Bs} {w w' : World} (h : FB b l w) (hb : Below w.heap.size w w') : FB b l w' :=
  h.elim (fun h => Or.inl (fbat_on h hb)) (fun h => Or.inr (fbat_on h hb))
theorem FB.fresh (w : World) : FB w.heap.size [] (w.alloc (.cells #[.pointer none, .slice none 0 0] tBld)) :=
  Or.inl ⟨Nat.le_refl _, .slice none 0 0, heap_alloc_new w _, World.ownsRowF_nil _ _ _ _, by simp [Value.ownBlock]⟩
theorem fstr_any (b : Nat) (l x : Bs) (w : World) (h : FB b l w) (hlen : l.length + x.length ≤ 140737488355328) (hb : b ≤ w.heap.size) :
    Calls Tryz.prog 75 #[.pointer (some ⟨b, 0, none⟩), .string (bs x)] w fun e w' => e = .returned (.tuple #[.int .i64 (bs x).size, .nilIface]) ∧ FB b (l ++ x) w' ∧ Below b w w' ∧ Lib.OthersKept tU8 (some b) w w' := by
  have hL : Lays.n166 Tryz.prog Tryz.repeatH_ren := { Tryz.repeatH with }
  refine (Any.Builder_WriteString_k hL extra b b (Lib.byteCells l) (bs x) w h (by rw [Lib.byteCells_length, bs_size]; exact hlen) hb).mono ?_
  rintro e w' ⟨rfl, h1, h2, h3⟩
  refine ⟨rfl, Or.inr ?_, h2, h3⟩
  rw [Lib.strCells_eq, ← Lib.byteCells_append] at h1
  exact h1
theorem flen_any (b : Nat) (l : Bs) (w : World) (h : FB b l w) :
    Calls Tryz.prog 76 #[.pointer (some ⟨b, 0, none⟩)] w fun e w' => e = .returned (.int .i64 l.length) ∧ w = w' := by
  have hL : Lays.n170 Tryz.prog Tryz.repeatH_ren := { Tryz.repeatH with }
  refine (Any.Builder_Len_f hL b b (Lib.byteCells l) w h).mono ?_
  rintro e w' ⟨rfl, h1⟩
  refine ⟨?_, h1.symm⟩
  rw [Lib.byteCells_length]
theorem fend_any (b : Nat) (l : Bs) (w : World) (h : FB b l w) (hb : b ≤ w.heap.size) :
    Calls Tryz.prog 77 #[.pointer (some ⟨b, 0, none⟩)] w fun e w' => e = .returned (.string (bs l)) ∧ Below b w w' := by
  have hL : Lays.n169 Tryz.prog Tryz.repeatH_ren := { Tryz.repeatH with }
  refine (Any.Builder_String_any_f hL extra b b l w h hb).mono ?_
  rintro e w' ⟨rfl, _, h2⟩
  exact ⟨rfl, h2⟩
end Sp
end Go.Proofs.YtoifhcmgeackdaaGreatDoor

/-
  Contract of the project's Encode.
-/
namespace Go.Proofs.YtoifhcmgeackdaaGreatDoor
open Go.RowKit
namespace Sp
open Num (hid fixF)
open Mem (Bs bs IAt)
theorem fixed_w (n : Nat) (k : Nat) (hn : n < 18446744073709551616) (hk : 1 ≤ k) (hk8 : k ≤ 8) (w : World) : Calls Tryz.prog 146 #[.int .u64 (n : Nat), .int .i64 (k : Nat)] w fun e w' => e = .returned (.string (bs (fixF k n))) ∧ Below w.heap.size w w' := by
  have h := Num.fixed_any n hn k w
  have e : Num.clampW (k : Int) = k := by unfold Num.clampW; rw [if_neg (by omega), if_neg (by omega)]; rfl
  rw [e] at h
  exact h
theorem fixed_4 (n : Nat) (hn : n < 18446744073709551616) (w : World) : Calls Tryz.prog 146 #[.int .u64 (n : Nat), .int .i64 4] w fun e w' => e = .returned (.string (bs (fixF 4 n))) ∧ Below w.heap.size w w' := fixed_w n 4 hn (by decide) (by decide) w
theorem fixed_1 (n : Nat) (hn : n < 18446744073709551616) (w : World) : Calls Tryz.prog 146 #[.int .u64 (n : Nat), .int .i64 1] w fun e w' => e = .returned (.string (bs (fixF 1 n))) ∧ Below w.heap.size w w' := fixed_w n 1 hn (by decide) (by decide) w
theorem u64_id {k : Nat} (h : k < 18446744073709551616) : IntKind.u64.wrap (k : Int) = (k : Int) := by rw [Num.wrap_u]; omega
abbrev bObj : Obj := .cells #[.pointer none, .slice none 0 0] tBld
/-- What the walk carries: the builder made behind w3 and its bytes. -/
structure Est (w3 : World) (l : Bs) (wr : World) : Prop where
  fb : FB w3.heap.size l wr
  be : Below w3.heap.size w3 wr
  lt : w3.heap.size < wr.heap.size
theorem Est.start (w3 : World) : Est w3 [] (w3.alloc bObj) := ⟨FB.fresh w3, (Below.refl _ _).alloc (Nat.le_refl _) _, by simp⟩
theorem Est.on {w3 : World} {l : Bs} {wr w' : World} (h : Est w3 l wr) (hb : Below wr.heap.size wr w') : Est w3 l w' := ⟨h.fb.on hb, h.be.trans (hb.mono (Nat.le_of_lt h.lt)), Nat.lt_of_lt_of_le h.lt hb.size⟩
theorem Est.put {w3 : World} {l : Bs} {wr : World} (h : Est w3 l wr) (x : Bs) (hl : l.length ≤ 1000000) (hx : x.length ≤ 1000000) :
    Calls Tryz.prog 75 #[.pointer (some ⟨w3.heap.size, 0, none⟩), .string (bs x)] wr fun e w' => e = .returned (.tuple #[.int .i64 (bs x).size, .nilIface]) ∧ Est w3 (l ++ x) w' := by
  refine (fstr_any w3.heap.size l x wr h.fb (by omega) (Nat.le_of_lt h.lt)).mono ?_
  rintro e w' ⟨rfl, h1, h2, -⟩
  exact ⟨rfl, h1, h.be.trans h2, Nat.lt_of_lt_of_le h.lt h2.size⟩
theorem Est.len {w3 : World} {l : Bs} {wr : World} (h : Est w3 l wr) : Calls Tryz.prog 76 #[.pointer (some ⟨w3.heap.size, 0, none⟩)] wr fun e w' => e = .returned (.int .i64 l.length) ∧ wr = w' := flen_any _ l wr h.fb
theorem Est.fin {w3 : World} {l : Bs} {wr : World} (h : Est w3 l wr) :
    Calls Tryz.prog 77 #[.pointer (some ⟨w3.heap.size, 0, none⟩)] wr fun e w' => e = .returned (.string (bs l)) ∧ Below w3.heap.size w3 w' := by
  refine (fend_any w3.heap.size l wr h.fb (Nat.le_of_lt h.lt)).mono ?_
  rintro e w' ⟨rfl, h1⟩
  exact ⟨rfl, h.be.trans h1⟩
theorem Est.cell {w3 : World} {l : Bs} {wr : World} (h : Est w3 l wr) {b o : Nat} {v : Value} (hb : b < w3.heap.size) (hc : w3.cell? ⟨b, o, none⟩ = some v) : wr.cell? ⟨b, o, none⟩ = some v := (h.be.cell (p := ⟨b, o, none⟩) hb).trans hc
def upto (t : Tr) (k : Nat) : Bs := headT t ++ nums (t.list.take k)
theorem upto_next (t : Tr) {k : Nat} (h : k < t.list.length) : upto t (k + 1) = upto t k ++ fixF 4 t.list[k].toNat := by
  unfold upto
  rw [List.take_succ_eq_append_getElem h, nums_append, nums_one, List.append_assoc]
theorem upto_all (t : Tr) {k : Nat} (h : t.list.length ≤ k) : upto t k = bodyT t := by unfold upto bodyT; rw [List.take_of_length_le h]
theorem upto_len (t : Tr) (k : Nat) (h : k ≤ t.list.length) : (upto t k).length = 6 + k * 4 := by unfold upto; rw [List.length_append, head_len, nums_len, List.length_take]; omega
def sV2 (x : Bs × Int) : Value := .tuple #[.string (bs x.1), .int .i64 x.2]
theorem enc_bad {t : Tr} (h : okT t = false) : encT t = ([], 1) := by unfold encT; rw [h]; rfl
theorem enc_good {t : Tr} (h : okT t = true) : encT t = (pageT t, 0) := by unfold encT; rw [if_pos h]
set_option maxRecDepth 100000 in
set_option maxHeartbeats 4000000 in
theorem encode_any (t : Tr) (lv : Value) (w : World) (h : IAt w lv t.list) :
    Calls Tryz.prog 112 #[trV t lv] w fun e w' => e = .returned (sV2 (encT t)) ∧ Below w.heap.size w w' := by
  obtain ⟨ao, cap, rfl, hm, -, hat⟩ := Mem.IAt.ways1 h
  have B1 := hid ((Below.refl w.heap.size w).alloc (Nat.le_refl _) (tObj t.next (.slice ao t.list.length cap)))
  have HG := hid (good_any t (.slice ao t.list.length cap) _ (h.on B1.out))
  unfold sV2
  cases ho : okT t with
  | false =>
    rw [ho] at HG
    rw [enc_bad ho]
    unfold trV at *
    clear h hat ho
    go_enter Tryz.func112, Tryz.ntmps112
    go_wp2_with fail
    refine HG.out.mono ?_
    rintro e w3 ⟨rfl, hb⟩
    have B2 := hid (B1.out.trans (hb.mono B1.out.size))
    clear hb
    go_wp2
    go_ret2
    exact ⟨rfl, B2.out⟩
  | true =>
    rw [ho] at HG
    rw [enc_good ho]
    obtain ⟨⟨h1, h2⟩, h3, h4⟩ := (okT_iff t).1 ho
    have HL := hid (upto_len t)
    have HNx := hid (fun k (h : k < t.list.length) => upto_next t h)
    have HU0 : Hid (upto t 0 = ([4] : Bs) ++ fixF 4 t.next.toNat ++ fixF 1 t.list.length) := hid (by unfold upto headT nums; simp)
    have HU1 : Hid (upto t t.list.length ++ zeros (232 - (6 + t.list.length * 4)) = pageT t) := hid (by rw [upto_all t (Nat.le_refl _)]; unfold pageT; rw [body_len])
    have HK := hid hat
    have H4 := hid h4
    clear h hat ho
    unfold trV at *
    generalize hP : pageT t = P at *
    clear hP
    obtain ⟨nl, hnl⟩ : ∃ x, t.list.length = x := ⟨_, rfl⟩
    obtain ⟨m, hm0⟩ : ∃ m : Nat, t.next = (m : Int) := ⟨t.next.toNat, by omega⟩
    rw [hnl] at B1 HG HL HU0 HU1 h3 ⊢
    rw [hm0] at B1 HG HU0 h2 ⊢
    rw [show ((m : Int)).toNat = m from rfl] at HU0
    have hu0 : IntKind.u64.wrap (m : Int) = (m : Int) := u64_id (by omega)
    have hu1 : IntKind.u64.wrap (nl : Int) = (nl : Int) := u64_id (by omega)
    have HF4 := hid (fixed_4 m (by omega))
    have HF1 := hid (fixed_1 nl (by omega))
    have HNL := hid hnl
    have HR := hid (repeat_any (232 - (6 + nl * 4)) (by omega))
    have ec : (((232 - (6 + nl * 4) : Nat)) : Int) = 232 - ((6 + nl * 4 : Nat) : Int) := by omega
    rw [ec] at HR
    have HEC := hid ec
    clear hnl hm0 h1 hm ec
    have HZ : Hid ((zeros (232 - (6 + nl * 4))).length ≤ 1000000) := hid (by rw [zeros_len]; omega)
    generalize zeros (232 - (6 + nl * 4)) = Z at *
    go_enter Tryz.func112, Tryz.ntmps112
    go_wp2_with fail
    refine HG.out.mono ?_
    rintro e w3 ⟨rfl, hb⟩
    have B2 := hid (B1.out.trans (hb.mono B1.out.size))
    have hlt : w.heap.size < w3.heap.size := by have := hb.size; simp at this; omega
    have k0 : w3.cell? ⟨w.heap.size, 0, none⟩ = some (.int .i64 (m : Int)) := (hb.cell (p := ⟨w.heap.size, 0, none⟩) (by simp)).trans (box_cells w _ _).1
    have k1 : w3.cell? ⟨w.heap.size, 1, none⟩ = some (.slice ao nl cap) := (hb.cell (p := ⟨w.heap.size, 1, none⟩) (by simp)).trans (box_cells w _ _).2
    have K0 := hid k0
    have K1 := hid k1
    have HLT := hid hlt
    have S0 := hid (Est.start w3)
    clear hb k0 k1 hlt
    go_wp2_with fail
    refine (S0.out.put [4] (by decide) (by decide)).mono ?_
    rintro e w4 ⟨rfl, hs⟩
    have S1 := hid hs
    have c0 := S1.out.cell HLT.out K0.out
    clear hs
    go_wp2_with fail
    refine (HF4.out _).mono ?_
    rintro e w5 ⟨rfl, hb⟩
    have S2 := hid (S1.out.on hb)
    clear hb c0
    go_wp2_with fail
    refine (S2.out.put (fixF 4 m) (by decide) (by rw [Num.fixF_length]; decide)).mono ?_
    rintro e w6 ⟨rfl, hs⟩
    have S3 := hid hs
    have c1 := S3.out.cell HLT.out K1.out
    clear hs
    go_wp2_with fail
    refine (HF1.out _).mono ?_
    rintro e w7 ⟨rfl, hb⟩
    have S4 := hid (S3.out.on hb)
    clear hb c1
    go_wp2_with fail
    refine (S4.out.put (fixF 1 nl) (by simp [Num.fixF_length]) (by rw [Num.fixF_length]; decide)).mono ?_
    rintro e w8 ⟨rfl, hs⟩
    have S5 : Hid (Est w3 (upto t 0) w8) := hid (by rw [HU0.out]; simpa using hs)
    have c1 := S5.out.cell HLT.out K1.out
    clear hs
    go_wp2_with fail
    go_loopw [25] (fun i wr => ∃ k : Nat, k ≤ nl ∧ i = .int .i64 k ∧ Hid (Est w3 (upto t k) wr)) (fun i _ => nl - (intOf i).toNat)
    case atStart => exact ⟨0, Nat.zero_le _, rfl, S5⟩
    case round =>
      obtain ⟨k, hk, rfl, HS⟩ := hrel
      have hul := HL.out k hk
      clear c1
      by_cases hlt : k < nl
      · have hlt' : (k : Int) < nl := by omega
        have i1 : k < t.list.length := by have := HNL.out; omega
        obtain ⟨b, o, rfl, hbl, x0⟩ := HK.out k i1
        have hbl3 : b < w3.heap.size := by have := HLT.out; omega
        have y0 := HS.out.cell hbl3 ((B2.out.cell (p := ⟨b, o + k, none⟩) hbl).trans x0)
        have hx := H4.out _ (List.getElem_mem i1)
        have HN := HNx.out k i1
        obtain ⟨x, hx0⟩ : ∃ x : Nat, t.list[k] = (x : Int) := ⟨t.list[k].toNat, by omega⟩
        rw [hx0] at y0 hx HN
        have HN2 : Hid (upto t (k + 1) = upto t k ++ fixF 4 x) := hid HN
        have hux : IntKind.u64.wrap (x : Int) = (x : Int) := u64_id (by omega)
        have HFx := hid (fixed_4 x (by omega))
        clear x0 HN hx0 hx i1
        go_wp2_with fail
        refine (HFx.out _).mono ?_
        rintro e w9 ⟨rfl, hb⟩
        have S6 := hid (HS.out.on hb)
        clear hb y0
        go_wp2_with fail
        refine (S6.out.put (fixF 4 x) (by omega) (by rw [Num.fixF_length]; decide)).mono ?_
        rintro e w10 ⟨rfl, hs⟩
        have S7 := hid hs
        clear hs
        go_wp2
        go_roundw
        case rel => exact ⟨k + 1, by omega, by go_num, hid (by rw [HN2.out]; exact S7.out)⟩
        case measure => simp [intOf]; omega
      · obtain rfl : k = nl := by omega
        have hlt' : ¬ (k : Int) < k := by omega
        have hlen := HS.out.len
        rw [hul] at hlen
        have HLN := hid hlen
        clear hlen
        go_wp2_with fail
        refine HLN.out.mono ?_
        rintro e w9 ⟨rfl, rfl⟩
        go_wp2_with fail
        refine (HR.out _).mono ?_
        rintro e w10 ⟨rfl, hb⟩
        have S6 := hid (HS.out.on hb)
        clear hb
        go_wp2_with fail
        refine (S6.out.put Z (by omega) HZ.out).mono ?_
        rintro e w11 ⟨rfl, hs⟩
        have S7 : Hid (Est w3 P w11) := hid (by rw [HU1.out] at hs; exact hs)
        clear hs
        go_wp2_with fail
        refine S7.out.fin.mono ?_
        rintro e w12 ⟨rfl, hb⟩
        have B3 := hid (B2.out.trans (hb.mono B2.out.size))
        clear hb
        go_wp2
        go_ret2
        exact ⟨rfl, B3.out⟩
end Sp
end Go.Proofs.YtoifhcmgeackdaaGreatDoor

/-
  What a Decode carries: the answer's box, the trunk's box and its list, a row of the call's own.
-/
namespace Go.Proofs.YtoifhcmgeackdaaGreatDoor
open Go.RowKit
namespace Sp
open Num (hid)
open Mem (Bs bs IAt tI tIs Chg blk_cell blk_free blk_new blk_set blk_other blk_alloc row_kept row_shape row_type)
open Part (numAt)
theorem bs_list (a : Bs) : (bs a).toList = a := by rw [ByteArray.toList_eq]; rfl
abbrev intsV (l : List Int) : List Value := l.map (Value.int .i64)
abbrev nilS : Value := .slice none 0 0
/-- A boxed trunk. -/
def Tb (b : Nat) (n : Int) (lv : Value) (w : World) : Prop := w.heap[b]? = some (.cells #[.int .i64 n, lv] tT (0, 0))
theorem Tb.lt {b : Nat} {n : Int} {lv : Value} {w : World} (h : Tb b n lv w) : b < w.heap.size := lt_of_block h
theorem Tb.new (n : Int) (lv : Value) (w : World) : Tb w.heap.size n lv (w.alloc (tObj n lv)) := blk_new w _
theorem Tb.on {b : Nat} {n : Int} {lv : Value} {w w' : World} (h : Tb b n lv w) (hb : Below w.heap.size w w') : Tb b n lv w' := (hb.block _ (lt_of_block h)).trans h
theorem Tb.at {b : Nat} {n : Int} {lv : Value} {w w' : World} {F : Nat → Prop} (h : Tb b n lv w) (hc : Chg F w w') (hF : ¬ F b) : Tb b n lv w' := hc.at h hF
theorem Tb.cells {b : Nat} {n : Int} {lv : Value} {w : World} (h : Tb b n lv w) : w.cell? ⟨b, 0, none⟩ = some (.int .i64 n) ∧ w.cell? ⟨b, 1, none⟩ = some lv := ⟨blk_cell h 0, blk_cell h 1⟩
theorem Tb.free {b : Nat} {n : Int} {lv : Value} {w : World} (h : Tb b n lv w) : w.frozen? ⟨b, 0, none⟩ = false ∧ w.frozen? ⟨b, 1, none⟩ = false := ⟨blk_free h 0, blk_free h 1⟩
theorem Tb.set0 {b : Nat} {n : Int} {lv : Value} {w : World} (h : Tb b n lv w) (m : Int) : Tb b m lv (w.setCell ⟨b, 0, none⟩ (.int .i64 m)) := blk_set h 0 _
theorem Tb.set1 {b : Nat} {n : Int} {lv : Value} {w : World} (h : Tb b n lv w) (u : Value) : Tb b n u (w.setCell ⟨b, 1, none⟩ u) := blk_set h 1 _
theorem Tb.other {b b' i : Nat} {n : Int} {lv : Value} {w : World} (h : Tb b n lv w) (hne : b ≠ b') (u : Value) : Tb b n lv (w.setCell ⟨b', i, none⟩ u) := blk_other h hne u
/-- The list as a row of the call's own, made behind N. -/
structure Lrow (N : Nat) (lv : Value) (l : List Int) (w : World) : Prop where
  row : w.ownsRow 0 tI 1 lv l.length (intsV l)
  low : ∀ g, lv.ownBlock = some g → N ≤ g
theorem Lrow.nil (N : Nat) (w : World) : Lrow N nilS [] w := ⟨World.ownsRow_nil w 0 tI 1, fun g h => by simp [Value.ownBlock] at h⟩
theorem Lrow.on {N : Nat} {lv : Value} {l : List Int} {w w' : World} (h : Lrow N lv l w) (hb : Below w.heap.size w w') : Lrow N lv l w' := ⟨row_kept h.row (F := fun _ => False) (Chg.of_below hb) (fun _ _ h => h), h.low⟩
theorem Lrow.at {N : Nat} {lv : Value} {l : List Int} {w : World} (h : Lrow N lv l w) (hl : l.length ≤ 1000000) : IAt w lv l := Mem.ints_row h.row (by unfold maxLen; omega)
theorem Lrow.shape {N : Nat} {lv : Value} {l : List Int} {w : World} (h : Lrow N lv l w) : ∃ ao cap, lv = .slice ao l.length cap := by
  obtain ⟨ao, cap, h1, -⟩ := row_shape h.row
  exact ⟨ao, cap, h1⟩
/-- No trunk's box is the list's block. -/
theorem Lrow.ne {N : Nat} {lv : Value} {l : List Int} {w : World} (h : Lrow N lv l w) {b : Nat} {n : Int} {u : Value} (hb : Tb b n u w) : ∀ g, lv.ownBlock = some g → ¬ g = b := by
  rintro g hg rfl
  obtain ⟨cur, hh⟩ := row_type h.row hg
  unfold Tb at hb
  rw [hb] at hh
  simp only [Option.some.injEq, Obj.cells.injEq] at hh
  exact absurd hh.2.1 (by decide)
theorem Lrow.set {N : Nat} {lv : Value} {l : List Int} {w : World} (h : Lrow N lv l w) {b i : Nat} {n : Int} {u : Value} (hb : Tb b n u w) (x : Value) : Lrow N lv l (w.setCell ⟨b, i, none⟩ x) :=
  ⟨row_kept h.row (F := (· = b)) ((Chg.refl _ w).root i x) (h.ne hb), h.low⟩
structure Dst (w : World) (n : Int) (lv : Value) (l : List Int) (wr : World) : Prop where
  rs : Tb w.heap.size 0 nilS wr
  tb : Tb (w.heap.size + 1) n lv wr
  li : Lrow (w.heap.size + 2) lv l wr
  be : Below w.heap.size w wr
theorem Dst.start (w : World) (n : Int) : Dst w n nilS [] ((w.alloc (tObj 0 nilS)).alloc (tObj n nilS)) := by
  refine ⟨?_, ?_, Lrow.nil _ _, ((Below.refl _ _).alloc (Nat.le_refl _) _).alloc (by simp) _⟩
  · exact blk_alloc (Tb.new 0 nilS w) _
  · have h := Tb.new n nilS (w.alloc (tObj 0 nilS))
    have e : (w.alloc (tObj 0 nilS)).heap.size = w.heap.size + 1 := by simp
    rw [e] at h
    exact h
theorem Dst.on {w : World} {n : Int} {lv : Value} {l : List Int} {wr w' : World} (h : Dst w n lv l wr) (hb : Below wr.heap.size wr w') : Dst w n lv l w' := ⟨h.rs.on hb, h.tb.on hb, h.li.on hb, h.be.trans (hb.mono h.be.size)⟩
theorem bput {B : Nat} {w0 w : World} (h : Below B w0 w) {g : Nat} (hg : B ≤ g) (j : Nat) (u : Value) : Below B w0 (w.setCell ⟨g, j, none⟩ u) :=
  ⟨h.os, h.tape, h.output, by simpa [World.setCell] using h.size, fun k hk => by rw [Below.heap_setCell _ _ _ _ (show k ≠ g by omega)]; exact h.block k hk⟩
theorem Dst.next {w : World} {n : Int} {lv : Value} {l : List Int} {wr : World} (h : Dst w n lv l wr) (m : Int) : Dst w m lv l (wr.setCell ⟨w.heap.size + 1, 0, none⟩ (.int .i64 m)) :=
  ⟨h.rs.other (by omega) _, h.tb.set0 m, h.li.set h.tb _, bput h.be (by omega) 0 _⟩
/-- One number more: the run of append, and the store behind it. -/
theorem Dst.push {w : World} {n : Int} {lv : Value} {l : List Int} {wr : World} (h : Dst w n lv l wr) (x : Int) (hl : l.length ≤ 1000) :
    ∃ ao cap W', (Builtin.append_ #[tIs, tIs] tIs #[lv, .slice (some ⟨wr.heap.size, 0, none⟩) 1 1]).run Tryz.prog (wr.alloc (.cells #[.int .i64 x] tI)) = .ok (.slice ao (l.length + 1) cap) W' ∧
      W'.frozen? ⟨w.heap.size + 1, 1, none⟩ = false ∧ W'.cell? ⟨w.heap.size + 1, 1, none⟩ = some lv ∧ w.heap.size + 1 < W'.heap.size ∧ Dst w n (.slice ao (l.length + 1) cap) (l ++ [x]) (W'.setCell ⟨w.heap.size + 1, 1, none⟩ (.slice ao (l.length + 1) cap)) := by
  obtain ⟨v', W', hr, ho, hc, hw⟩ := Mem.push_int h.li.row x (by omega)
  have hrs : Tb w.heap.size 0 nilS W' := h.rs.at hc (fun e => h.li.ne h.rs _ e rfl)
  have htb : Tb (w.heap.size + 1) n lv W' := h.tb.at hc (fun e => h.li.ne h.tb _ e rfl)
  obtain ⟨ao, cap, rfl, -⟩ := row_shape ho
  have hz := h.tb.lt
  have hli : Lrow (w.heap.size + 2) (.slice ao (l.length + 1) cap) (l ++ [x]) W' := by
    refine ⟨?_, fun g hg => ?_⟩
    · have e : intsV (l ++ [x]) = intsV l ++ [.int .i64 x] := List.map_append ..
      rw [e, List.length_append]
      exact ho
    · rcases hw g hg with h1 | h1
      · exact h.li.low g h1
      · omega
  have hbe : Below w.heap.size w W' := h.be.trans (hc.below h.be.size (fun k hk e => by have := h.li.low k e; omega))
  exact ⟨ao, cap, W', hr, htb.free.2, htb.cells.2, htb.lt, hrs.other (by omega) _, htb.set1 _, hli.set htb _, bput hbe (by omega) 1 _⟩
/-- What Decode answers. -/
def DecGives (x : Tr × Int) (w w' : World) (e : Ending) : Prop := (∃ lv, e = .returned (.tuple #[trV x.1 lv, .int .i64 x.2]) ∧ Lrow w.heap.size lv x.1.list w') ∧ Below w.heap.size w w'
abbrev put2 (w : World) (r : Nat) (n : Int) (lv : Value) : World := (w.setCell ⟨r, 0, none⟩ (.int .i64 n)).setCell ⟨r, 1, none⟩ lv
/-- The trunk is the answer. -/
theorem Dst.fin {w : World} {n : Int} {lv : Value} {l : List Int} {wr : World} (h : Dst w n lv l wr) : Tb w.heap.size n lv (put2 wr w.heap.size n lv) ∧ Lrow w.heap.size lv l (put2 wr w.heap.size n lv) ∧ Below w.heap.size w (put2 wr w.heap.size n lv) := by
  refine ⟨(h.rs.set0 n).set1 lv, ?_, bput (bput h.be (Nat.le_refl _) 0 _) (Nat.le_refl _) 1 _⟩
  have := ((h.li.set h.rs (.int .i64 n) (i := 0)).set (h.rs.set0 n) lv (i := 1))
  exact ⟨this.row, fun g hg => by have := this.low g hg; omega⟩
theorem Dst.nil {w : World} {n : Int} {lv : Value} {l : List Int} {wr : World} (h : Dst w n lv l wr) : Tb w.heap.size 0 nilS (put2 wr w.heap.size 0 nilS) ∧ Below w.heap.size w (put2 wr w.heap.size 0 nilS) :=
  ⟨(h.rs.set0 0).set1 nilS, bput (bput h.be (Nat.le_refl _) 0 _) (Nat.le_refl _) 1 _⟩
/-- The numbers read behind k rounds. -/
def L (S : Bs) (k : Nat) : List Int := (List.range k).map fun i => ((numAt S (6 + 4 * i) 4 : Nat) : Int)
theorem L_next (S : Bs) (k : Nat) : L S (k + 1) = L S k ++ [((numAt S (6 + 4 * k) 4 : Nat) : Int)] := by unfold L; rw [List.range_succ, List.map_append]; rfl
theorem L_len (S : Bs) (k : Nat) : (L S k).length = k := by unfold L; simp
theorem raw_L (m : Nat) (S : Bs) : rawT m S = ⟨(numAt S 1 4 : Nat), L S (min (numAt S 5 1) m)⟩ := rfl
theorem num_drop (S : Bs) (j k : Nat) : numAt (S.drop j) 0 k = numAt S j k := by unfold numAt; rw [List.drop_zero]
end Sp
end Go.Proofs.YtoifhcmgeackdaaGreatDoor

/-
  Contract of the project's Decode.
-/
namespace Go.Proofs.YtoifhcmgeackdaaGreatDoor
open Go.RowKit
namespace Sp
open Num (hid)
open Mem (Bs bs IAt tI tIs Chg wpList_append_run)
open Part (numAt)
theorem trod_ret {w wr : World} {T : Tr} {lv : Value} (hb : Tb w.heap.size T.next lv wr) : wr.cell? ⟨w.heap.size, 0, none⟩ = some (.int .i64 T.next) ∧ wr.cell? ⟨w.heap.size, 1, none⟩ = some lv := hb.cells
/-- The first two numbers. -/
theorem num_1 (S : Bs) (h : S.length = 232) (w : World) : Calls Tryz.prog 144 #[.string ((bs S).extract 1 (bs S).size), .int .i64 4] w fun e w' => e = .returned (.tuple #[.int .i64 (numAt S 1 4 : Nat), .string (bs (S.drop 5))]) ∧ Below w.heap.size w w' := by
  have H := number_any (S.drop 1) 4 (by decide) (by decide) (by rw [List.length_drop]; omega) w
  rw [num_drop, List.drop_drop, ← ex_drop] at H
  exact H
theorem num_5 (S : Bs) (h : S.length = 232) (w : World) : Calls Tryz.prog 144 #[.string (bs (S.drop 5)), .int .i64 1] w fun e w' => e = .returned (.tuple #[.int .i64 (numAt S 5 1 : Nat), .string (bs (S.drop (6 + 4 * 0)))]) ∧ Below w.heap.size w w' := by
  have H := number_any (S.drop 5) 1 (by decide) (by decide) (by rw [List.length_drop]; omega) w
  rw [num_drop, List.drop_drop] at H
  exact H
theorem num_k (S : Bs) (h : S.length = 232) (k : Nat) (hk : k < 50) (w : World) : Calls Tryz.prog 144 #[.string (bs (S.drop (6 + 4 * k))), .int .i64 4] w fun e w' => e = .returned (.tuple #[.int .i64 (numAt S (6 + 4 * k) 4 : Nat), .string (bs (S.drop (6 + 4 * (k + 1))))]) ∧ Below w.heap.size w w' := by
  have H := number_any (S.drop (6 + 4 * k)) 4 (by decide) (by decide) (by rw [List.length_drop]; omega) w
  rw [num_drop, List.drop_drop, show 6 + 4 * k + 4 = 6 + 4 * (k + 1) by omega] at H
  exact H
theorem dec_short {S : Bs} (h : S.length ≠ 232) : decT S = (noT, 1) := by unfold decT; rw [if_pos h]
set_option maxRecDepth 100000 in
set_option maxHeartbeats 4000000 in
theorem decode_any (S : Bs) (w : World) :
    Calls Tryz.prog 111 #[.string (bs S)] w fun e w' => DecGives (decT S) w w' e := by
  have hz := bs_size S
  by_cases hl : S.length = 232
  · have hl2 : (((bs S).size : Int) != 232) = false := by simp only [bne, Bool.not_eq_false', beq_iff_eq]; omega
    have h1 : 1 ≤ (bs S).size := by omega
    have N1 := hid (num_1 S hl)
    have N5 := hid (num_5 S hl)
    have NK := hid (num_k S hl)
    have hd : decT S = if okT (rawT 50 S) = true ∧ pageT (rawT 50 S) = S then (rawT 50 S, 0) else (noT, 4) := by unfold decT; rw [if_neg (by simpa using hl)]
    have hraw := raw_L 50 S
    obtain ⟨mc, hmc⟩ : ∃ m, min (numAt S 5 1) 50 = m := ⟨_, rfl⟩
    rw [hmc] at hraw
    have hmin : min ((numAt S 5 1 : Nat) : Int) 50 = (mc : Int) := by omega
    have hm50 : mc ≤ 50 := by omega
    rw [hraw] at hd
    generalize hX : decT S = X at *
    have HD := hid hd
    have HLn := hid (L_next S)
    have HLl := hid (L_len S)
    generalize numAt S 1 4 = n1 at *
    generalize numAt S 5 1 = n5 at *
    clear hz hX hd hraw hmc
    have D0 := hid (Dst.start w 0)
    obtain ⟨t0, t1⟩ := D0.out.tb.free
    obtain ⟨t2, t3⟩ := D0.out.tb.cells
    go_enter Tryz.func111, Tryz.ntmps111
    go_wp2_with fail
    refine (N1.out _).mono ?_
    rintro e w3 ⟨rfl, hb⟩
    have D1 := hid (D0.out.on hb)
    clear hb t0 t1 t2 t3
    go_wp2_with fail
    refine (N5.out _).mono ?_
    rintro e w4 ⟨rfl, hb⟩
    have D2 := hid (D1.out.on hb)
    clear hb
    obtain ⟨t0, t1⟩ := D2.out.tb.free
    obtain ⟨t2, t3⟩ := D2.out.tb.cells
    have hlt := D2.out.tb.lt
    have D3 : Hid (Dst w n1 nilS (L S 0) (w4.setCell ⟨w.heap.size + 1, 0, none⟩ (.int .i64 n1))) := hid (D2.out.next n1)
    go_wp2_with fail
    go_loopw [6, 30] (fun r i wr => ∃ (k : Nat) (lv : Value), k ≤ mc ∧ i = .int .i64 k ∧ r = .string (bs (S.drop (6 + 4 * k))) ∧ Hid (Dst w n1 lv (L S k) wr)) (fun _ i _ => mc - (intOf i).toNat)
    case atStart => exact ⟨0, _, Nat.zero_le _, rfl, rfl, D3⟩
    case round =>
      obtain ⟨k, lv, hk, rfl, rfl, HS⟩ := hrel
      clear t0 t1 t2 t3 hlt D0 D1 D2 D3
      by_cases hlt : k < mc
      · have hlt' : (k : Int) < mc := by omega
        have HN := hid (NK.out k (by omega))
        obtain ⟨ao, cap, rfl⟩ := HS.out.li.shape
        rw [HLl.out k] at HS
        have HNx := hid (HLn.out k)
        have HL0 := HLl.out k
        go_wp2_with fail
        refine (HN.out _).mono ?_
        rintro e w5 ⟨rfl, hb⟩
        have D4 := hid (HS.out.on hb)
        have hp := D4.out.push ((numAt S (6 + 4 * k) 4 : Nat) : Int) (by omega)
        rw [HL0] at hp
        obtain ⟨ao2, cap2, W2, hr, f1, c1, hlt2, D5⟩ := hp
        have HR := hid hr
        have D6 := hid D5
        obtain ⟨t2, t3⟩ := D4.out.tb.cells
        have hlt3 := D4.out.tb.lt
        clear hb hr D5
        go_wp2_with (at_builtin; refine wpList_append_run rfl (.tmp 38) (.tmp 40) tIs tIs rfl _ _ (by simp [Act.eval]) (by simp [Act.eval]) HR.out ?_)
        go_roundw
        case rel => exact ⟨k + 1, _, by omega, by go_num, rfl, hid (by rw [HNx.out]; exact D6.out)⟩
        case measure => simp [intOf]; omega
      · obtain rfl : k = mc := by omega
        have hlt' : ¬ (k : Int) < k := by omega
        have HE := encode_any ⟨n1, L S k⟩ lv wr (HS.out.li.at (by rw [HLl.out k]; omega))
        obtain ⟨ao, cap, rfl⟩ := HS.out.li.shape
        unfold trV sV2 at HE
        simp only at HE
        rw [HLl.out k] at HE HS
        obtain ⟨t2, t3⟩ := HS.out.tb.cells
        have hlt3 := HS.out.tb.lt
        have hlS := HLl.out k
        cases ho : okT ⟨n1, L S k⟩ with
        | false =>
          rw [enc_bad ho] at HE
          have hx := HD.out
          rw [if_neg (fun e => by rw [ho] at e; cases e.1)] at hx
          subst hx
          have HEe := hid HE
          clear HE HD ho hlS
          go_wp2_with fail
          refine HEe.out.mono ?_
          rintro e w5 ⟨rfl, hb⟩
          have D4 := hid (HS.out.on hb)
          clear hb t2 t3 hlt3
          obtain ⟨s0, s1⟩ := D4.out.rs.free
          obtain ⟨r0, r1⟩ := D4.out.rs.cells
          have hlr := D4.out.rs.lt
          have HF := hid D4.out.nil
          go_wp2
          obtain ⟨g4, g5⟩ := HF.out
          obtain ⟨u0, u1⟩ := g4.cells
          refine @bodyPost_ret Tryz.prog Tryz.f111 (fun e w' => DecGives (noT, 4) w w' e) _ _ (.tuple #[trV noT nilS, .int .i64 4]) ?_ ?_ ?_
          · simp [results, trV, noT, go_sem, u0, u1]
          · rfl
          · exact ⟨⟨nilS, rfl, Lrow.nil _ _⟩, g5⟩
        | true =>
          rw [enc_good ho] at HE
          by_cases hs : pageT ⟨n1, L S k⟩ = S
          · have hx := HD.out
            rw [if_pos ⟨ho, hs⟩] at hx
            subst hx
            rw [hs] at HE
            have HEe := hid HE
            have hq : ((bs S).toList == (bs S).toList) = true := by simp
            have HLS := hid hlS
            clear HE HD ho hs hlS
            go_wp2_with fail
            refine HEe.out.mono ?_
            rintro e w5 ⟨rfl, hb⟩
            have D4 := hid (HS.out.on hb)
            clear hb t2 t3 hlt3
            obtain ⟨s0, s1⟩ := D4.out.rs.free
            obtain ⟨r0, r1⟩ := D4.out.rs.cells
            have hlr := D4.out.rs.lt
            obtain ⟨t2, t3⟩ := D4.out.tb.cells
            have hlt3 := D4.out.tb.lt
            have HF := hid D4.out.fin
            go_wp2
            obtain ⟨g4, g1, g5⟩ := HF.out
            obtain ⟨u0, u1⟩ := g4.cells
            refine @bodyPost_ret Tryz.prog Tryz.f111 (fun e w' => DecGives (⟨n1, L S k⟩, 0) w w' e) _ _ (.tuple #[trV ⟨n1, L S k⟩ (.slice ao k cap), .int .i64 0]) ?_ ?_ ?_
            · simp [results, trV, go_sem, u0, u1]
            · rfl
            · exact ⟨⟨_, rfl, g1⟩, g5⟩
          · have hx := HD.out
            rw [if_neg (fun e => hs e.2)] at hx
            subst hx
            have HEe := hid HE
            have hq : ((bs (pageT ⟨n1, L S k⟩)).toList == (bs S).toList) = false := by rw [bs_list, bs_list]; simpa using hs
            clear HE HD ho hs hlS
            generalize pageT ⟨n1, L S k⟩ = P at *
            go_wp2_with fail
            refine HEe.out.mono ?_
            rintro e w5 ⟨rfl, hb⟩
            have D4 := hid (HS.out.on hb)
            clear hb t2 t3 hlt3
            obtain ⟨s0, s1⟩ := D4.out.rs.free
            obtain ⟨r0, r1⟩ := D4.out.rs.cells
            have hlr := D4.out.rs.lt
            have HF := hid D4.out.nil
            go_wp2
            obtain ⟨g4, g5⟩ := HF.out
            obtain ⟨u0, u1⟩ := g4.cells
            refine @bodyPost_ret Tryz.prog Tryz.f111 (fun e w' => DecGives (noT, 4) w w' e) _ _ (.tuple #[trV noT nilS, .int .i64 4]) ?_ ?_ ?_
            · simp [results, trV, noT, go_sem, u0, u1]
            · rfl
            · exact ⟨⟨nilS, rfl, Lrow.nil _ _⟩, g5⟩
  · have hl2 : (((bs S).size : Int) != 232) = true := by simp only [bne, Bool.not_eq_true', beq_eq_false_iff_ne]; omega
    rw [dec_short hl]
    clear hz hl
    have T0 := hid (Tb.new 0 nilS w)
    have BT := hid ((Below.refl w.heap.size w).alloc (Nat.le_refl _) (tObj 0 nilS))
    obtain ⟨s0, s1⟩ := T0.out.free
    obtain ⟨r0, r1⟩ := T0.out.cells
    have hlr := T0.out.lt
    go_enter Tryz.func111, Tryz.ntmps111
    go_wp2
    obtain ⟨u0, u1⟩ := T0.out.cells
    refine @bodyPost_ret Tryz.prog Tryz.f111 (fun e w' => DecGives (noT, 1) w w' e) _ _ (.tuple #[trV noT nilS, .int .i64 1]) ?_ ?_ ?_
    · simp [results, trV, noT, go_sem, u0, u1]
    · rfl
    · exact ⟨⟨nilS, rfl, Lrow.nil _ _⟩, BT.out⟩
end Sp
end Go.Proofs.YtoifhcmgeackdaaGreatDoor
