/-
  Plain mathematics of layer 9 (spare): trunks and their pages, books of pages, what Take and Give answer. No program in sight.
-/
import Derived.Test.YtkoglikaaehhjaaGreatDoorGrpNumC
import Derived.Test.YtkoglikaaehhjaaGreatDoorMem
namespace Go.Proofs.YtkoglikaaehhjaaGreatDoor
namespace Sp
open Num (fixF unfF fixF_length hid)
open Part (numAt mid)
open Mem (Bs bs)
abbrev bl (S : ByteArray) : Bs := S.data.toList
theorem bl_bs (l : Bs) : bl (bs l) = l := rfl
theorem bs_bl (S : ByteArray) : bs (bl S) = S := rfl
theorem bs_size (l : Bs) : (bs l).size = l.length := by show l.toArray.size = _; simp
theorem bs_append (a b : Bs) : bs a ++ bs b = bs (a ++ b) := by
  apply ByteArray.ext
  simp [bs, ByteArray.data_append]
theorem bs_inj {a b : Bs} (h : bs a = bs b) : a = b := by
  have := congrArg bl h
  rwa [bl_bs, bl_bs] at this
def zeros (n : Nat) : Bs := List.replicate n 0
theorem zeros_len (n : Nat) : (zeros n).length = n := List.length_replicate

/-! ### Trunks and their pages -/
structure Tr where
  next : Int
  list : List Int
def noT : Tr := ⟨0, []⟩
def okP (p : Int) : Bool := decide (1 ≤ p) && decide (p < 4096)
def okT (t : Tr) : Bool := (decide (0 ≤ t.next) && decide (t.next < 4096)) && (decide (t.list.length ≤ 50) && t.list.all okP)
theorem okP_iff (p : Int) : okP p = true ↔ 1 ≤ p ∧ p < 4096 := by unfold okP; simp
theorem okT_iff (t : Tr) : okT t = true ↔ (0 ≤ t.next ∧ t.next < 4096) ∧ t.list.length ≤ 50 ∧ ∀ x ∈ t.list, 1 ≤ x ∧ x < 4096 := by
  unfold okT
  simp only [Bool.and_eq_true, decide_eq_true_eq, List.all_eq_true, okP_iff]
def nums (l : List Int) : Bs := l.flatMap fun x => fixF 4 x.toNat
theorem nums_len : ∀ l : List Int, (nums l).length = l.length * 4
  | [] => rfl
  | a :: l => by
    have ih := nums_len l
    unfold nums at ih ⊢
    rw [List.flatMap_cons, List.length_append, ih, fixF_length, List.length_cons]
    omega
theorem nums_append (a b : List Int) : nums (a ++ b) = nums a ++ nums b := List.flatMap_append ..
theorem nums_one (x : Int) : nums [x] = fixF 4 x.toNat := by unfold nums; simp
def headT (t : Tr) : Bs := [4] ++ (fixF 4 t.next.toNat ++ fixF 1 t.list.length)
def bodyT (t : Tr) : Bs := headT t ++ nums t.list
theorem head_len (t : Tr) : (headT t).length = 6 := by unfold headT; simp [fixF_length]
theorem body_len (t : Tr) : (bodyT t).length = 6 + t.list.length * 4 := by unfold bodyT; rw [List.length_append, head_len, nums_len]
def pageT (t : Tr) : Bs := bodyT t ++ zeros (232 - (bodyT t).length)
theorem page_len {t : Tr} (h : okT t = true) : (pageT t).length = 232 := by
  have := ((okT_iff t).1 h).2.1
  unfold pageT
  rw [List.length_append, zeros_len, body_len]
  omega
def rawT (m : Nat) (s : Bs) : Tr := ⟨(numAt s 1 4 : Nat), (List.range (min (numAt s 5 1) m)).map fun i => ((numAt s (6 + 4 * i) 4 : Nat) : Int)⟩
theorem fix4_back (n : Nat) (h : n < 4096) : unfF 0 (fixF 4 n) = n := by rw [Num.unf_fix]; exact Nat.mod_eq_of_lt (by omega)
theorem fix1_back (n : Nat) (h : n ≤ 50) : unfF 0 (fixF 1 n) = n := by rw [Num.unf_fix]; exact Nat.mod_eq_of_lt (by omega)
theorem at_next {t : Tr} (h : okT t = true) : (numAt (pageT t) 1 4 : Nat) = t.next.toNat := by
  obtain ⟨⟨h1, h2⟩, -⟩ := (okT_iff t).1 h
  have e : pageT t = [4] ++ (fixF 4 t.next.toNat ++ (fixF 1 t.list.length ++ (nums t.list ++ zeros (232 - (bodyT t).length)))) := by
    unfold pageT bodyT headT; simp only [List.append_assoc]
  unfold numAt
  rw [e, mid [4] _ _ 1 4 rfl (fixF_length 4 _)]
  exact fix4_back _ (by omega)
theorem at_count {t : Tr} (h : okT t = true) : numAt (pageT t) 5 1 = t.list.length := by
  obtain ⟨-, h1, -⟩ := (okT_iff t).1 h
  have e : pageT t = ([4] ++ fixF 4 t.next.toNat) ++ (fixF 1 t.list.length ++ (nums t.list ++ zeros (232 - (bodyT t).length))) := by
    unfold pageT bodyT headT; simp only [List.append_assoc]
  unfold numAt
  rw [e, mid _ _ _ 5 1 (by simp [fixF_length]) (fixF_length 1 _)]
  exact fix1_back _ h1
theorem at_list {t : Tr} (h : okT t = true) (i : Nat) (hi : i < t.list.length) : ((numAt (pageT t) (6 + 4 * i) 4 : Nat) : Int) = t.list[i] := by
  obtain ⟨-, -, h1⟩ := (okT_iff t).1 h
  have hx := h1 _ (List.getElem_mem hi)
  have e0 : t.list = t.list.take i ++ ([t.list[i]] ++ t.list.drop (i + 1)) := by simp
  have e : pageT t = (headT t ++ nums (t.list.take i)) ++ (fixF 4 t.list[i].toNat ++ (nums (t.list.drop (i + 1)) ++ zeros (232 - (bodyT t).length))) := by
    have e1 : nums t.list = nums (t.list.take i) ++ (fixF 4 t.list[i].toNat ++ nums (t.list.drop (i + 1))) := by
      rw [← nums_one, ← nums_append, ← nums_append, ← e0]
    unfold pageT
    rw [show bodyT t = headT t ++ nums t.list from rfl, e1]
    simp only [List.append_assoc]
  unfold numAt
  rw [e, mid _ _ _ (6 + 4 * i) 4 (by rw [List.length_append, head_len, nums_len, List.length_take]; omega) (fixF_length 4 _), fix4_back _ (by omega)]
  omega
/-- What the bytes of a good trunk's page say. -/
theorem raw_page {t : Tr} (h : okT t = true) {m : Nat} (hm : 50 ≤ m) : rawT m (pageT t) = t := by
  obtain ⟨⟨h1, h2⟩, h3, h4⟩ := (okT_iff t).1 h
  unfold rawT
  rw [at_next h, at_count h, show min t.list.length m = t.list.length by omega]
  have e1 : ((t.next.toNat : Nat) : Int) = t.next := by omega
  rw [e1]
  have e2 : ((List.range t.list.length).map fun i => ((numAt (pageT t) (6 + 4 * i) 4 : Nat) : Int)) = t.list := by
    apply List.ext_getElem
    · simp
    · intro i hi1 hi2
      simp only [List.getElem_map, List.getElem_range]
      exact at_list h i hi2
  rw [e2]
/-- What Decode answers. -/
def decT (s : Bs) : Tr × Int := if s.length ≠ 232 then (noT, 1) else if okT (rawT 50 s) = true ∧ pageT (rawT 50 s) = s then (rawT 50 s, 0) else (noT, 4)
def encT (t : Tr) : Bs × Int := if okT t then (pageT t, 0) else ([], 1)
theorem dec_page {t : Tr} (h : okT t = true) : decT (pageT t) = (t, 0) := by
  unfold decT
  rw [if_neg (by simpa using page_len h), raw_page h (Nat.le_refl _), if_pos ⟨h, rfl⟩]
theorem dec_ok {s : Bs} (h : (decT s).2 = 0) : okT (decT s).1 = true ∧ s = pageT (decT s).1 := by
  unfold decT at h ⊢
  split at h
  · cases h
  · rename_i h1
    rw [if_neg h1]
    split at h
    · rename_i h2
      rw [if_pos h2]
      exact ⟨h2.1, h2.2.symm⟩
    · cases h
/-- Read with another bound on the list, it is the same. -/
theorem raw_same (s : Bs) (m : Nat) (hm : 50 ≤ m) : (okT (rawT m s) = true ∧ pageT (rawT m s) = s) ↔ (okT (rawT 50 s) = true ∧ pageT (rawT 50 s) = s) := by
  constructor
  · rintro ⟨h1, h2⟩
    have e := raw_page h1 (m := 50) (Nat.le_refl _)
    rw [h2] at e
    rw [e]
    exact ⟨h1, h2⟩
  · rintro ⟨h1, h2⟩
    have e := raw_page h1 (m := m) hm
    rw [h2] at e
    rw [e]
    exact ⟨h1, h2⟩
theorem raw_eq (s : Bs) (m : Nat) (hm : 50 ≤ m) (h : okT (rawT 50 s) = true ∧ pageT (rawT 50 s) = s) : rawT m s = rawT 50 s := by
  have e := raw_page h.1 (m := m) hm
  rwa [h.2] at e
theorem dec_ref (s : Bs) : decT s = if s.length ≠ 232 then (noT, 1) else if okT (rawT 56 s) = true ∧ pageT (rawT 56 s) = s then (rawT 56 s, 0) else (noT, 4) := by
  unfold decT
  by_cases h1 : s.length ≠ 232
  · rw [if_pos h1, if_pos h1]
  · rw [if_neg h1, if_neg h1]
    by_cases h2 : okT (rawT 50 s) = true ∧ pageT (rawT 50 s) = s
    · rw [if_pos h2, if_pos ((raw_same s 56 (by decide)).2 h2), raw_eq s 56 (by decide) h2]
    · rw [if_neg h2, if_neg (fun h => h2 ((raw_same s 56 (by decide)).1 h))]

/-! ### Books -/
abbrev Book := List (Int × Bs)
def getB : Book → Int → Bs
  | [], _ => zeros 232
  | x :: r, n => if x.1 = n then x.2 else getB r n
def putB : Book → Int → Bs → Book
  | [], n, d => [(n, d)]
  | x :: r, n, d => if x.1 = n then (n, d) :: r else x :: putB r n d
/-- Where a page stands. -/
def placeB : Book → Int → Int
  | [], _ => -1
  | x :: r, n => if x.1 = n then 0 else if placeB r n < 0 then -1 else placeB r n + 1
theorem get_same (n : Int) (d : Bs) : ∀ B : Book, getB (putB B n d) n = d
  | [] => by unfold putB getB; rw [if_pos rfl]
  | x :: r => by
    have ih := get_same n d r
    unfold putB
    by_cases h : x.1 = n
    · rw [if_pos h]; unfold getB; rw [if_pos rfl]
    · rw [if_neg h]; unfold getB; rw [if_neg h]; exact ih
theorem get_other {n k : Int} (hne : k ≠ n) (d : Bs) : ∀ B : Book, getB (putB B n d) k = getB B k
  | [] => by unfold putB getB; rw [if_neg (fun e => hne e.symm)]; rfl
  | x :: r => by
    have ih := get_other hne d r
    unfold putB
    by_cases h : x.1 = n
    · rw [if_pos h]; unfold getB; rw [if_neg (fun e => hne e.symm), if_neg (fun e => hne (e.symm.trans h))]
    · rw [if_neg h]; unfold getB; rw [ih]
theorem put_mem {n : Int} {d : Bs} : ∀ {B : Book} {x : Int × Bs}, x ∈ putB B n d → x ∈ B ∨ x = (n, d)
  | [], x, h => by unfold putB at h; simp at h; exact Or.inr h
  | y :: r, x, h => by
    unfold putB at h
    by_cases hy : y.1 = n
    · rw [if_pos hy] at h
      rcases List.mem_cons.1 h with rfl | h
      · exact Or.inr rfl
      · exact Or.inl (List.mem_cons_of_mem _ h)
    · rw [if_neg hy] at h
      rcases List.mem_cons.1 h with rfl | h
      · exact Or.inl (List.mem_cons_self ..)
      · rcases put_mem h with h | h
        · exact Or.inl (List.mem_cons_of_mem _ h)
        · exact Or.inr h
theorem put_keys {n : Int} {d : Bs} : ∀ {B : Book}, (B.map (·.1)).Nodup → ((putB B n d).map (·.1)).Nodup
  | [], _ => by unfold putB; simp
  | y :: r, h => by
    rw [List.map_cons, List.nodup_cons] at h
    unfold putB
    by_cases hy : y.1 = n
    · rw [if_pos hy, List.map_cons, List.nodup_cons]
      exact ⟨by simpa [hy] using h.1, h.2⟩
    · rw [if_neg hy, List.map_cons, List.nodup_cons]
      refine ⟨fun hm => ?_, put_keys h.2⟩
      obtain ⟨z, hz, e⟩ := List.mem_map.1 hm
      rcases put_mem hz with hz | rfl
      · exact h.1 (List.mem_map.2 ⟨z, hz, e⟩)
      · exact hy e.symm
theorem put_len (n : Int) (d : Bs) : ∀ B : Book, (putB B n d).length ≤ B.length + 1
  | [] => Nat.le_refl _
  | y :: r => by
    have := put_len n d r
    unfold putB
    split
    · simp
    · simp; omega
theorem get_at : ∀ (B : Book) (k : Nat) (hk : k < B.length), (B.map (·.1)).Nodup → getB B B[k].1 = B[k].2
  | x :: r, 0, _, _ => by unfold getB; simp
  | x :: r, k + 1, hk, h => by
    rw [List.map_cons, List.nodup_cons] at h
    have hk2 : k < r.length := by simpa using hk
    have ih := get_at r k hk2 h.2
    have hne : ¬ x.1 = r[k].1 := fun e => h.1 (List.mem_map.2 ⟨r[k], List.getElem_mem _, e.symm⟩)
    rw [List.getElem_cons_succ]
    unfold getB
    rw [if_neg hne]
    exact ih
/-- A page stands at the first of its number. -/
theorem place_ways : ∀ (B : Book) (n : Int), (∃ k, ∃ h : k < B.length, placeB B n = k ∧ B[k].1 = n ∧ getB B n = B[k].2 ∧ (∀ d, putB B n d = B.set k (n, d)) ∧ ∀ j (hj : j < k), (B[j]'(by omega)).1 ≠ n) ∨ (placeB B n = -1 ∧ getB B n = zeros 232 ∧ (∀ d, putB B n d = B ++ [(n, d)]) ∧ ∀ j (hj : j < B.length), B[j].1 ≠ n)
  | [], n => Or.inr ⟨rfl, rfl, fun _ => rfl, fun j hj => absurd hj (Nat.not_lt_zero _)⟩
  | x :: r, n => by
    by_cases hx : x.1 = n
    · refine Or.inl ⟨0, by simp, ?_, hx, ?_, fun d => ?_, fun j hj => absurd hj (Nat.not_lt_zero _)⟩
      · unfold placeB; rw [if_pos hx]; rfl
      · unfold getB; rw [if_pos hx]; rfl
      · unfold putB; rw [if_pos hx]; rfl
    · rcases place_ways r n with ⟨k, hk, h1, h2, h3, h4, h5⟩ | ⟨h1, h2, h3, h4⟩
      · refine Or.inl ⟨k + 1, by simpa using hk, ?_, h2, ?_, fun d => ?_, fun j hj => ?_⟩
        · unfold placeB; rw [if_neg hx, h1, if_neg (by omega)]; rfl
        · unfold getB; rw [if_neg hx, h3]; rfl
        · unfold putB; rw [if_neg hx, h4]; rfl
        · cases j with
          | zero => exact hx
          | succ j => exact h5 j (by omega)
      · refine Or.inr ⟨?_, ?_, fun d => ?_, fun j hj => ?_⟩
        · unfold placeB; rw [if_neg hx, h1]; rfl
        · unfold getB; rw [if_neg hx, h2]
        · unfold putB; rw [if_neg hx, h3]; rfl
        · cases j with
          | zero => exact hx
          | succ j => exact h4 j (by simpa using hj)

/-! ### Heads, stores, Take and Give -/
structure Hd where
  mode : Int
  pages : Int
  trunk : Int
  spare : Int
  root : Int
  change : Nat
deriving DecidableEq
def hd0 : Hd := ⟨0, 0, 0, 0, 0, 0⟩
def Fit (h : Hd) : Prop := (h.mode = 1 ∨ h.mode = 2) ∧ 1 ≤ h.pages ∧ h.pages ≤ 4096 ∧ (0 ≤ h.trunk ∧ h.trunk < h.pages) ∧ (0 ≤ h.spare ∧ h.spare < h.pages) ∧ (0 ≤ h.root ∧ h.root < h.pages) ∧ (h.spare = 0 ↔ h.trunk = 0)
instance (h : Hd) : Decidable (Fit h) := by unfold Fit; infer_instance
/-- A store of pages whose calls fail when left is used up. -/
structure St where
  B : Book
  left : Int
def St.get (S : St) (n : Int) : (Bs × Int) × St := if S.left = 0 then (([], 11), S) else ((getB S.B n, 0), ⟨S.B, S.left - 1⟩)
def St.put (S : St) (n : Int) (d : Bs) : Int × St := if S.left = 0 then (11, S) else (0, ⟨putB S.B n d, S.left - 1⟩)
def trunkAt (S : St) (n : Int) : (Tr × Int) × St := if (S.get n).1.2 ≠ 0 then ((noT, (S.get n).1.2), (S.get n).2) else if (decT (S.get n).1.1).2 ≠ 0 then ((noT, 30), (S.get n).2) else (((decT (S.get n).1.1).1, 0), (S.get n).2)
def putTrunk (S : St) (n : Int) (t : Tr) : Int × St := if okT t then S.put n (pageT t) else (1, S)
def takeNew (h : Hd) : Int × Hd × Int := if 4096 ≤ h.pages then (0, hd0, 22) else (h.pages, { h with pages := h.pages + 1 }, 0)
def takeTrunk (h : Hd) (next : Int) : Int × Hd × Int := if decide (h.spare - 1 = 0) ≠ decide (next = 0) then (0, hd0, 30) else (h.trunk, { h with trunk := next, spare := h.spare - 1 }, 0)
/-- The trunk is none of a head with so many pages. -/
def badT (h : Hd) (t : Tr) : Bool := decide (h.pages ≤ t.next) || (decide (0 < t.list.length) && decide (h.pages ≤ t.list.getLastD 0))
def takeOf (h : Hd) (r : (Tr × Int) × St) : (Int × Hd × Int) × St :=
  if r.1.2 ≠ 0 then ((0, hd0, r.1.2), r.2) else if badT h r.1.1 then ((0, hd0, 30), r.2) else if r.1.1.list.length = 0 then (takeTrunk h r.1.1.next, r.2) else
  if (putTrunk r.2 h.trunk ⟨r.1.1.next, r.1.1.list.dropLast⟩).1 ≠ 0 then ((0, hd0, (putTrunk r.2 h.trunk ⟨r.1.1.next, r.1.1.list.dropLast⟩).1), (putTrunk r.2 h.trunk ⟨r.1.1.next, r.1.1.list.dropLast⟩).2)
  else ((r.1.1.list.getLastD 0, { h with spare := h.spare - 1 }, 0), (putTrunk r.2 h.trunk ⟨r.1.1.next, r.1.1.list.dropLast⟩).2)
def takeM (h : Hd) (S : St) : (Int × Hd × Int) × St := if h.spare = 0 then (takeNew h, S) else takeOf h (trunkAt S h.trunk)
/-- The trunk to write, and where. -/
def trunkFor (h : Hd) (S : St) (n : Int) : (Int × Tr × Int) × St :=
  if h.trunk = 0 then ((n, ⟨0, []⟩, 0), S) else
  if (trunkAt S h.trunk).1.2 ≠ 0 then ((0, noT, (trunkAt S h.trunk).1.2), (trunkAt S h.trunk).2) else
  if (trunkAt S h.trunk).1.1.list.length < 50 then ((h.trunk, ⟨(trunkAt S h.trunk).1.1.next, (trunkAt S h.trunk).1.1.list ++ [n]⟩, 0), (trunkAt S h.trunk).2)
  else ((n, ⟨h.trunk, []⟩, 0), (trunkAt S h.trunk).2)
def giveOf (h : Hd) (r : (Int × Tr × Int) × St) : (Hd × Int) × St :=
  if r.1.2.2 ≠ 0 then ((hd0, r.1.2.2), r.2) else
  if (putTrunk r.2 r.1.1 r.1.2.1).1 ≠ 0 then ((hd0, (putTrunk r.2 r.1.1 r.1.2.1).1), (putTrunk r.2 r.1.1 r.1.2.1).2) else (({ h with trunk := r.1.1, spare := h.spare + 1 }, 0), (putTrunk r.2 r.1.1 r.1.2.1).2)
def giveM (h : Hd) (S : St) (n : Int) : (Hd × Int) × St :=
  if n < 1 ∨ h.pages ≤ n then ((hd0, 1), S) else if h.pages - 1 ≤ h.spare then ((hd0, 30), S) else giveOf h (trunkFor h S n)
end Sp
end Go.Proofs.YtkoglikaaehhjaaGreatDoor
