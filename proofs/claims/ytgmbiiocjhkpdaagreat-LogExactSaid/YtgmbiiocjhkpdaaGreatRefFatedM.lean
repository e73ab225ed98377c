/-
  fated, in plain lists: what the rows are behind each round of its three loops.
-/
import Derived.Test.YtgmbiiocjhkpdaaGreatGrpJRc
import Derived.Test.YtgmbiiocjhkpdaaGreatGrpJDka
namespace Go.Proofs.YtgmbiiocjhkpdaaGreat
open Go.RowKit
namespace Ref
open Disk

/-- The places behind j rounds of the first loop. -/
def metSo (l : List Int) (k : Nat) (ps : List Plc) (j : Nat) : List Plc := mets l k (ps.take j) ++ ps.drop j
theorem metSo_zero (l : List Int) (k : Nat) (ps : List Plc) : metSo l k ps 0 = ps := by simp [metSo, mets]
theorem metSo_all (l : List Int) (k : Nat) (ps : List Plc) : metSo l k ps ps.length = mets l k ps := by simp [metSo]
theorem metSo_len (l : List Int) (k : Nat) (ps : List Plc) (j : Nat) : (metSo l k ps j).length = ps.length := by
  unfold metSo
  rw [List.length_append, mets_len, List.length_take, List.length_drop]
  omega
theorem metSo_next (l : List Int) (k : Nat) (ps : List Plc) (j : Nat) (h : j < ps.length) : metSo l k ps (j + 1) = (metSo l k ps j).set j (met1 l (counts k (ps.take j)) ps[j]) := by
  unfold metSo
  have hl : (mets l k (ps.take j)).length = j := by rw [mets_len, List.length_take]; omega
  rw [mets_take l k ps j h, List.append_assoc, List.set_append_right _ _ (by omega), hl, Nat.sub_self, List.drop_eq_getElem_cons h]
  rfl
theorem metSo_idle (l : List Int) (k : Nat) (ps : List Plc) (j : Nat) (h : j < ps.length) (hw : ps[j].waits = false) : metSo l k ps (j + 1) = metSo l k ps j ∧ counts k (ps.take (j + 1)) = counts k (ps.take j) := by
  constructor
  · unfold metSo
    rw [mets_take l k ps j h, List.append_assoc, List.drop_eq_getElem_cons h]
    unfold met1
    rw [hw]
    rfl
  · rw [counts_take k ps j h]
    unfold count1
    rw [hw]
    rfl
theorem counts_one (k : Nat) (ps : List Plc) (j : Nat) (h : j < ps.length) (hw : ps[j].waits = true) : counts k (ps.take (j + 1)) = counts k (ps.take j) + 1 := by
  rw [counts_take k ps j h]
  unfold count1
  rw [hw]
  rfl
/-- Three cells of the safe row. -/
theorem safes_put : ∀ (ps : List Plc) (q : Nat) (_ : q < ps.length) (p : Plc) (a b c : Value) (_ : safeC p.safe = [a, b, c]), (((safesC ps).set (q * 3) a).set (q * 3 + 1) b).set (q * 3 + 2) c = safesC (ps.set q p)
  | x :: r, 0, _, p, a, b, c, e => by
    obtain ⟨u, v, t, hx⟩ : ∃ u v t, safeC x.safe = [u, v, t] := by cases x.safe with
      | none => exact ⟨_, _, _, rfl⟩
      | some s => cases s with
        | none => exact ⟨_, _, _, rfl⟩
        | some y => exact ⟨_, _, _, rfl⟩
    show ((((safeC x.safe ++ safesC r).set (0 * 3) a).set (0 * 3 + 1) b).set (0 * 3 + 2) c) = safeC p.safe ++ safesC r
    rw [hx, e]
    rfl
  | x :: r, q + 1, h, p, a, b, c, e => by
    obtain ⟨u, v, t, hx⟩ : ∃ u v t, safeC x.safe = [u, v, t] := by cases x.safe with
      | none => exact ⟨_, _, _, rfl⟩
      | some s => cases s with
        | none => exact ⟨_, _, _, rfl⟩
        | some y => exact ⟨_, _, _, rfl⟩
    have ih := safes_put r q (by simpa using h) p a b c e
    show ((((safeC x.safe ++ safesC r).set ((q + 1) * 3) a).set ((q + 1) * 3 + 1) b).set ((q + 1) * 3 + 2) c) = safeC x.safe ++ safesC (r.set q p)
    rw [hx, ← ih, show (q + 1) * 3 = q * 3 + 3 by omega]
    rfl
theorem safes_is : ∀ (ps : List Plc) (q : Nat) (h : q < ps.length), (safesC ps)[q * 3]? = some (.bool ps[q].safe.isSome)
  | x :: r, 0, _ => by
    show (safeC x.safe ++ safesC r)[0 * 3]? = _
    cases hx : x.safe with
    | none => simp [safeC, hx]
    | some s => simp [safeC, nowC, hx]
  | x :: r, q + 1, h => by
    obtain ⟨u, v, t, hx⟩ : ∃ u v t, safeC x.safe = [u, v, t] := by cases x.safe with
      | none => exact ⟨_, _, _, rfl⟩
      | some s => cases s with
        | none => exact ⟨_, _, _, rfl⟩
        | some y => exact ⟨_, _, _, rfl⟩
    have ih := safes_is r q (by simpa using h)
    show (safeC x.safe ++ safesC r)[(q + 1) * 3]? = _
    rw [hx, show (q + 1) * 3 = q * 3 + 3 by omega]
    simpa using ih
/-- The places behind j rounds of the third loop: what is safe, or noughts. -/
def risen (ps : List Plc) (j : Nat) : List Plc := (ps.take j).map (fun p => ⟨p.now, some (p.safe.getD (some zeros)), p.waits⟩) ++ ps.drop j
theorem risen_zero (ps : List Plc) : risen ps 0 = ps := by simp [risen]
theorem risen_len (ps : List Plc) (j : Nat) : (risen ps j).length = ps.length := by unfold risen; rw [List.length_append, List.length_map, List.length_take, List.length_drop]; omega
theorem risen_next (ps : List Plc) (j : Nat) (h : j < ps.length) : risen ps (j + 1) = (risen ps j).set j ⟨ps[j].now, some (ps[j].safe.getD (some zeros)), ps[j].waits⟩ := by
  unfold risen
  have hl : ((ps.take j).map (fun p : Plc => (⟨p.now, some (p.safe.getD (some zeros)), p.waits⟩ : Plc))).length = j := by rw [List.length_map, List.length_take]; omega
  rw [List.set_append_right _ _ (by omega), hl, Nat.sub_self, List.drop_eq_getElem_cons h, List.take_succ_eq_append_getElem h, List.map_append, List.append_assoc]
  rfl
theorem risen_at (ps : List Plc) (j : Nat) (h : j < ps.length) : (risen ps j)[j]'(by rw [risen_len]; exact h) = ps[j] := by
  unfold risen
  have hl : ((ps.take j).map (fun p : Plc => (⟨p.now, some (p.safe.getD (some zeros)), p.waits⟩ : Plc))).length = j := by rw [List.length_map, List.length_take]; omega
  rw [List.getElem_append_right (by omega)]
  simp only [hl, Nat.sub_self]
  rw [List.getElem_drop]
  rfl
theorem risen_idle (ps : List Plc) (j : Nat) (h : j < ps.length) (s : Sec) (hs : ps[j].safe = some s) : risen ps (j + 1) = risen ps j := by
  unfold risen
  rw [List.drop_eq_getElem_cons h, List.take_succ_eq_append_getElem h, List.map_append, List.append_assoc]
  congr 1
  show (⟨ps[j].now, some (ps[j].safe.getD (some zeros)), ps[j].waits⟩ : Plc) :: ps.drop (j + 1) = ps[j] :: ps.drop (j + 1)
  rw [hs]
  show (⟨ps[j].now, some s, ps[j].waits⟩ : Plc) :: _ = _
  rw [← hs]
/-- In the end: the safe row and the row of what is now are those of the file that woke. -/
theorem risen_safe (F : Fil) (l : List Int) (k : Nat) : safesC (risen ((mets l k F.ps).take (endOf (mets l k F.ps))) (endOf (mets l k F.ps))) = safesC (F.woken l k).ps ∧ safesC (F.woken l k).ps = nowsC (F.woken l k).ps := by
  have hl : ((mets l k F.ps).take (endOf (mets l k F.ps))).length = endOf (mets l k F.ps) := by rw [List.length_take]; have := endOf_le (mets l k F.ps); omega
  constructor
  · unfold risen Fil.woken safesC
    rw [List.take_of_length_le (by omega), List.drop_of_length_le (by omega), List.append_nil, List.flatMap_map, List.flatMap_map]
    rfl
  · unfold Fil.woken safesC nowsC
    rw [List.flatMap_map, List.flatMap_map]
    rfl
end Ref
end Go.Proofs.YtgmbiiocjhkpdaaGreat
