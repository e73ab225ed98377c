/-
  DiskSafe, plainly: a file that was synced, written within its size, and met by any fates.
-/
import Derived.Test.YtfgaoopgnpigjaaDiskKeptN
namespace Go.Proofs.Ytfgaoopgnpigjaa
open Go.RowKit
namespace Disk

/-- The file F2, synced, and F behind writes within its size; R: what was written last to each place, no bytes where nothing was. -/
structure Wrote (F2 F : Fil) (R : List (List UInt8)) : Prop where
  sure : F.sure = true
  len : F.ps.length = F2.ps.length
  rlen : R.length = F2.ps.length
  safe : ∀ i (h : i < F.ps.length) (h2 : i < F2.ps.length), F.ps[i].safe = some F2.ps[i].now
  idle : ∀ i (h : i < F.ps.length) (hr : i < R.length), R[i] = [] → F.ps[i].waits = false
  last : ∀ i (h : i < F.ps.length) (hr : i < R.length), R[i] ≠ [] → F.ps[i].now = some R[i]

theorem wrote_start (F : Fil) : Wrote F.sync F.sync (List.replicate F.ps.length []) := by
  have e : ∀ i (h : i < F.sync.ps.length), F.sync.ps[i] = ⟨(F.ps[i]'(by simpa [Fil.sync] using h)).now, some (F.ps[i]'(by simpa [Fil.sync] using h)).now, false⟩ := fun i h => by simp [Fil.sync]
  refine ⟨rfl, rfl, by simp [Fil.sync], fun i h h2 => ?_, fun i h hr _ => ?_, fun i h hr hne => ?_⟩
  · rw [e i h]
  · rw [e i h]
  · exact absurd (by simp) hne
theorem Wrote.write {F2 F : Fil} {R : List (List UInt8)} (h : Wrote F2 F R) {k : Nat} (hk : k < F.ps.length) {s : List UInt8} (hs : s ≠ []) : Wrote F2 (F.write k s) (R.set k s) := by
  have hne : ¬ k = F.ps.length := by omega
  have e : (F.write k s).ps = F.ps.set k ⟨some s, F.ps[k].safe, true⟩ := by
    unfold Fil.write
    rw [if_neg hne, List.getElem?_eq_getElem hk]
  have hsure : (F.write k s).sure = true := by
    unfold Fil.write
    rw [if_neg hne]
    exact h.sure
  have hl : (F.write k s).ps.length = F.ps.length := by rw [e, List.length_set]
  have at_ : ∀ i (h1 : i < (F.write k s).ps.length) (h2 : i < F.ps.length), (F.write k s).ps[i] = if k = i then ⟨some s, F.ps[k].safe, true⟩ else F.ps[i] := fun i h1 h2 => by
    simp only [e]
    rw [List.getElem_set]
  have rat : ∀ i (h1 : i < (R.set k s).length) (h2 : i < R.length), (R.set k s)[i] = if k = i then s else R[i] := fun i h1 h2 => by rw [List.getElem_set]
  refine ⟨hsure, by rw [hl, h.len], by rw [List.length_set, h.rlen], fun i h1 h2 => ?_, fun i h1 hr hR => ?_, fun i h1 hr hR => ?_⟩
  · rw [at_ i h1 (by omega)]
    split
    · rename_i e1; subst e1; exact h.safe k hk h2
    · exact h.safe i (by omega) h2
  · have hr' : i < R.length := by simpa using hr
    rw [rat i hr hr'] at hR
    rw [at_ i h1 (by omega)]
    split
    · rename_i e1; rw [if_pos e1] at hR; exact absurd hR hs
    · rename_i e1; rw [if_neg e1] at hR; exact h.idle i (by omega) hr' hR
  · have hr' : i < R.length := by simpa using hr
    rw [rat i hr hr'] at hR ⊢
    rw [at_ i h1 (by omega)]
    split
    · rfl
    · rename_i e1; rw [if_neg e1] at hR; exact h.last i (by omega) hr' hR

theorem mets_at (l : List Int) : ∀ (ps : List Plc) (k i : Nat) (h : i < ps.length), ∃ q, (mets l k ps)[i]? = some (met1 l q ps[i])
  | [], _, _, h => absurd h (Nat.not_lt_zero _)
  | p :: r, k, 0, _ => ⟨k, rfl⟩
  | p :: r, k, i + 1, h => by
    obtain ⟨q, hq⟩ := mets_at l r (count1 k p) i (by simpa using h)
    exact ⟨q, hq⟩
theorem met1_safe (l : List Int) (q : Nat) (p : Plc) (s : Sec) (hs : p.safe = some s) : ∃ o, (met1 l q p).safe = some o ∧ (o = s ∨ p.waits = true ∧ (o = p.now ∨ o = none)) := by
  unfold met1 Plc.meet
  split
  · rename_i hw
    split
    · exact ⟨_, rfl, Or.inr ⟨hw, Or.inl rfl⟩⟩
    · split
      · exact ⟨_, rfl, Or.inr ⟨hw, Or.inr rfl⟩⟩
      · exact ⟨s, hs, Or.inl rfl⟩
  · exact ⟨s, hs, Or.inl rfl⟩
/-- Where every place has a safe state. -/
theorem endOf_all {l : List Plc} (h : ∀ p ∈ l, p.safe.isSome = true) : endOf l = l.length := by
  have e : l.map (·.safe) = (l.map fun p => p.safe.getD none).map some ++ List.replicate 0 none := by
    rw [List.map_map, List.replicate_zero, List.append_nil]
    apply List.map_congr_left
    intro p hp
    have := h p hp
    cases hs : p.safe with
    | none => rw [hs] at this; cases this
    | some s => simp [hs]
  rw [endOf_safes 0 _ l e, List.length_map]
/-- What the power leaves of it. -/
theorem Wrote.woken {F2 F : Fil} {R : List (List UInt8)} (h : Wrote F2 F R) (l : List Int) (k : Nat) :
    F.lives l k = true ∧ (F.woken l k).ps.length = F2.ps.length ∧ ∀ i (hi : i < F2.ps.length), ∃ p, (F.woken l k).ps[i]? = some p ∧ (p.now = F2.ps[i].now ∨ ∃ hr : i < R.length, R[i] ≠ [] ∧ (p.now = some R[i] ∨ p.now = none)) := by
  have hall : ∀ i (hi : i < F2.ps.length), ∃ p o, (mets l k F.ps)[i]? = some p ∧ p.safe = some o ∧ (o = F2.ps[i].now ∨ ∃ hr : i < R.length, R[i] ≠ [] ∧ (o = some R[i] ∨ o = none)) := by
    intro i hi
    have hF : i < F.ps.length := by rw [h.len]; exact hi
    have hR : i < R.length := by rw [h.rlen]; exact hi
    obtain ⟨q, hq⟩ := mets_at l F.ps k i hF
    obtain ⟨o, ho, hc⟩ := met1_safe l q F.ps[i] F2.ps[i].now (h.safe i hF hi)
    refine ⟨_, o, hq, ho, ?_⟩
    rcases hc with hc | ⟨hw, hc⟩
    · exact Or.inl hc
    · have hne : R[i] ≠ [] := fun e => by rw [h.idle i hF hR e] at hw; cases hw
      refine Or.inr ⟨hR, hne, ?_⟩
      rw [h.last i hF hR hne] at hc
      exact hc
  have hlen : (mets l k F.ps).length = F2.ps.length := by rw [mets_len, h.len]
  have hsome : ∀ p ∈ mets l k F.ps, p.safe.isSome = true := by
    intro p hp
    obtain ⟨i, hi, rfl⟩ := List.getElem_of_mem hp
    obtain ⟨p', o, h1, h2, _⟩ := hall i (by rw [← hlen]; exact hi)
    rw [List.getElem?_eq_getElem hi] at h1
    cases h1
    rw [h2]
    rfl
  have hend := endOf_all hsome
  refine ⟨by unfold Fil.lives; rw [h.sure]; rfl, ?_, fun i hi => ?_⟩
  · unfold Fil.woken
    rw [List.length_map, List.length_take, hend, hlen]
    exact Nat.min_self _
  · obtain ⟨p, o, h1, h2, h3⟩ := hall i hi
    refine ⟨p.rise, ?_, ?_⟩
    · show (((mets l k F.ps).take (endOf (mets l k F.ps))).map Plc.rise)[i]? = _
      rw [hend, List.take_of_length_le (Nat.le_refl _), List.getElem?_map, h1]
      rfl
    · have : p.rise.now = o := by unfold Plc.rise; rw [h2]; rfl
      rw [this]
      exact h3
theorem find_ne {fs : Dir} {n : Nam} (h : ∀ e ∈ fs, e.1 ≠ n) : get? fs n = none := by
  unfold get?
  rw [List.find?_eq_none.2 (fun e he => by simpa using h e he)]
  rfl
/-- A file that lives is there behind the power, met from some fate on. -/
theorem wakes_get (l : List Int) : ∀ (fs : Dir) (k : Nat) {n : Nam} {F : Fil}, fs.Pairwise (fun p q => bytesBefore p.1 q.1 = true) → get? fs n = some F → (∀ k, F.lives l k = true) → ∃ k', get? (wakes l k fs) n = some (F.woken l k')
  | [], _, n, F, _, h, _ => by cases h
  | e :: r, k, n, F, hp, h, hL => by
    have hp2 := (List.pairwise_cons.1 hp).2
    by_cases he : e.1 = n
    · have hF : e.2 = F := by
        unfold get? at h
        rw [List.find?_cons_of_pos (by simp [he])] at h
        simpa using h
      unfold wakes
      rw [hF, if_pos (hL k)]
      refine ⟨k, ?_⟩
      unfold get?
      rw [List.singleton_append, List.find?_cons_of_pos (by simp [he])]
      rfl
    · have h2 : get? r n = some F := by
        unfold get? at h ⊢
        rw [List.find?_cons_of_neg (by simp [he])] at h
        exact h
      obtain ⟨k', hk'⟩ := wakes_get l r (counts k e.2.ps) hp2 h2 hL
      refine ⟨k', ?_⟩
      unfold wakes
      split
      · unfold get? at hk' ⊢
        rw [List.singleton_append, List.find?_cons_of_neg (by simp [he])]
        exact hk'
      · exact hk'

end Disk
end Go.Proofs.Ytfgaoopgnpigjaa
