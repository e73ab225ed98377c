/-
  DiskKept, plainly: what a loss of power leaves if all fates are Kept, or there are none.
-/
import Derived.Test.YtfgaoopgnpigjaaDiskFits
namespace Go.Proofs.Ytfgaoopgnpigjaa
open Go.RowKit
namespace Disk

/-- What doesn't wait is safe. -/
def Half (F : Fil) : Prop := ∀ p ∈ F.ps, p.waits = false → p.safe = some p.now
/-- .. and the file outlives every loss of power in which what waits is kept. -/
def Tidy (F : Fil) : Prop := Half F ∧ (F.sure = true ∨ F.ps ≠ [])
def Tidies (fs : Dir) : Prop := ∀ e ∈ fs, Tidy e.2
theorem Tidies.ins {fs : Dir} (h : Tidies fs) (n : Nam) {F : Fil} (hF : Tidy F) : Tidies (ins fs n F) := fun e he => by
  rcases mem_ins he with rfl | ⟨he, _⟩
  · exact hF
  · exact h e he
theorem Tidies.del {fs : Dir} (h : Tidies fs) (n : Nam) : Tidies (del fs n) := fun e he => h e (mem_del he).1
theorem get_mem {fs : Dir} {n : Nam} {F : Fil} (h : get? fs n = some F) : (n, F) ∈ fs := by
  unfold get? at h
  obtain ⟨e, he, rfl⟩ := Option.map_eq_some_iff.1 h
  have h1 := List.mem_of_find?_eq_some he
  have h2 := List.find?_some he
  have : e.1 = n := by simpa using h2
  subst this
  exact h1
theorem Half.write {F : Fil} (h : Half F) {i : Nat} (hi : i ≤ F.ps.length) (s : List UInt8) : Tidy (F.write i s) := by
  unfold Fil.write
  split
  · refine ⟨fun p hp hw => ?_, Or.inr (by simp)⟩
    rcases List.mem_append.1 hp with hp | hp
    · exact h p hp hw
    · rw [List.mem_singleton] at hp; subst hp; cases hw
  · rename_i hne
    have hlt : i < F.ps.length := by omega
    rw [List.getElem?_eq_getElem hlt]
    refine ⟨fun p hp hw => ?_, Or.inr ?_⟩
    · rcases List.mem_or_eq_of_mem_set hp with hp | rfl
      · exact h p hp hw
      · cases hw
    · intro e
      have := congrArg List.length e
      simp at this
      rw [this] at hlt
      simp at hlt
theorem tidy_sync (F : Fil) : Tidy F.sync := by
  refine ⟨fun p hp _ => ?_, Or.inl rfl⟩
  obtain ⟨q, _, rfl⟩ := List.mem_map.1 hp
  rfl
theorem Half.cut {F : Fil} (h : Half F) (n : Nat) : Tidy (F.cut n) := ⟨fun p hp hw => h p (List.mem_of_mem_take hp) hw, Or.inl rfl⟩
theorem tidy_woken (F : Fil) (l : List Int) (k : Nat) : Tidy (F.woken l k) := by
  refine ⟨fun p hp _ => ?_, Or.inl rfl⟩
  obtain ⟨q, _, rfl⟩ := List.mem_map.1 hp
  rfl
theorem tidy_loaded (l : List UInt8) : Tidy (loadedF l) := by
  refine ⟨fun p hp _ => ?_, Or.inl rfl⟩
  obtain ⟨q, _, rfl⟩ := List.mem_map.1 hp
  rfl
theorem tidies_wakes (l : List Int) : ∀ (fs : Dir) (k : Nat), Tidies (wakes l k fs)
  | [], _, e, h => by simp [wakes] at h
  | x :: r, k, e, h => by
    unfold wakes at h
    rw [List.mem_append] at h
    rcases h with h | h
    · split at h
      · rw [List.mem_singleton] at h; subst h; exact tidy_woken _ _ _
      · cases h
    · exact tidies_wakes l r _ e h
theorem Tidies.run {M : Mod} (h : Tidies M.fs) {fit : Bool} {f : Dir → Int × Dir} (hf : Tidies (f M.fs).2) : Tidies (M.run fit f).2.fs := by
  unfold Mod.run
  split
  · exact h
  · exact hf
theorem Tidies.writeD {fs : Dir} (h : Tidies fs) (room : Int) (n : Nam) (i : Int) (l : List UInt8) (hi : 0 ≤ i) : Tidies (writeD room n i l fs).2 := by
  unfold Disk.writeD
  simp only []
  split
  · exact h
  · rename_i h1
    split
    · exact h
    · refine h.ins n (Half.write ?_ (by omega) l)
      cases hg : get? fs n with
      | none => intro p hp; cases hp
      | some F => exact (h _ (get_mem hg)).1
theorem Tidies.onD {fs : Dir} (h : Tidies fs) (n : Nam) {f : Fil → Int × Dir} (hf : ∀ F, Tidy F → Tidies (f F).2) : Tidies (onD n f fs).2 := by
  unfold Disk.onD
  cases hg : get? fs n with
  | none => exact h
  | some F => exact hf F (h _ (get_mem hg))
theorem Tidies.write {M : Mod} (h : Tidies M.fs) (n : Nam) (i : Int) (l : List UInt8) : Tidies (M.write n i l).2.fs := by
  unfold Mod.write Mod.run
  split
  · exact h
  · rename_i hr
    have hf := refusal_fit hr
    simp only [Bool.and_eq_true, decide_eq_true_eq] at hf
    exact h.writeD _ n i l hf.1.2
theorem Tidies.does {M : Mod} (h : Tidies M.fs) (x : ActM) : Tidies (M.does x).2.2.fs := by
  unfold Mod.does
  repeat' split
  · unfold Mod.read
    split <;> exact h
  · exact h.write _ _ _
  · exact h.run (h.onD _ fun F _ => h.ins _ (tidy_sync F))
  · refine h.run (h.onD _ fun F hF => ?_)
    split
    · exact h
    · exact h.ins _ (hF.1.cut _)
  · exact h.run (h.onD _ fun _ _ => h.del _)
  · exact h
  · exact h
  · exact h
  · unfold Mod.on
    split
    · exact tidies_wakes _ _ _
    · exact h
  · unfold Mod.load
    repeat' split
    · exact h
    · exact h
    · exact h.ins _ (tidy_loaded _)
  · exact h
theorem Tidies.play : ∀ (l : List ActM) {M : Mod}, Tidies M.fs → Tidies (playM l M).fs
  | [], _, h => h
  | x :: r, _, h => Tidies.play r (h.does x)
theorem tidies_filled (l : List ActM) : Tidies (filledM l).fs := by
  have h := Tidies.play (l.take 80) (M := Mod.new 16384) (fun e he => by cases he)
  show Tidies ((playM (l.take 80) (Mod.new 16384)).on []).fs
  unfold Mod.on
  split
  · exact tidies_wakes _ _ _
  · exact h

/-! ### fates -/
theorem fate_one (k : Nat) : fateAt [1] k = 1 := by unfold fateAt; simp [Nat.mod_one]
theorem fate_none (k : Nat) : fateAt [] k = 0 := rfl
theorem mets_one : ∀ (l : List Plc) (k : Nat), mets [1] k l = l.map fun p => if p.waits then { p with safe := some p.now } else p
  | [], _ => rfl
  | p :: r, k => by
    unfold mets
    rw [mets_one r, List.map_cons]
    congr 1
    unfold met1 Plc.meet
    rw [fate_one, if_pos rfl]
theorem mets_none : ∀ (l : List Plc) (k : Nat), mets [] k l = l
  | [], _ => rfl
  | p :: r, k => by
    unfold mets
    rw [mets_none r]
    congr 1
    unfold met1 Plc.meet
    rw [fate_none]
    split <;> rfl
theorem list_snoc {α : Type} (l : List α) : l = [] ∨ ∃ r x, l = r ++ [x] := by
  rcases List.eq_nil_or_concat l with h | ⟨r, x, h⟩
  · exact Or.inl h
  · exact Or.inr ⟨r, x, by rw [h]; simp⟩
/-- Where the places that have a safe state come first. -/
theorem endOf_safes : ∀ (j : Nat) (A : List Sec) (l : List Plc), l.map (·.safe) = A.map some ++ List.replicate j none → endOf l = A.length
  | j, A, l, h => by
    rcases list_snoc l with rfl | ⟨r, p, rfl⟩
    · have := congrArg List.length h
      simp at this
      simp [endOf]
      omega
    · rw [endOf_snoc]
      cases j with
      | zero =>
        have hlen := congrArg List.length h
        simp at hlen
        rcases list_snoc A with rfl | ⟨B, s, rfl⟩
        · simp at hlen
        · have h2 : r.map (·.safe) ++ [p.safe] = B.map some ++ [some s] := by simpa using h
          have h3 := (List.append_inj' h2 rfl).2
          have : p.safe = some s := by simpa using h3
          rw [this]
          simp at hlen ⊢
          omega
      | succ j =>
        rw [List.replicate_succ', ← List.append_assoc, List.map_append] at h
        have h3 := List.append_inj' h rfl
        have : p.safe = none := by simpa using h3.2
        rw [this]
        simp only [Option.isSome_none, Bool.false_eq_true, if_false]
        exact endOf_safes j A r h3.1
def riseS (o : Option Sec) : Plc := ⟨o.getD (some zeros), some (o.getD (some zeros)), false⟩
theorem rise_safes (l : List Plc) : l.map Plc.rise = (l.map (·.safe)).map riseS := by rw [List.map_map]; rfl
/-- What is left of places whose safe states come first. -/
theorem woken_safes {A : List Sec} {j : Nat} {l : List Plc} (h : l.map (·.safe) = A.map some ++ List.replicate j none) : (l.take (endOf l)).map Plc.rise = A.map fun s => ⟨s, some s, false⟩ := by
  rw [endOf_safes j A l h, rise_safes, List.map_take, h, List.take_left' (by simp), List.map_map]
  rfl
theorem half_safes {F : Fil} (h : Half F) (k : Nat) : (mets [1] k F.ps).map (·.safe) = (F.ps.map (·.now)).map some ++ List.replicate 0 none := by
  rw [mets_one, List.map_map, List.map_map, List.replicate_zero, List.append_nil]
  apply List.map_congr_left
  intro p hp
  simp only [Function.comp]
  split
  · rfl
  · rename_i hw
    exact h p hp (by simpa using hw)
theorem woken_one {F : Fil} (h : Half F) (k : Nat) : F.woken [1] k = F.sync := by
  unfold Fil.woken Fil.sync
  rw [woken_safes (half_safes h k), List.map_map]
  rfl
theorem lives_one {F : Fil} (h : Tidy F) (k : Nat) : F.lives [1] k = true := by
  unfold Fil.lives
  rw [endOf_safes 0 _ _ (half_safes h.1 k)]
  rcases h.2 with h | h
  · rw [h]; rfl
  · have : F.ps.length ≠ 0 := fun e => h (List.eq_nil_of_length_eq_zero e)
    simp [this]
theorem wakes_map (l : List Int) (g : Fil → Fil) : ∀ (fs : Dir) (k : Nat), (∀ e ∈ fs, ∀ k, e.2.lives l k = true ∧ e.2.woken l k = g e.2) → wakes l k fs = fs.map fun e => (e.1, g e.2)
  | [], _, _ => rfl
  | x :: r, k, h => by
    unfold wakes
    rw [if_pos (h x (List.mem_cons_self ..) k).1, (h x (List.mem_cons_self ..) k).2, wakes_map l g r _ fun e he => h e (List.mem_cons_of_mem _ he)]
    rfl
theorem wakes_one {fs : Dir} (h : Tidies fs) (k : Nat) : wakes [1] k fs = fs.map fun e => (e.1, e.2.sync) :=
  wakes_map [1] Fil.sync fs k fun e he k => ⟨lives_one (h e he) k, woken_one (h e he).1 k⟩

/-- What was written to a file since it was synced, and nothing else. -/
def Since (F2 F : Fil) : Prop := F.sure = true ∧ ∃ j, F.ps.map (·.safe) = (F2.ps.map (·.now)).map some ++ List.replicate j none
theorem since_sync (F : Fil) : Since F F.sync := ⟨rfl, 0, by unfold Fil.sync; simp [Function.comp_def]⟩
theorem Since.write {F2 F : Fil} (h : Since F2 F) (i : Nat) (s : List UInt8) : Since F2 (F.write i s) := by
  obtain ⟨hs, j, hj⟩ := h
  unfold Fil.write
  split
  · refine ⟨hs, j + 1, ?_⟩
    rw [List.map_append, hj, List.replicate_succ', List.append_assoc]
    rfl
  · refine ⟨hs, j, ?_⟩
    cases hp : F.ps[i]? with
    | none => exact hj
    | some p =>
      simp only
      rw [List.map_set, hj.symm]
      apply List.ext_getElem?
      intro q
      rw [List.getElem?_set]
      split
      · rename_i e
        subst e
        split
        · rw [List.getElem?_map, hp]; rfl
        · rename_i hlt
          rw [List.getElem?_eq_none (by omega)]
      · rfl
theorem Since.woken {F2 F : Fil} (h : Since F2 F) (k : Nat) : F.lives [] k = true ∧ F.woken [] k = F2.sync := by
  obtain ⟨hs, j, hj⟩ := h
  constructor
  · unfold Fil.lives; rw [hs]; rfl
  · unfold Fil.woken Fil.sync
    rw [mets_none, woken_safes hj, List.map_map]
    rfl
theorem sync_bytes (F : Fil) : F.sync.bytes = F.bytes := by unfold Fil.bytes Fil.sync; simp [List.flatMap_map]
theorem get_map (fs : Dir) (g : Fil → Fil) (n : Nam) : get? (fs.map fun e => (e.1, g e.2)) n = (get? fs n).map g := by
  unfold get?
  rw [List.find?_map]
  have e : ((fun e : Nam × Fil => e.1 == n) ∘ fun e : Nam × Fil => (e.1, g e.2)) = fun e => e.1 == n := by funext e; rfl
  rw [e]
  cases List.find? (fun e : Nam × Fil => e.1 == n) fs <;> rfl

end Disk
end Go.Proofs.Ytfgaoopgnpigjaa
