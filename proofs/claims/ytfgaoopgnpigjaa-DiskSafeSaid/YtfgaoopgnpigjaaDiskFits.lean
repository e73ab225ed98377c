/-
  The names of a disk, plainly: they fit; how many there are; what is behind acts.
-/
import Derived.Test.YtfgaoopgnpigjaaDiskFilled
namespace Go.Proofs.Ytfgaoopgnpigjaa
open Go.RowKit
namespace Disk

/-- All names fit. -/
def Fits (fs : Dir) : Prop := ∀ e ∈ fs, nameFit e.1 = true
theorem Fits.ins {fs : Dir} (h : Fits fs) {n : Nam} (hn : nameFit n = true) (F : Fil) : Fits (ins fs n F) := fun e he => by
  rcases mem_ins he with rfl | ⟨he, _⟩
  · exact hn
  · exact h e he
theorem Fits.del {fs : Dir} (h : Fits fs) (n : Nam) : Fits (del fs n) := fun e he => h e (mem_del he).1
theorem wakes_mem (l : List Int) : ∀ (fs : Dir) (k : Nat) {e : Nam × Fil}, e ∈ wakes l k fs → ∃ F, (e.1, F) ∈ fs
  | [], _, e, h => by simp [wakes] at h
  | x :: r, k, e, h => by
    unfold wakes at h
    rw [List.mem_append] at h
    rcases h with h | h
    · split at h
      · rw [List.mem_singleton] at h; subst h; exact ⟨x.2, List.mem_cons_self ..⟩
      · cases h
    · obtain ⟨F, hF⟩ := wakes_mem l r _ h
      exact ⟨F, List.mem_cons_of_mem _ hF⟩
theorem Fits.wakes {fs : Dir} (h : Fits fs) (l : List Int) (k : Nat) : Fits (wakes l k fs) := fun e he => by
  obtain ⟨F, hF⟩ := wakes_mem l fs k he
  exact h (e.1, F) hF
theorem refusal_fit {c : Ctl} {fit : Bool} (h : ¬ c.refusal fit ≠ 0) : fit = true := by
  cases fit with
  | true => rfl
  | false => exact absurd (by simp [Ctl.refusal]) h
theorem Fits.run {M : Mod} (h : Fits M.fs) {fit : Bool} {n : Nam} (hfit : fit = true → nameFit n = true) {f : Dir → Int × Dir} (hf : nameFit n = true → Fits (f M.fs).2) : Fits (M.run fit f).2.fs := by
  unfold Mod.run
  split
  · exact h
  · rename_i hr
    exact hf (hfit (refusal_fit hr))
theorem Fits.write {M : Mod} (h : Fits M.fs) (n : Nam) (i : Int) (l : List UInt8) : Fits (M.write n i l).2.fs := by
  refine Fits.run h (n := n) (fun e => by simp only [Bool.and_eq_true] at e; exact e.1.1) fun hn => ?_
  unfold writeD
  simp only []
  repeat' split
  · exact h
  · exact h
  · exact h.ins hn _
theorem Fits.onD {fs : Dir} (h : Fits fs) (n : Nam) {f : Fil → Int × Dir} (hf : ∀ F, Fits (f F).2) : Fits (onD n f fs).2 := by
  unfold Disk.onD
  split
  · exact h
  · exact hf _
theorem Fits.sync {M : Mod} (h : Fits M.fs) (n : Nam) : Fits (M.sync n).2.fs := Fits.run h (n := n) (fun e => e) fun hn => h.onD n fun _ => h.ins hn _
theorem Fits.cut {M : Mod} (h : Fits M.fs) (n : Nam) (i : Int) : Fits (M.cut n i).2.fs := by
  refine Fits.run h (n := n) (fun e => by simp only [Bool.and_eq_true] at e; exact e.2) fun hn => h.onD n fun _ => ?_
  split
  · exact h
  · exact h.ins hn _
theorem Fits.drop {M : Mod} (h : Fits M.fs) (n : Nam) : Fits (M.drop n).2.fs := Fits.run h (n := n) (fun e => e) fun _ => h.onD n fun _ => h.del n
theorem Fits.read {M : Mod} (h : Fits M.fs) (n : Nam) (i : Int) : Fits (M.read n i).2.2.fs := by
  unfold Mod.read
  split <;> exact h
theorem Fits.on {M : Mod} (h : Fits M.fs) (l : List Int) : Fits (M.on l).fs := by
  unfold Mod.on
  split
  · exact h.wakes l 0
  · exact h
theorem Fits.load {M : Mod} (h : Fits M.fs) (n : Nam) (l : List UInt8) : Fits (M.load n l).2.fs := by
  unfold Mod.load
  split
  · exact h
  · rename_i hn
    split
    · exact h
    · refine h.ins ?_ _
      cases e : nameFit n
      · exact absurd (Or.inl e) hn
      · rfl
theorem Fits.does {M : Mod} (h : Fits M.fs) (x : ActM) : Fits (M.does x).2.2.fs := by
  unfold Mod.does
  repeat' split
  · exact h.read _ _
  · exact h.write _ _ _
  · exact h.sync _
  · exact h.cut _ _
  · exact h.drop _
  · exact h
  · exact h
  · exact h
  · exact h.on _
  · exact h.load _ _
  · exact h
theorem Fits.play : ∀ (l : List ActM) {M : Mod}, Fits M.fs → Fits (playM l M).fs
  | [], _, h => h
  | x :: r, _, h => Fits.play r (h.does x)
theorem Fits.new (room : Int) : Fits (Mod.new room).fs := fun e he => by cases he
theorem Fits.filled (l : List ActM) : Fits (filledM l).fs := (Fits.on (Fits.play _ (Fits.new _)) [])
theorem filled_up (l : List ActM) : (filledM l).c.down = false := by
  show (((playM (l.take 80) (Mod.new 16384)).on []).arm 0 0 0).c.down = false
  unfold Mod.arm Ctl.armed
  rw [if_pos (by decide)]
  show ((playM (l.take 80) (Mod.new 16384)).on []).c.down = false
  unfold Mod.on
  split
  · rfl
  · rename_i h; simpa using h
theorem name_small {fs : Dir} (h : Fits fs) {n : Nam} (hn : n ∈ fs.map (·.1)) : n.length ≤ 16 := by
  obtain ⟨e, he, rfl⟩ := List.mem_map.1 hn
  have := h e he
  unfold nameFit at this
  have := of_decide_eq_true this
  omega

end Disk
end Go.Proofs.Ytfgaoopgnpigjaa
