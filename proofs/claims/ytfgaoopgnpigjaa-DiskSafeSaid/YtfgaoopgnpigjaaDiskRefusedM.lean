/-
  DiskRefused, plainly: what an operation that is refused, or has a fault, changes.
-/
import Derived.Test.YtfgaoopgnpigjaaDiskDoes
namespace Go.Proofs.Ytfgaoopgnpigjaa
open Go.RowKit
namespace diskRefused
open Disk

/-- What the call answers where a fault is armed for the next operation. -/
def Said (M : Mod) (kd e : Int) (M' : Mod) : Prop :=
  M'.fs = M.fs ∧ (e = 1 ∨ (kd = 1 ∧ e = 11 ∧ M'.c.ops = inc M.c.ops) ∨ (kd = 2 ∧ e = 10 ∧ M'.c.down = true))

theorem armed_refusal {c : Ctl} {kd : Int} (hd : c.down = false) (ha : c.at_ = 1) (hk : c.kind = kd) (hkd : kd = 1 ∨ kd = 2) (fit : Bool) :
    c.refusal fit ≠ 0 ∧ (c.refusal fit = 1 ∨ (kd = 1 ∧ c.refusal fit = 11 ∧ (c.begun fit).ops = inc c.ops) ∨ (kd = 2 ∧ c.refusal fit = 10 ∧ (c.begun fit).down = true)) := by
  have hf : c.fault = kd := by unfold Ctl.fault; rw [if_pos ha, hk]
  cases fit with
  | false => exact ⟨by simp [Ctl.refusal], Or.inl (by simp [Ctl.refusal])⟩
  | true =>
    rcases hkd with rfl | rfl
    · have e : c.refusal true = 11 := by simp [Ctl.refusal, hd, hf]
      have e2 : c.begun true = c.counted := by simp [Ctl.begun, hd, hf]
      refine ⟨by rw [e]; decide, Or.inr (Or.inl ⟨rfl, e, ?_⟩)⟩
      rw [e2]
      unfold Ctl.counted Ctl.stepped
      repeat' split
      all_goals rfl
    · have e : c.refusal true = 10 := by simp [Ctl.refusal, hd, hf]
      have e2 : c.begun true = c.counted.offed := by simp [Ctl.begun, hd, hf]
      refine ⟨by rw [e]; decide, Or.inr (Or.inr ⟨rfl, e, ?_⟩)⟩
      rw [e2]; rfl
theorem run_said {M : Mod} {kd : Int} (hd : M.c.down = false) (ha : M.c.at_ = 1) (hk : M.c.kind = kd) (hkd : kd = 1 ∨ kd = 2) (fit : Bool) (f : Dir → Int × Dir) : Said M kd (M.run fit f).1 (M.run fit f).2 := by
  obtain ⟨h1, h2⟩ := armed_refusal hd ha hk hkd fit
  unfold Mod.run
  rw [if_pos h1]
  exact ⟨rfl, h2⟩
theorem does_said {M : Mod} {kd : Int} (hd : M.c.down = false) (ha : M.c.at_ = 1) (hk : M.c.kind = kd) (hkd : kd = 1 ∨ kd = 2) (x : ActM) (hx : 1 ≤ x.kind ∧ x.kind ≤ 5) : Said M kd (M.does x).2.1 (M.does x).2.2 := by
  obtain ⟨h1, h5⟩ := hx
  have : x.kind = 1 ∨ x.kind = 2 ∨ x.kind = 3 ∨ x.kind = 4 ∨ x.kind = 5 := by omega
  unfold Mod.does
  rcases this with e | e | e | e | e <;> rw [e]
  · show Said M kd (M.read _ _).2.1 (M.read _ _).2.2
    obtain ⟨h1, h2⟩ := armed_refusal hd ha hk hkd (nameFit x.name.data.toList)
    unfold Mod.read
    rw [if_pos h1]
    exact ⟨rfl, h2⟩
  · exact run_said hd ha hk hkd _ _
  · exact run_said hd ha hk hkd _ _
  · exact run_said hd ha hk hkd _ _
  · exact run_said hd ha hk hkd _ _

end diskRefused
end Go.Proofs.Ytfgaoopgnpigjaa
