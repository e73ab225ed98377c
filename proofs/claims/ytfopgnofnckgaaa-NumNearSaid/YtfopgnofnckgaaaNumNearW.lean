/-
  The walk of NumNear: it answers true; the old memory stays.
-/
import Derived.Test.YtfopgnofnckgaaaNumAwake
namespace Go.Proofs.Ytfopgnofnckgaaa.numNear
open Go.RowKit Go.Proofs.Ytfopgnofnckgaaa.Num

/-- Var of Fold: a name that the walk leaves closed. -/
def vf (a : Int) : List UInt8 := varB (foldI a).toNat

theorem fold_nat (a : Int) (h1 : -9223372036854775808 ≤ a) (h2 : a ≤ 9223372036854775807) : foldI a = ((foldI a).toNat : Int) ∧ (foldI a).toNat < 18446744073709551616 := by
  unfold foldI; split <;> omega

theorem one (a : Int) (h1 : -9223372036854775808 ≤ a) (h2 : a ≤ 9223372036854775807) : (vf a).length = 1 ↔ -64 ≤ a ∧ a ≤ 63 := by
  unfold vf; rw [varB_one]; unfold foldI; split <;> omega

theorem mono (a b : Int) (h : 0 ≤ a ∧ a ≤ b ∨ a < 0 ∧ b ≤ a) : (vf a).length ≤ (vf b).length := by
  unfold vf; refine varB_mono _ _ ?_; unfold foldI; split <;> split <;> omega

theorem varfold_any (a : Int) (h1 : -9223372036854775808 ≤ a) (h2 : a ≤ 9223372036854775807) (w : World) :
    Calls Try.prog 12 #[.int .u64 (foldI a)] w fun e w' => e = .returned (.string ⟨(vf a).toArray⟩) ∧ Below w.heap.size w w' := by
  have h := fold_nat a h1 h2
  have h3 := var_any _ h.2 w
  rw [← h.1] at h3
  exact h3

set_option maxRecDepth 100000 in
set_option maxHeartbeats 1000000 in
theorem walk (a0 a1 : Int) (w0 : (Lit.int .i64 a0).wf = true) (w1 : (Lit.int .i64 a1).wf = true) (w : World) :
    Calls Try.prog 8 #[.int .i64 a0, .int .i64 a1] w fun e w' => e = .returned (.bool true) ∧ Below w.heap.size w w' := by
  obtain ⟨l0, u0⟩ := int_i64 w0
  obtain ⟨l1, u1⟩ := int_i64 w1
  clear w0 w1
  have e1 : (-64 ≤ a0 ∧ a0 ≤ 63 → (((vf a0).length : Int) == 1) = true) ∧ (¬ (-64 ≤ a0 ∧ a0 ≤ 63) → (((vf a0).length : Int) == 1) = false) := by
    have h := one a0 l0 u0
    refine ⟨fun h1 => ?_, fun h1 => ?_⟩
    · have := h.2 h1; simp; omega
    · have h3 : ¬ (vf a0).length = 1 := fun h2 => h1 (h.1 h2)
      simp; omega
  have E1 := hid e1
  have HM := hid (mono a0 a1)
  clear e1
  have ways : (a0 < -64 ∧ a1 ≤ a0) ∨ (a0 < -64 ∧ a0 < a1) ∨ (-64 ≤ a0 ∧ a0 < 0 ∧ a1 ≤ a0) ∨ (-64 ≤ a0 ∧ a0 < 0 ∧ a0 < a1) ∨ (0 ≤ a0 ∧ a0 ≤ 63 ∧ a0 ≤ a1) ∨ (0 ≤ a0 ∧ a0 ≤ 63 ∧ a1 < a0) ∨ (63 < a0 ∧ a0 ≤ a1) ∨ (63 < a0 ∧ a1 < a0) := by omega
  rcases ways with ⟨c1, c2⟩ | ⟨c1, c2⟩ | ⟨c1, c2, c3⟩ | ⟨c1, c2, c3⟩ | ⟨c1, c2, c3⟩ | ⟨c1, c2, c3⟩ | ⟨c1, c2⟩ | ⟨c1, c2⟩
  · have e1 : (((vf a0).length : Int) == 1) = false := E1.out.2 (by omega)
    have hle : (vf a0).length ≤ (vf a1).length := HM.out (by omega)
    go_enter Try.func8, Try.ntmps8
    go_wp2_with fail
    refine (awake_any _).mono ?_
    rintro e w1 ⟨rfl, hb1⟩
    go_wp2_with fail
    refine (fold_any a0 l0 u0 _).mono ?_
    rintro e w2 ⟨rfl, rfl⟩
    go_wp2_with fail
    refine (varfold_any a0 l0 u0 _).mono ?_
    rintro e w2 ⟨rfl, hb2⟩
    go_wp2_with fail
    refine (fold_any a1 l1 u1 _).mono ?_
    rintro e w3 ⟨rfl, rfl⟩
    go_wp2_with fail
    refine (varfold_any a1 l1 u1 _).mono ?_
    rintro e w3 ⟨rfl, hb3⟩
    have hb := below_then (below_then hb1 hb2) hb3
    clear hb1 hb2 hb3
    go_wp2
    go_ret
    exact ⟨rfl, hb⟩
  · have e1 : (((vf a0).length : Int) == 1) = false := E1.out.2 (by omega)
    go_enter Try.func8, Try.ntmps8
    go_wp2_with fail
    refine (awake_any _).mono ?_
    rintro e w1 ⟨rfl, hb1⟩
    go_wp2_with fail
    refine (fold_any a0 l0 u0 _).mono ?_
    rintro e w2 ⟨rfl, rfl⟩
    go_wp2_with fail
    refine (varfold_any a0 l0 u0 _).mono ?_
    rintro e w2 ⟨rfl, hb2⟩
    go_wp2_with fail
    refine (fold_any a1 l1 u1 _).mono ?_
    rintro e w3 ⟨rfl, rfl⟩
    go_wp2_with fail
    refine (varfold_any a1 l1 u1 _).mono ?_
    rintro e w3 ⟨rfl, hb3⟩
    have hb := below_then (below_then hb1 hb2) hb3
    clear hb1 hb2 hb3
    go_wp2
    go_ret
    exact ⟨rfl, hb⟩
  · have e1 : (((vf a0).length : Int) == 1) = true := E1.out.1 (by omega)
    have e2 : decide (a0 ≤ 63) = true := by simp; omega
    have hle : (vf a0).length ≤ (vf a1).length := HM.out (by omega)
    go_enter Try.func8, Try.ntmps8
    go_wp2_with fail
    refine (awake_any _).mono ?_
    rintro e w1 ⟨rfl, hb1⟩
    go_wp2_with fail
    refine (fold_any a0 l0 u0 _).mono ?_
    rintro e w2 ⟨rfl, rfl⟩
    go_wp2_with fail
    refine (varfold_any a0 l0 u0 _).mono ?_
    rintro e w2 ⟨rfl, hb2⟩
    go_wp2_with fail
    refine (fold_any a1 l1 u1 _).mono ?_
    rintro e w3 ⟨rfl, rfl⟩
    go_wp2_with fail
    refine (varfold_any a1 l1 u1 _).mono ?_
    rintro e w3 ⟨rfl, hb3⟩
    have hb := below_then (below_then hb1 hb2) hb3
    clear hb1 hb2 hb3
    go_wp2
    go_ret
    exact ⟨rfl, hb⟩
  · have e1 : (((vf a0).length : Int) == 1) = true := E1.out.1 (by omega)
    have e2 : decide (a0 ≤ 63) = true := by simp; omega
    go_enter Try.func8, Try.ntmps8
    go_wp2_with fail
    refine (awake_any _).mono ?_
    rintro e w1 ⟨rfl, hb1⟩
    go_wp2_with fail
    refine (fold_any a0 l0 u0 _).mono ?_
    rintro e w2 ⟨rfl, rfl⟩
    go_wp2_with fail
    refine (varfold_any a0 l0 u0 _).mono ?_
    rintro e w2 ⟨rfl, hb2⟩
    go_wp2_with fail
    refine (fold_any a1 l1 u1 _).mono ?_
    rintro e w3 ⟨rfl, rfl⟩
    go_wp2_with fail
    refine (varfold_any a1 l1 u1 _).mono ?_
    rintro e w3 ⟨rfl, hb3⟩
    have hb := below_then (below_then hb1 hb2) hb3
    clear hb1 hb2 hb3
    go_wp2
    go_ret
    exact ⟨rfl, hb⟩
  · have e1 : (((vf a0).length : Int) == 1) = true := E1.out.1 (by omega)
    have e2 : decide (a0 ≤ 63) = true := by simp; omega
    have hle : (vf a0).length ≤ (vf a1).length := HM.out (by omega)
    go_enter Try.func8, Try.ntmps8
    go_wp2_with fail
    refine (awake_any _).mono ?_
    rintro e w1 ⟨rfl, hb1⟩
    go_wp2_with fail
    refine (fold_any a0 l0 u0 _).mono ?_
    rintro e w2 ⟨rfl, rfl⟩
    go_wp2_with fail
    refine (varfold_any a0 l0 u0 _).mono ?_
    rintro e w2 ⟨rfl, hb2⟩
    go_wp2_with fail
    refine (fold_any a1 l1 u1 _).mono ?_
    rintro e w3 ⟨rfl, rfl⟩
    go_wp2_with fail
    refine (varfold_any a1 l1 u1 _).mono ?_
    rintro e w3 ⟨rfl, hb3⟩
    have hb := below_then (below_then hb1 hb2) hb3
    clear hb1 hb2 hb3
    go_wp2
    go_ret
    exact ⟨rfl, hb⟩
  · have e1 : (((vf a0).length : Int) == 1) = true := E1.out.1 (by omega)
    have e2 : decide (a0 ≤ 63) = true := by simp; omega
    go_enter Try.func8, Try.ntmps8
    go_wp2_with fail
    refine (awake_any _).mono ?_
    rintro e w1 ⟨rfl, hb1⟩
    go_wp2_with fail
    refine (fold_any a0 l0 u0 _).mono ?_
    rintro e w2 ⟨rfl, rfl⟩
    go_wp2_with fail
    refine (varfold_any a0 l0 u0 _).mono ?_
    rintro e w2 ⟨rfl, hb2⟩
    go_wp2_with fail
    refine (fold_any a1 l1 u1 _).mono ?_
    rintro e w3 ⟨rfl, rfl⟩
    go_wp2_with fail
    refine (varfold_any a1 l1 u1 _).mono ?_
    rintro e w3 ⟨rfl, hb3⟩
    have hb := below_then (below_then hb1 hb2) hb3
    clear hb1 hb2 hb3
    go_wp2
    go_ret
    exact ⟨rfl, hb⟩
  · have e1 : (((vf a0).length : Int) == 1) = false := E1.out.2 (by omega)
    have hle : (vf a0).length ≤ (vf a1).length := HM.out (by omega)
    go_enter Try.func8, Try.ntmps8
    go_wp2_with fail
    refine (awake_any _).mono ?_
    rintro e w1 ⟨rfl, hb1⟩
    go_wp2_with fail
    refine (fold_any a0 l0 u0 _).mono ?_
    rintro e w2 ⟨rfl, rfl⟩
    go_wp2_with fail
    refine (varfold_any a0 l0 u0 _).mono ?_
    rintro e w2 ⟨rfl, hb2⟩
    go_wp2_with fail
    refine (fold_any a1 l1 u1 _).mono ?_
    rintro e w3 ⟨rfl, rfl⟩
    go_wp2_with fail
    refine (varfold_any a1 l1 u1 _).mono ?_
    rintro e w3 ⟨rfl, hb3⟩
    have hb := below_then (below_then hb1 hb2) hb3
    clear hb1 hb2 hb3
    go_wp2
    go_ret
    exact ⟨rfl, hb⟩
  · have e1 : (((vf a0).length : Int) == 1) = false := E1.out.2 (by omega)
    go_enter Try.func8, Try.ntmps8
    go_wp2_with fail
    refine (awake_any _).mono ?_
    rintro e w1 ⟨rfl, hb1⟩
    go_wp2_with fail
    refine (fold_any a0 l0 u0 _).mono ?_
    rintro e w2 ⟨rfl, rfl⟩
    go_wp2_with fail
    refine (varfold_any a0 l0 u0 _).mono ?_
    rintro e w2 ⟨rfl, hb2⟩
    go_wp2_with fail
    refine (fold_any a1 l1 u1 _).mono ?_
    rintro e w3 ⟨rfl, rfl⟩
    go_wp2_with fail
    refine (varfold_any a1 l1 u1 _).mono ?_
    rintro e w3 ⟨rfl, hb3⟩
    have hb := below_then (below_then hb1 hb2) hb3
    clear hb1 hb2 hb3
    go_wp2
    go_ret
    exact ⟨rfl, hb⟩

end Go.Proofs.Ytfopgnofnckgaaa.numNear
