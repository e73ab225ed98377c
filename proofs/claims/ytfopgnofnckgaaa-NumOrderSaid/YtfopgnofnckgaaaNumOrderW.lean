/-
  The walk of NumOrder: it answers true; the old memory stays.
-/
import Derived.Test.YtfopgnofnckgaaaNumAwake
namespace Go.Proofs.Ytfopgnofnckgaaa.numOrder
open Go.RowKit Go.Proofs.Ytfopgnofnckgaaa.Num

set_option maxRecDepth 100000 in
set_option maxHeartbeats 1000000 in
theorem walk (a0 a1 : Int) (w0 : (Lit.int .u64 a0).wf = true) (w1 : (Lit.int .u64 a1).wf = true) (w : World) :
    Calls Try.prog 6 #[.int .u64 a0, .int .u64 a1] w fun e w' => e = .returned (.bool true) ∧ Below w.heap.size w w' := by
  obtain ⟨a, ha, rfl⟩ := nat_u64 w0
  obtain ⟨b, hb, rfl⟩ := nat_u64 w1
  clear w0 w1
  have hla : ((fix8 a).length : Int) = 8 := by rw [fix8_len]; rfl
  by_cases hlt : a < b
  · have hless : Op.bytesLess (fix8 a) (fix8 b) = true := by rw [fix8_less a b ha hb]; simpa using hlt
    have hv : ((varB a).length : Int) ≤ ((varB b).length : Int) := by have := varB_mono a b (by omega); omega
    go_enter Try.func6, Try.ntmps6
    go_wp2_with fail
    refine (awake_any _).mono ?_
    rintro e w1 ⟨rfl, hb1⟩
    go_wp2_with fail
    refine (fixed8_any a ha _).mono ?_
    rintro e w2 ⟨rfl, hb2⟩
    go_wp2_with fail
    refine (fixed8_any b hb _).mono ?_
    rintro e w3 ⟨rfl, hb3⟩
    go_wp2_with fail
    refine (var_any a ha _).mono ?_
    rintro e w4 ⟨rfl, hb4⟩
    go_wp2_with fail
    refine (var_any b hb _).mono ?_
    rintro e w5 ⟨rfl, hb5⟩
    go_wp2
    go_ret
    exact ⟨rfl, below_then (below_then (below_then (below_then hb1 hb2) hb3) hb4) hb5⟩
  · have hless : Op.bytesLess (fix8 a) (fix8 b) = false := by rw [fix8_less a b ha hb]; simpa using hlt
    have hge : b ≤ a := by omega
    go_enter Try.func6, Try.ntmps6
    go_wp2_with fail
    refine (awake_any _).mono ?_
    rintro e w1 ⟨rfl, hb1⟩
    go_wp2_with fail
    refine (fixed8_any a ha _).mono ?_
    rintro e w2 ⟨rfl, hb2⟩
    go_wp2_with fail
    refine (fixed8_any b hb _).mono ?_
    rintro e w3 ⟨rfl, hb3⟩
    go_wp2
    go_ret
    exact ⟨rfl, below_then (below_then hb1 hb2) hb3⟩

end Go.Proofs.Ytfopgnofnckgaaa.numOrder
