/-
  The walk of MixSums: it answers true; the old memory stays.
-/
import Derived.Test.YtijppgjjbbkjoaaMixAwake
namespace Go.Proofs.Ytijppgjjbbkjoaa.mixSums
open Go.RowKit Go.Proofs.Ytijppgjjbbkjoaa.Mix

set_option maxRecDepth 100000 in
set_option maxHeartbeats 800000 in
theorem walk (a0 : Int) (a1 : ByteArray) (w0 : (Lit.int .u64 a0).wf = true) (hs : a1.size ≤ 140737488351232) (w : World) :
    Calls Try.prog 3 #[.int .u64 a0, .string a1] w fun e w' => e = .returned (.bool true) ∧ Below w.heap.size w w' := by
  obtain ⟨n, hn, rfl⟩ := Num.nat_u64 w0
  clear w0
  go_enter Try.func3, Try.ntmps3
  go_wp2_with fail
  refine (awake_any _).mono ?_
  rintro e w1 ⟨rfl, hb1⟩
  go_wp2_with fail
  refine (sum_any n hn a1 (by omega) _).mono ?_
  rintro e w2 ⟨rfl, hb2⟩
  go_wp2_with fail
  refine (rsum_any n hn a1 (by omega) _).mono ?_
  rintro e w3 ⟨rfl, rfl⟩
  go_wp2
  go_ret
  exact ⟨rfl, below_then hb1 hb2⟩

end Go.Proofs.Ytijppgjjbbkjoaa.mixSums
