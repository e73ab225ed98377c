/-
  The walk of MixGoes: it answers true; the old memory stays.
-/
import Derived.Test.YtijppgjjbbkjoaaMixSu
namespace Go.Proofs.Ytijppgjjbbkjoaa.mixGoes
open Go.RowKit Go.Proofs.Ytijppgjjbbkjoaa.Mix

set_option maxRecDepth 100000 in
set_option maxHeartbeats 800000 in
theorem walk (a0 : Int) (a1 a2 : ByteArray) (w0 : (Lit.int .u64 a0).wf = true) (hs : a1.size ≤ 140737488351232) (ht : a2.size ≤ 140737488351232) (w : World) :
    Calls Try.prog 4 #[.int .u64 a0, .string a1, .string a2] w fun e w' => e = .returned (.bool true) ∧ Below w.heap.size w w' := by
  obtain ⟨n, hn, rfl⟩ := Num.nat_u64 w0
  clear w0
  go_enter Try.func4, Try.ntmps4
  go_wp2_with fail
  refine (awake_any _).mono ?_
  rintro e w1 ⟨rfl, hb1⟩
  go_wp2_with fail
  refine (su_c n _ hn (by simp; omega) _).mono ?_
  rintro e w2 ⟨rfl, hb2⟩
  go_wp2_with fail
  refine (su_c _ a2 (su_lt _ _ hn) (by omega) _).mono ?_
  rintro e w3 ⟨rfl, hb3⟩
  go_wp2_with fail
  refine (su_c n _ hn (by simp; omega) _).mono ?_
  rintro e w4 ⟨rfl, hb4⟩
  have hg := su_goes n (a1.extract 0 (a1.size - a1.size % 4)) a2 hn (by simp; omega)
  rw [hg]
  go_wp2
  go_ret
  exact ⟨rfl, below_then (below_then (below_then hb1 hb2) hb3) hb4⟩

end Go.Proofs.Ytijppgjjbbkjoaa.mixGoes
