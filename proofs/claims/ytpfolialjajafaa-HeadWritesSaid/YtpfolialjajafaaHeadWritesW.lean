/-
  The walk of HeadWrites: it answers true; the old memory stays.
-/
import Derived.Test.YtpfolialjajafaaHeadAwake
namespace Go.Proofs.Ytpfolialjajafaa.headWrites
open Go.RowKit Go.Proofs.Ytpfolialjajafaa.Head
open Num (hid)

set_option maxRecDepth 100000 in
set_option maxHeartbeats 1000000 in
theorem walk (M P T S R : Int) (C : Nat) (hC : C < 18446744073709551616) (w : World) :
    Calls Try.prog 3 #[.agg #[.int .i64 M, .int .i64 P, .int .i64 T, .int .i64 S, .int .i64 R, .int .u64 C]] w fun e w' => e = .returned (.bool true) ∧ Below w.heap.size w w' := by
  have HC := hid hC
  clear hC
  have F0 : Hid (Six w.heap.size M P T S R C (w.alloc (.cells #[.int .i64 M, .int .i64 P, .int .i64 T, .int .i64 S, .int .i64 R, .int .u64 C] 24))) := hid (heap_alloc_new _ _)
  have B0 : Hid (Below w.heap.size w (w.alloc (.cells #[.int .i64 M, .int .i64 P, .int .i64 T, .int .i64 S, .int .i64 R, .int .u64 C] 24))) := hid ((Below.refl _ _).alloc (Nat.le_refl _) _)
  go_enter Try.func3, Try.ntmps3
  go_wp2_with fail
  refine (awake_any _).mono ?_
  rintro e w1 ⟨rfl, hb1⟩
  have F1 := hid (F0.out.on hb1)
  have B1 := hid (B0.out.trans (hb1.mono B0.out.size))
  clear hb1 F0 B0
  obtain ⟨k0, k1, k2, k3, k4, k5⟩ := F1.out.cells
  go_wp2_with fail
  refine (enc_any M P T S R C HC.out _).mono ?_
  rintro e w2 ⟨rfl, hb2⟩
  have F2 := hid (F1.out.on hb2)
  have B2 := hid (B1.out.trans (hb2.mono B1.out.size))
  clear hb2 F1 B1 k0 k1 k2 k3 k4 k5
  obtain ⟨k0, k1, k2, k3, k4, k5⟩ := F2.out.cells
  go_wp2_with fail
  refine (renc_any M P T S R C HC.out _).mono ?_
  rintro e w3 ⟨rfl, hb3⟩
  have B3 := hid (B2.out.trans (hb3.mono B2.out.size))
  clear hb3 F2 B2 k0 k1 k2 k3 k4 k5
  generalize encS M P T S R C = x
  generalize encE M P T S R = y
  go_wp2_with fail
  refine (fresh_any _).mono ?_
  rintro e w4 ⟨rfl, hb4⟩
  have B4 := hid (B3.out.trans (hb4.mono B3.out.size))
  clear hb4 B3
  go_wp2_with fail
  refine (rfresh_any _).mono ?_
  rintro e w5 ⟨rfl, hb5⟩
  have B5 := hid (B4.out.trans (hb5.mono B4.out.size))
  clear hb5 B4
  unfold hd
  go_wp2
  go_ret
  exact ⟨rfl, B5.out⟩

end Go.Proofs.Ytpfolialjajafaa.headWrites
