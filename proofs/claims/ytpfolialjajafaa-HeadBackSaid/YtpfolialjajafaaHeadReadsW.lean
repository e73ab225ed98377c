/-
  The walk of HeadReads: it answers true; the old memory stays. What Decode's answer is made of.
-/
import Derived.Test.YtpfolialjajafaaHeadAwake
namespace Go.Proofs.Ytpfolialjajafaa
open Go.RowKit
namespace Head
open Num (hid)
theorem dec_six (s : ByteArray) : ∃ M P T S R C : Int, decV s = .agg #[.int .i64 M, .int .i64 P, .int .i64 T, .int .i64 S, .int .i64 R, .int .u64 C] := by
  unfold decV
  split
  · exact ⟨_, _, _, _, _, _, rfl⟩
  · exact ⟨_, _, _, _, _, _, rfl⟩
end Head
end Go.Proofs.Ytpfolialjajafaa
namespace Go.Proofs.Ytpfolialjajafaa.headReads
open Go.RowKit Go.Proofs.Ytpfolialjajafaa.Head
open Num (hid)

set_option maxRecDepth 100000 in
set_option maxHeartbeats 1000000 in
theorem walk (s : ByteArray) (w : World) :
    Calls Try.prog 4 #[.string s] w fun e w' => e = .returned (.bool true) ∧ Below w.heap.size w w' := by
  have h1 := dec_any s
  have h2 := rdec_any s
  obtain ⟨M, P, T, S, R, C, hV⟩ := dec_six s
  rw [hV] at h1 h2
  generalize decE s = x at h1 h2
  have H1 := hid h1
  have H2 := hid h2
  clear h1 h2 hV
  go_enter Try.func4, Try.ntmps4
  go_wp2_with fail
  refine (awake_any _).mono ?_
  rintro e w1 ⟨rfl, hb1⟩
  go_wp2_with fail
  refine (H1.out _).mono ?_
  rintro e w2 ⟨rfl, hb2⟩
  have F3 : Hid (Six w2.heap.size M P T S R C (w2.alloc (.cells #[.int .i64 M, .int .i64 P, .int .i64 T, .int .i64 S, .int .i64 R, .int .u64 C] 24))) := hid (heap_alloc_new _ _)
  have B2 := hb1.trans (hb2.mono hb1.size)
  have B3 := hid (B2.alloc B2.size (.cells #[.int .i64 M, .int .i64 P, .int .i64 T, .int .i64 S, .int .i64 R, .int .u64 C] 24))
  clear hb1 hb2 B2
  go_wp2_with fail
  refine (H2.out _).mono ?_
  rintro e w4 ⟨rfl, hb4⟩
  have F5 := (F3.out.on hb4).on ((Below.refl _ _).alloc (Nat.le_refl _) (.cells #[.int .i64 M, .int .i64 P, .int .i64 T, .int .i64 S, .int .i64 R, .int .u64 C] 24))
  have B4 := B3.out.trans (hb4.mono B3.out.size)
  have B5 := hid (B4.alloc B4.size (.cells #[.int .i64 M, .int .i64 P, .int .i64 T, .int .i64 S, .int .i64 R, .int .u64 C] 24))
  have G5 : Six w4.heap.size M P T S R C (w4.alloc (.cells #[.int .i64 M, .int .i64 P, .int .i64 T, .int .i64 S, .int .i64 R, .int .u64 C] 24)) := heap_alloc_new _ _
  obtain ⟨k0, k1, k2, k3, k4, k5⟩ := F5.cells
  obtain ⟨g0, g1, g2, g3, g4, g5⟩ := G5.cells
  clear hb4 B4 F3 B3 F5 G5
  go_wp2
  go_ret
  exact ⟨rfl, B5.out⟩

end Go.Proofs.Ytpfolialjajafaa.headReads
