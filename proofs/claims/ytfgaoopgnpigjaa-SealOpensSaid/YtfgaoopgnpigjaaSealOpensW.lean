/-
  The walk of SealOpens: it answers true; the old memory stays.
-/
import Derived.Test.YtfgaoopgnpigjaaSealAwake
namespace Go.Proofs.Ytfgaoopgnpigjaa.sealOpens
open Go.RowKit Go.Proofs.Ytfgaoopgnpigjaa.Seal
open Num (hid)

/-- What Open answers, as numbers and bytes. -/
theorem openV_cells (s : ByteArray) : ∃ (K N : Int) (S : Int) (d : ByteArray), openV s = .agg #[.int .i64 K, .int .i64 N, .int .u64 S, .string d] := by
  unfold openV
  split
  · exact ⟨_, _, _, _, rfl⟩
  · exact ⟨_, _, _, _, rfl⟩

set_option maxRecDepth 100000 in
set_option maxHeartbeats 1000000 in
theorem walk (s : ByteArray) (_hs : s.size ≤ maxLen) (w : World) : Calls Try.prog 4 #[.string s] w fun e w' => e = .returned (.bool true) ∧ Below w.heap.size w w' := by
  obtain ⟨K, N, S, d, hV⟩ := openV_cells s
  have ho := open_any s
  have hr := ropen_any s
  rw [hV] at ho hr
  clear hV
  go_enter Try.func4, Try.ntmps4
  go_wp2_with fail
  refine (awake_any _).mono ?_
  rintro e w1 ⟨rfl, hb1⟩
  go_wp2_with fail
  refine (ho _).mono ?_
  rintro e w2 ⟨rfl, hb2⟩
  have B2 := hb1.trans (hb2.mono hb1.size)
  have F3 : Four w2.heap.size K N S d (w2.alloc (.cells #[.int .i64 K, .int .i64 N, .int .u64 S, .string d] 24)) := heap_alloc_new _ _
  go_wp2_with fail
  refine (hr _).mono ?_
  rintro e w3 ⟨rfl, hb3⟩
  have F4 := F3.on hb3
  have B3 : Below w.heap.size w w3 := (B2.alloc B2.size _).trans (hb3.mono (by simp; have := B2.size; omega))
  have F5 := F4.on ((Below.refl _ w3).alloc (Nat.le_refl _) (.cells #[.int .i64 K, .int .i64 N, .int .u64 S, .string d] 24))
  have G5 : Four w3.heap.size K N S d (w3.alloc (.cells #[.int .i64 K, .int .i64 N, .int .u64 S, .string d] 24)) := heap_alloc_new _ _
  have B5 := B3.alloc B3.size (.cells #[.int .i64 K, .int .i64 N, .int .u64 S, .string d] 24)
  obtain ⟨f0, f1, f2, f3⟩ := F5.cells
  obtain ⟨g0, g1, g2, g3⟩ := G5.cells
  clear hb1 hb2 hb3 F3 F4 F5 G5 B2 B3
  go_wp2_with fail
  refine (sum_any _ _).mono ?_
  rintro e w' ⟨rfl, rfl⟩
  go_wp2_with fail
  refine (rsum_any _ _).mono ?_
  rintro e w' ⟨rfl, rfl⟩
  go_wp2
  go_ret
  exact ⟨rfl, B5⟩

end Go.Proofs.Ytfgaoopgnpigjaa.sealOpens
