/-
  The walk of SealCloses: it answers true; the old memory stays.
-/
import Derived.Test.YtfgaoopgnpigjaaSealAwake
namespace Go.Proofs.Ytfgaoopgnpigjaa.sealCloses
open Go.RowKit Go.Proofs.Ytfgaoopgnpigjaa.Seal
open Num (hid)

theorem sumQ (s : ByteArray) (w : World) : Calls Try.prog 16 #[.string s] w fun e w' => e = .returned (.int .u64 (sumOf s)) ∧ w' = w := (sum_any s w).mono fun _ _ h => ⟨h.1, h.2.symm⟩
theorem rsumQ (s : ByteArray) (w : World) : Calls Try.prog 17 #[.string s] w fun e w' => e = .returned (.int .u64 (sumOf s)) ∧ w' = w := (rsum_any s w).mono fun _ _ h => ⟨h.1, h.2.symm⟩
theorem below_drewN {B : Nat} {a w : World} (h : Below B a w) (n : Nat) : Below B a (w.drewN n) := ⟨h.os, h.tape, h.output, h.size, h.block⟩
theorem free_of {b : Nat} {K N S : Int} {d : ByteArray} {wx : World} (h : Four b K N S d wx) (j : Nat) : wx.frozen? ⟨b, j, none⟩ = false := blk_free h j
theorem Four.store {b : Nat} {K N S : Int} {d d' : ByteArray} {wx : World} (h : Four b K N S d wx) : Four b K N S d' (wx.setCell ⟨b, 3, none⟩ (.string d')) := by
  unfold Four at *
  simp [World.setCell, Array.getElem?_modify, h]

set_option maxRecDepth 100000 in
set_option maxHeartbeats 1000000 in
theorem walk (K N : Int) (S0 : Int) (d : ByteArray) (full : Bool) (_ : (Lit.int .i64 K).wf = true) (_ : (Lit.int .i64 N).wf = true) (wS : (Lit.int .u64 S0).wf = true) (w : World) :
    Calls Try.prog 3 #[.agg #[.int .i64 K, .int .i64 N, .int .u64 S0, .string d], .bool full] w fun e w' => e = .returned (.bool true) ∧ Below w.heap.size w w' := by
  obtain ⟨S, hS, rfl⟩ := Num.nat_u64 wS
  have HS := hid hS
  clear hS wS
  cases full
  · go_enter Try.func3, Try.ntmps3
    go_wp2_with fail
    refine (awake_any _).mono ?_
    rintro e w1 ⟨rfl, hb1⟩
    have F1 : Four w.heap.size K N S d (w.alloc (.cells #[.int .i64 K, .int .i64 N, .int .u64 S, .string d] 24)) := heap_alloc_new _ _
    have F2 := F1.on hb1
    have B2 : Below w.heap.size w w1 := ((Below.refl _ _).alloc (Nat.le_refl _) _).trans (hb1.mono (by simp))
    clear hb1 F1
    obtain ⟨k0, k1, k2, k3⟩ := F2.cells
    go_wp2_with fail
    refine (close_any K N S HS.out d _).mono ?_
    rintro e w3 ⟨rfl, hb3⟩
    have F5 := F2.on hb3
    have B5 := B2.trans (hb3.mono B2.size)
    clear F2 B2 hb3
    obtain ⟨k0, k1, k2, k3⟩ := F5.cells
    go_wp2_with fail
    refine (rclose_any K N S HS.out d _).mono ?_
    rintro e w4 ⟨rfl, hb4⟩
    have F6 := F5.on hb4
    have B6 := B5.trans (hb4.mono B5.size)
    clear F5 B5 hb4 k0 k1 k2 k3
    obtain ⟨k0, k1, k2, k3⟩ := F6.cells
    go_wp2_with fail
    go_quiet ((first | (go_at_call 16; exact Calls.quiet_of_same (sumQ _ _)) | (go_at_call 17; exact Calls.quiet_of_same (rsumQ _ _))))
    go_wp2
    go_ret
    exact ⟨rfl, below_drewN B6 _⟩
  · go_enter Try.func3, Try.ntmps3
    go_wp2_with fail
    refine (awake_any _).mono ?_
    rintro e w1 ⟨rfl, hb1⟩
    have F1 : Four w.heap.size K N S d (w.alloc (.cells #[.int .i64 K, .int .i64 N, .int .u64 S, .string d] 24)) := heap_alloc_new _ _
    have F2 := F1.on hb1
    have B2 : Below w.heap.size w w1 := ((Below.refl _ _).alloc (Nat.le_refl _) _).trans (hb1.mono (by simp))
    clear hb1 F1
    obtain ⟨k0, k1, k2, k3⟩ := F2.cells
    go_wp2_with fail
    refine (full_any d _).mono ?_
    rintro e w2 ⟨rfl, hb2⟩
    have F3 := F2.on hb2
    have B3 := B2.trans (hb2.mono B2.size)
    have z3 := free_of F3 3
    clear F2 B2 hb2 k0 k1 k2 k3
    obtain ⟨k0, k1, k2, k3⟩ := F3.cells
    have F4 : Four w.heap.size K N S (Seal.full d) (w2.setCell ⟨w.heap.size, 3, none⟩ (.string (Seal.full d))) := Four.store F3
    have B4 := B3.setCell (p := ⟨w.heap.size, 3, none⟩) (Nat.le_refl _) (.string (Seal.full d))
    go_wp2_with fail
    refine (close_any K N S HS.out (Seal.full d) _).mono ?_
    rintro e w3 ⟨rfl, hb3⟩
    have F5 := F4.on hb3
    have B5 := B4.trans (hb3.mono B4.size)
    clear F4 B4 hb3
    obtain ⟨k0, k1, k2, k3⟩ := F5.cells
    go_wp2_with fail
    refine (rclose_any K N S HS.out (Seal.full d) _).mono ?_
    rintro e w4 ⟨rfl, hb4⟩
    have F6 := F5.on hb4
    have B6 := B5.trans (hb4.mono B5.size)
    clear F5 B5 hb4 k0 k1 k2 k3
    obtain ⟨k0, k1, k2, k3⟩ := F6.cells
    go_wp2_with fail
    go_quiet ((first | (go_at_call 16; exact Calls.quiet_of_same (sumQ _ _)) | (go_at_call 17; exact Calls.quiet_of_same (rsumQ _ _))))
    go_wp2
    go_ret
    exact ⟨rfl, below_drewN B6 _⟩

end Go.Proofs.Ytfgaoopgnpigjaa.sealCloses
