/-
  The walk of SealBack: it answers true; the old memory stays. Small laws that SealTells wants too.
-/
import Derived.Test.YtfgaoopgnpigjaaSealAwake
namespace Go.Proofs.Ytfgaoopgnpigjaa
open Go.RowKit
namespace Seal
open Num (hid)

/-- 'n & (1<<32 - 1)'. -/
def low32 (v : Int) : Nat := (v % 4294967296).toNat
theorem low32_lt (v : Int) : low32 v < 4294967296 := by unfold low32; omega
theorem i64_low (n : Nat) (h : n < 4294967296) : IntKind.i64.wrap (n : Int) = (n : Int) := by
  have e := IntKind.wrap_i64 (n : Int)
  rw [e]
  omega
theorem and_low (v : Int) : bits .and .i64 v 4294967295 = ((low32 v : Nat) : Int) := by
  have h1 : (BitVec.ofInt 64 v).toNat = (v % 18446744073709551616).toNat := by
    rw [BitVec.toNat_ofInt]; rfl
  have h2 : (BitVec.ofInt 64 4294967295).toNat = 2 ^ 32 - 1 := by decide
  have h3 : (v % 18446744073709551616).toNat % 4294967296 = low32 v := by unfold low32; omega
  show IntKind.i64.wrap ((BitVec.ofInt 64 v &&& BitVec.ofInt 64 4294967295).toNat : Int) = _
  rw [BitVec.toNat_and, h1, h2, Nat.and_two_pow_sub_one_eq_mod]
  have h4 := low32_lt v
  have e : (v % 18446744073709551616).toNat % 2 ^ 32 = low32 v := h3
  rw [e]
  exact i64_low _ h4

theorem below_drewN {B : Nat} {a w : World} (h : Below B a w) (n : Nat) : Below B a (w.drewN n) := ⟨h.os, h.tape, h.output, h.size, h.block⟩
theorem Four.free {b : Nat} {K N S : Int} {d : ByteArray} {wx : World} (h : Four b K N S d wx) (j : Nat) : wx.frozen? ⟨b, j, none⟩ = false := blk_free h j
theorem Four.store3 {b : Nat} {K N S : Int} {d : ByteArray} {wx : World} (h : Four b K N S d wx) (d' : ByteArray) : Four b K N S d' (wx.setCell ⟨b, 3, none⟩ (.string d')) := by
  unfold Four at *
  simp [World.setCell, Array.getElem?_modify, h]
theorem Four.store0 {b : Nat} {K N S : Int} {d : ByteArray} {wx : World} (h : Four b K N S d wx) (K' : Int) : Four b K' N S d (wx.setCell ⟨b, 0, none⟩ (.int .i64 K')) := by
  unfold Four at *
  simp [World.setCell, Array.getElem?_modify, h]
theorem Four.store1 {b : Nat} {K N S : Int} {d : ByteArray} {wx : World} (h : Four b K N S d wx) (N' : Int) : Four b K N' S d (wx.setCell ⟨b, 1, none⟩ (.int .i64 N')) := by
  unfold Four at *
  simp [World.setCell, Array.getElem?_modify, h]

/-- What a sealed sector says is sealed to it. -/
theorem close_back (t : ByteArray) (h : t.size = 256) (hr : right t.data.toList) (w : World) :
    Calls Try.prog 14 #[.agg #[.int .i64 (part t 232 236 : Nat), .int .i64 (part t 236 240 : Nat), .int .u64 (part t 240 248 : Nat), .string (t.extract 0 232)]] w fun e w' => e = .returned (.tuple #[.string t, .int .i64 0]) ∧ Below w.heap.size w w' := by
  have b1 := part_lt t 232 236
  have b2 := part_lt t 236 240
  have b3 := part_lt t 240 248
  have hd : (t.extract 0 232).size = 232 := by rw [ByteArray.size_extract]; omega
  have e : sealS (part t 232 236) (part t 236 240) (part t 240 248) (t.extract 0 232) = t := by
    apply ByteArray.ext
    apply Array.ext'
    rw [sealS_list]
    have e1 : (t.extract 0 232).data.toList = t.data.toList.take 232 := by simp [ByteArray.data_extract]
    rw [e1]
    exact back t.data.toList (by simpa using h) hr
  have hc := close_yes (part t 232 236) (part t 236 240) (part t 240 248) b1 b2 b3 (t.extract 0 232) hd w
  rw [e] at hc
  exact hc
end Seal
end Go.Proofs.Ytfgaoopgnpigjaa
namespace Go.Proofs.Ytfgaoopgnpigjaa.sealBack
open Go.RowKit Go.Proofs.Ytfgaoopgnpigjaa.Seal
open Num (hid)

set_option maxRecDepth 100000 in
set_option maxHeartbeats 2000000 in
theorem walk (K N S0 : Int) (d t : ByteArray) (_ : (Lit.int .i64 K).wf = true) (_ : (Lit.int .i64 N).wf = true) (wS : (Lit.int .u64 S0).wf = true) (w : World) :
    Calls Try.prog 5 #[.agg #[.int .i64 K, .int .i64 N, .int .u64 S0, .string d], .string t] w fun e w' => e = .returned (.bool true) ∧ Below w.heap.size w w' := by
  obtain ⟨S, hS, rfl⟩ := Num.nat_u64 wS
  have HS := hid hS
  clear hS wS
  go_enter Try.func5, Try.ntmps5
  go_wp2_with fail
  refine (awake_any _).mono ?_
  rintro e w1 ⟨rfl, hb1⟩
  have F1 : Four w.heap.size K N S d (w.alloc (.cells #[.int .i64 K, .int .i64 N, .int .u64 S, .string d] 24)) := heap_alloc_new _ _
  have F2 := F1.on hb1
  have B2 : Below w.heap.size w w1 := ((Below.refl _ _).alloc (Nat.le_refl _) _).trans (hb1.mono (by simp))
  clear hb1 F1
  obtain ⟨k0, k1, k2, k3⟩ := F2.cells
  go_wp2_with fail
  refine (full_any d _).mono ?_
  rintro e w2 ⟨rfl, hb2⟩
  obtain ⟨D, hD⟩ : ∃ D, D = full d := ⟨_, rfl⟩
  have hd : D.size = 232 := by rw [hD]; exact full_size _
  rw [← hD]
  clear hD
  have HD := hid hd
  clear hd
  have F3 := F2.on hb2
  have B3 := B2.trans (hb2.mono B2.size)
  have z0 := F3.free 0
  have z1 := F3.free 1
  have z3 := F3.free 3
  clear F2 B2 hb2 k0 k1 k2 k3
  obtain ⟨k0, k1, k2, k3⟩ := F3.cells
  have F4 := ((F3.store3 D).store0 (low32 K)).store1 (low32 N)
  have B4 := ((B3.setCell (p := ⟨w.heap.size, 3, none⟩) (Nat.le_refl _) (.string D)).setCell (p := ⟨w.heap.size, 0, none⟩) (Nat.le_refl _) (.int .i64 (low32 K))).setCell (p := ⟨w.heap.size, 1, none⟩) (Nat.le_refl _) (.int .i64 (low32 N))
  have a0 := and_low K
  have a1 := and_low N
  go_wp2_with fail
  have hK := low32_lt K
  have hN := low32_lt N
  refine (close_yes (low32 K) (low32 N) S hK hN HS.out D HD.out _).mono ?_
  rintro e w3 ⟨rfl, hb3⟩
  have F5 := F4.on hb3
  have B5 := B4.trans (hb3.mono B4.size)
  clear F4 B4 hb3 k0 k1 k2 k3 z0 z1 z3 a0 a1 F3 B3
  go_wp2_with fail
  refine (open_sealed (low32 K) (low32 N) S D hK hN HS.out HD.out _).mono ?_
  rintro e w4 ⟨rfl, hb4⟩
  have F6 := F5.on hb4
  have B6 := B5.trans (hb4.mono B5.size)
  clear F5 B5 hb4
  have F7 := F6.on ((Below.refl _ w4).alloc (Nat.le_refl _) (.cells #[.int .i64 (low32 K : Nat), .int .i64 (low32 N : Nat), .int .u64 S, .string D] 24))
  have G7 : Four w4.heap.size (low32 K) (low32 N) S D (w4.alloc (.cells #[.int .i64 (low32 K : Nat), .int .i64 (low32 N : Nat), .int .u64 S, .string D] 24)) := heap_alloc_new _ _
  have B7 := B6.alloc B6.size (.cells #[.int .i64 (low32 K : Nat), .int .i64 (low32 N : Nat), .int .u64 S, .string D] 24)
  obtain ⟨k0, k1, k2, k3⟩ := F7.cells
  obtain ⟨g0, g1, g2, g3⟩ := G7.cells
  obtain ⟨_, _, _, hx, _, hsz⟩ := part_sealS (low32 K) (low32 N) S D hK hN HS.out HD.out
  have hl : (((sealS (low32 K) (low32 N) S D).size : Int) != 256) = false := by simp; omega
  have hl2 : (232 : Int) ≤ ((sealS (low32 K) (low32 N) S D).size : Int) := by omega
  clear F6 G7 F7 B6 hsz hK hN
  go_wp2_with fail
  go_quiet (fail)
  have B8 := below_drewN B7 nq
  clear k0 k1 k2 k3 g0 g1 g2 g3 hl hl2 hx B7
  generalize World.drewN _ _ = w5 at B8 ⊢
  by_cases h : t.size = 256
  · by_cases hr : right t.data.toList
    · have hyes : ∀ W : World, Calls Try.prog 18 #[.string t] W fun e w' => e = .returned (.tuple #[.agg #[.int .i64 (Seal.part t 232 236 : Nat), .int .i64 (Seal.part t 236 240 : Nat), .int .u64 (Seal.part t 240 248 : Nat), .string (t.extract 0 232)], .int .i64 0]) ∧ Below W.heap.size W w' := open_good t h hr
      have hcb := close_back t h hr
      clear h hr
      go_wp2_with fail
      refine (hyes _).mono ?_
      rintro e w6 ⟨rfl, hb6⟩
      generalize Seal.part t 232 236 = pK at hcb ⊢
      generalize Seal.part t 236 240 = pN at hcb ⊢
      generalize Seal.part t 240 248 = pS at hcb ⊢
      generalize t.extract 0 232 = pD at hcb ⊢
      have B9 : Below w.heap.size w (w6.alloc (.cells #[.int .i64 pK, .int .i64 pN, .int .u64 pS, .string pD] 24)) := (B8.trans (hb6.mono B8.size)).alloc (Nat.le_trans B8.size hb6.size) _
      obtain ⟨g0, g1, g2, g3⟩ := Four.cells (show Four w6.heap.size pK pN pS pD (w6.alloc (.cells #[.int .i64 pK, .int .i64 pN, .int .u64 pS, .string pD] 24)) from heap_alloc_new _ _)
      clear hb6 B8 hyes
      go_wp2_with fail
      refine (hcb _).mono ?_
      rintro e w7 ⟨rfl, hb7⟩
      have B10 := B9.trans (hb7.mono B9.size)
      clear B9 hb7 g0 g1 g2 g3 hcb
      go_wp2
      go_ret
      exact ⟨rfl, B10⟩
    · have hno : ∀ W : World, Calls Try.prog 18 #[.string t] W fun e w' => e = .returned (.tuple #[.agg #[.int .i64 0, .int .i64 0, .int .u64 0, .string ⟨#[]⟩], .int .i64 20]) ∧ Below W.heap.size W w' := open_bad t h hr
      clear h hr
      go_wp2_with fail
      refine (hno _).mono ?_
      rintro e w6 ⟨rfl, hb6⟩
      have B9 : Below w.heap.size w (w6.alloc (.cells #[.int .i64 0, .int .i64 0, .int .u64 0, .string ⟨#[]⟩] 24)) := (B8.trans (hb6.mono B8.size)).alloc (Nat.le_trans B8.size hb6.size) _
      obtain ⟨g0, g1, g2, g3⟩ := Four.cells (show Four w6.heap.size 0 0 0 ⟨#[]⟩ (w6.alloc (.cells #[.int .i64 0, .int .i64 0, .int .u64 0, .string ⟨#[]⟩] 24)) from heap_alloc_new _ _)
      clear hb6 B8 hno
      go_wp2
      go_ret
      exact ⟨rfl, B9⟩
  · have hno : ∀ W : World, Calls Try.prog 18 #[.string t] W fun e w' => e = .returned (.tuple #[.agg #[.int .i64 0, .int .i64 0, .int .u64 0, .string ⟨#[]⟩], .int .i64 1]) ∧ Below W.heap.size W w' := open_no t h
    clear h
    go_wp2_with fail
    refine (hno _).mono ?_
    rintro e w6 ⟨rfl, hb6⟩
    have B9 : Below w.heap.size w (w6.alloc (.cells #[.int .i64 0, .int .i64 0, .int .u64 0, .string ⟨#[]⟩] 24)) := (B8.trans (hb6.mono B8.size)).alloc (Nat.le_trans B8.size hb6.size) _
    obtain ⟨g0, g1, g2, g3⟩ := Four.cells (show Four w6.heap.size 0 0 0 ⟨#[]⟩ (w6.alloc (.cells #[.int .i64 0, .int .i64 0, .int .u64 0, .string ⟨#[]⟩] 24)) from heap_alloc_new _ _)
    clear hb6 B8 hno
    go_wp2
    go_ret
    exact ⟨rfl, B9⟩

end Go.Proofs.Ytfgaoopgnpigjaa.sealBack
