/-
  The walk of NodeWrites.
-/
import Derived.Test.YtiellodbkanciaaGreatDoorNodeAwake
import Derived.Test.YtiellodbkanciaaGreatDoorNodeSame
import Derived.Test.YtiellodbkanciaaGreatDoorNodeRefEnc
namespace Go.Proofs.YtiellodbkanciaaGreatDoor
open Go.RowKit
namespace nodeWrites
open No
open Num (hid)
set_option maxRecDepth 100000 in
set_option maxHeartbeats 16000000 in
theorem walk (n : N) (kv cv pv : Value) (a1 : ByteArray) (W : World) (na : NAt W kv cv pv n) (wd : Wide n) (_z1 : a1.size ≤ 140737488351232) :
    Calls Tryz.prog 3 #[nV n.f kv cv pv, .string a1] W fun e W' => e = .returned (.bool true) ∧ Below W.heap.size W W' := by
  obtain ⟨key, rfl⟩ : ∃ S, a1 = bs S := ⟨bl a1, rfl⟩
  obtain ⟨a1, k1, a2, k2, a3, k3, rfl, rfl, rfl⟩ := nat_slices na
  have HAW := hid awake_any
  have HGR := hid (fun w h => great_any (.slice a1 n.ks.length k1) (.slice a2 n.cs.length k2) (.slice a3 n.ps.length k3) n wd w h)
  have G0 := hid (Gst.new (f := n.f) na)
  have HE0 := hid (fun hl w h => encode_any (.slice a1 n.ks.length k1) (.slice a2 n.cs.length k2) (.slice a3 n.ps.length k3) n hl w h)
  have HRE0 := hid (fun hl w h => rencode_any (.slice a1 n.ks.length k1) (.slice a2 n.cs.length k2) (.slice a3 n.ps.length k3) n hl w h)
  have HF0 := hid (fun h1 h2 w h => find_any (.slice a1 n.ks.length k1) (.slice a2 n.cs.length k2) (.slice a3 n.ps.length k3) n key h1 h2 w h)
  have HRF0 := hid (fun hl w h => rfind_any (.slice a1 n.ks.length k1) (.slice a2 n.cs.length k2) (.slice a3 n.ps.length k3) n key hl w h)
  have HGD0 := hid (fun h1 h2 w h => good_any (.slice a1 n.ks.length k1) (.slice a2 n.cs.length k2) (.slice a3 n.ps.length k3) n h1 h2 w h)
  have HRGD0 := hid (fun h1 h2 h3 w h => rgood_any (.slice a1 n.ks.length k1) (.slice a2 n.cs.length k2) (.slice a3 n.ps.length k3) n h1 h2 h3 w h)
  have HSZ0 := hid (fun hl w h => size_any (.slice a1 n.ks.length k1) (.slice a2 n.cs.length k2) (.slice a3 n.ps.length k3) n hl w h)
  have HRSZ0 := hid (fun hl w h => rsize_any (.slice a1 n.ks.length k1) (.slice a2 n.cs.length k2) (.slice a3 n.ps.length k3) n hl w h)
  clear na wd
  unfold nV at *
  go_enter Tryz.func3, Tryz.ntmps3
  go_wp2_with fail
  refine (HAW.out _).mono ?_
  rintro e w1 ⟨rfl, hb⟩
  have G1 := hid (G0.out.on hb)
  obtain ⟨c0, c1, c2, c3⟩ := G1.out.bx.cells
  clear hb G0
  go_wp2_with fail
  refine (HGR.out _ G1.out.na).mono ?_
  rintro e w2 ⟨⟨x, rfl, hx⟩, hb⟩
  have G2 := hid (G1.out.on hb)
  clear hb c0 c1 c2 c3 G1
  obtain ⟨c0, c1, c2, c3⟩ := G2.out.bx.cells
  cases x with
  | true =>
    go_wp2
    go_ret
    exact ⟨rfl, G2.out.be⟩
  | false =>
    obtain ⟨x1, x2, x3⟩ := hx rfl
    have hF : Fit n := ⟨by omega, by omega⟩
    have hRF : RFit n := ⟨by omega, by omega, by omega⟩
    have HE := hid (HE0.out hF)
    have HRE := hid (HRE0.out hRF)
    have HF := hid (HF0.out (by omega) (by omega))
    have HRF := hid (HRF0.out hRF)
    have HGD := hid (HGD0.out (by omega) (by omega))
    have HRGD := hid (HRGD0.out (by omega) (by omega) (by omega))
    have HSZ := hid (HSZ0.out hF)
    have HRSZ := hid (HRSZ0.out hRF)
    unfold sV2 at HE HRE
    unfold fV at HF HRF
    clear hx HE0 HRE0 HF0 HRF0 HGD0 HRGD0 HSZ0 HRSZ0 x1 x2 x3 hF hRF HGR HAW
    generalize encR n = ER at *
    generalize findR n key = FR at *
    go_wp2_with fail
    refine (HE.out _ G2.out.na).mono ?_
    rintro e w3 ⟨rfl, hb⟩
    have G3 := hid (G2.out.on hb)
    clear hb c0 c1 c2 c3 G2
    obtain ⟨c0, c1, c2, c3⟩ := G3.out.bx.cells
    go_wp2_with fail
    refine (HRE.out _ G3.out.na).mono ?_
    rintro e w4 ⟨rfl, hb⟩
    have G4 := hid (G3.out.on hb)
    clear hb c0 c1 c2 c3 G3
    obtain ⟨c0, c1, c2, c3⟩ := G4.out.bx.cells
    go_wp2_with fail
    refine (HF.out _ G4.out.na).mono ?_
    rintro e w5 ⟨rfl, hb⟩
    have G5 := hid (G4.out.on hb)
    clear hb c0 c1 c2 c3 G4
    obtain ⟨c0, c1, c2, c3⟩ := G5.out.bx.cells
    go_wp2_with fail
    refine (HRF.out _ G5.out.na).mono ?_
    rintro e w6 ⟨rfl, hb⟩
    have G6 := hid (G5.out.on hb)
    clear hb c0 c1 c2 c3 G5
    obtain ⟨c0, c1, c2, c3⟩ := G6.out.bx.cells

    obtain ⟨wr, hwr⟩ : ∃ x, x = w6 := ⟨_, rfl⟩
    subst hwr
    have hlb := G6.out.bx.lt
    have hC0 := fun wx (hx : Below wr.heap.size wr wx) => (hx.cell (p := ⟨W.heap.size, 0, none⟩) hlb).trans c0
    have hC1 := fun wx (hx : Below wr.heap.size wr wx) => (hx.cell (p := ⟨W.heap.size, 1, none⟩) hlb).trans c1
    have hC2 := fun wx (hx : Below wr.heap.size wr wx) => (hx.cell (p := ⟨W.heap.size, 2, none⟩) hlb).trans c2
    have hC3 := fun wx (hx : Below wr.heap.size wr wx) => (hx.cell (p := ⟨W.heap.size, 3, none⟩) hlb).trans c3
    have hNA := fun wx (hx : Below wr.heap.size wr wx) => (G6.out.on hx).na
    go_wp2_with fail
    refine wp_quiet_in (fun wx => Below wr.heap.size wr wx) (by kernel_rfl) (by kernel_rfl) (Below.refl _ _).drew ?_
    go_big_quiet_want
    go_big_quiet_op
    go_big_quiet_on
    go_big_quiet_want
    go_big_quiet_op
    go_big_quiet_on
    go_big_quiet_want
    go_big_quiet_op
    refine ⟨.bool true, fun wx hx => ?_, ?_⟩
    · simp [go_sem]
    go_big_quiet_on
    go_big_quiet_want
    go_big_quiet_op
    go_big_quiet_on
    go_big_quiet_want
    go_big_quiet_op
    go_big_quiet_on
    go_big_quiet_want
    go_big_quiet_op
    go_big_quiet_on
    go_big_quiet_want
    go_big_quiet_op
    refine ⟨.bool true, fun wx hx => ?_, ?_⟩
    · simp [go_sem]
    go_big_quiet_on
    go_big_quiet_want
    go_big_quiet_op
    refine ⟨.bool true, fun wx hx => ?_, ?_⟩
    · simp [go_sem]
    go_big_quiet_on
    go_big_quiet_want
    go_big_quiet_op
    go_big_quiet_on
    go_big_quiet_want
    go_big_quiet_op
    refine ⟨.agg #[.bool n.f, .slice a1 n.ks.length k1, .slice a2 n.cs.length k2, .slice a3 n.ps.length k3], fun wx hx => ?_, ?_⟩
    · simp [go_sem, hC0 wx hx, hC1 wx hx, hC2 wx hx, hC3 wx hx]
    go_big_quiet_on
    go_big_quiet_want
    go_big_quiet_op
    refine ⟨.bool (okN n), fun wx hx => ?_, ?_⟩
    · refine (HGD.out _ (hNA wx hx)).mono ?_
      rintro e w9 ⟨rfl, hb9⟩
      exact ⟨rfl, hx.trans (hb9.mono hx.size)⟩
    go_big_quiet_on
    go_big_quiet_want
    go_big_quiet_op
    refine ⟨.agg #[.bool n.f, .slice a1 n.ks.length k1, .slice a2 n.cs.length k2, .slice a3 n.ps.length k3], fun wx hx => ?_, ?_⟩
    · simp [go_sem, hC0 wx hx, hC1 wx hx, hC2 wx hx, hC3 wx hx]
    go_big_quiet_on
    go_big_quiet_want
    go_big_quiet_op
    refine ⟨.bool (okN n), fun wx hx => ?_, ?_⟩
    · refine (HRGD.out _ (hNA wx hx)).mono ?_
      rintro e w9 ⟨rfl, hb9⟩
      exact ⟨rfl, hx.trans (hb9.mono hx.size)⟩
    go_big_quiet_on
    go_big_quiet_want
    go_big_quiet_op
    refine ⟨.bool true, fun wx hx => ?_, ?_⟩
    · simp [go_sem]
    go_big_quiet_on
    go_big_quiet_want
    go_big_quiet_op
    refine ⟨.bool true, fun wx hx => ?_, ?_⟩
    · simp [go_sem]
    go_big_quiet_on
    go_big_quiet_want
    go_big_quiet_op
    go_big_quiet_on
    go_big_quiet_want
    go_big_quiet_op
    refine ⟨.agg #[.bool n.f, .slice a1 n.ks.length k1, .slice a2 n.cs.length k2, .slice a3 n.ps.length k3], fun wx hx => ?_, ?_⟩
    · simp [go_sem, hC0 wx hx, hC1 wx hx, hC2 wx hx, hC3 wx hx]
    go_big_quiet_on
    go_big_quiet_want
    go_big_quiet_op
    refine ⟨.int .i64 (sizeN n : Nat), fun wx hx => ?_, ?_⟩
    · refine (HSZ.out _ (hNA wx hx)).mono ?_
      rintro e w9 ⟨rfl, hb9⟩
      exact ⟨rfl, hx.trans (hb9.mono hx.size)⟩
    go_big_quiet_on
    go_big_quiet_want
    go_big_quiet_op
    refine ⟨.agg #[.bool n.f, .slice a1 n.ks.length k1, .slice a2 n.cs.length k2, .slice a3 n.ps.length k3], fun wx hx => ?_, ?_⟩
    · simp [go_sem, hC0 wx hx, hC1 wx hx, hC2 wx hx, hC3 wx hx]
    go_big_quiet_on
    go_big_quiet_want
    go_big_quiet_op
    refine ⟨.int .i64 (sizeN n : Nat), fun wx hx => ?_, ?_⟩
    · refine (HRSZ.out _ (hNA wx hx)).mono ?_
      rintro e w9 ⟨rfl, hb9⟩
      exact ⟨rfl, hx.trans (hb9.mono hx.size)⟩
    go_big_quiet_on
    go_big_quiet_want
    go_big_quiet_op
    refine ⟨.bool true, fun wx hx => ?_, ?_⟩
    · simp [go_sem]
    go_big_quiet_on
    go_big_quiet_want
    go_big_quiet_op
    refine ⟨.bool true, fun wx hx => ?_, ?_⟩
    · simp [go_sem]
    go_big_quiet_on
    go_big_quiet_want
    go_big_quiet_op
    go_big_quiet_on
    go_big_quiet_want
    go_big_quiet_op
    go_big_quiet_on
    go_big_quiet_want
    go_big_quiet_op
    go_big_quiet_on
    go_big_quiet_want
    go_big_quiet_op
    refine ⟨.bool true, fun wx hx => ?_, ?_⟩
    · simp [go_sem]
    go_big_quiet_on
    go_big_quiet_want
    go_big_quiet_op
    refine ⟨.bool true, fun wx hx => ?_, ?_⟩
    · simp [go_sem]
    go_big_quiet_on
    go_big_quiet_want
    go_big_quiet_op
    go_big_quiet_on
    go_big_quiet_want
    go_big_quiet_op
    go_big_quiet_on
    go_big_quiet_want
    go_big_quiet_op
    go_big_quiet_on
    go_big_quiet_want
    go_big_quiet_op
    refine ⟨.bool true, fun wx hx => ?_, ?_⟩
    · simp [go_sem]
    go_big_quiet_on
    go_big_quiet_want
    go_big_quiet_op
    refine ⟨.bool true, fun wx hx => ?_, ?_⟩
    · simp [go_sem]
    go_big_quiet_on
    go_big_quiet_want
    go_big_quiet_op
    go_big_quiet_on
    refine wpQuiet_nil ?_
    intro w20 hb20
    have BF := hid (G6.out.on hb20).be
    clear hb20 hC0 hC1 hC2 hC3 hNA
    go_wp2
    go_ret
    exact ⟨rfl, BF.out⟩
end nodeWrites
end Go.Proofs.YtiellodbkanciaaGreatDoor
