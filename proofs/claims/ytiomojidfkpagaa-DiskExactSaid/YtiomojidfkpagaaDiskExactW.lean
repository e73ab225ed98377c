/-
  DiskExact: the walk of the statement.
-/
import Derived.Test.YtiomojidfkpagaaGrpRefX
namespace Go.Proofs.Ytiomojidfkpagaa
open Go.RowKit
namespace diskExact
open Disk Ref
open Num (hid)
set_option maxRecDepth 100000 in
set_option maxHeartbeats 8000000 in
theorem walk (room : Int) (v0 : Value) (l : List ActM) (w : World) (hA : ActsAt w.heap.size w v0 l) :
    Calls Try.prog 3 #[.int .i64 room, v0] w fun e w' => e = .returned (.bool true) ∧ Below w.heap.size w w' := by
  have HA := hid hA
  obtain ⟨ao, cap, rfl, hcell⟩ := Ref.acts_val hA
  have HC := hid hcell
  clear hA hcell
  obtain ⟨nl, hnl⟩ : ∃ x, l.length = x := ⟨_, rfl⟩
  rw [hnl] at HA ⊢
  have HNL := hid hnl
  clear hnl
  go_enter Try.func3, Try.ntmps3
  go_wp2_with fail
  refine (awake_any _).mono ?_
  rintro e w1 ⟨rfl, B1⟩
  have HB1 := hid B1
  clear B1
  go_wp2_with fail
  refine (new_has room w1).mono ?_
  rintro e w2 ⟨rfl, h2, b2⟩
  have H2 := hid h2
  have HB2 := hid b2
  clear h2 b2
  go_wp2_with fail
  refine (rnew_any room w2).mono ?_
  rintro e w3 ⟨rfl, h3, b3⟩
  have HD : Hid (Duo w.heap.size (w1.heap.size + 1) w1.heap.size w2.heap.size (Mod.new room) w3) := hid (Duo.new HB1.out.size H2.out h3 b3 HB2.out.size)
  have HB3 : Hid (Below w.heap.size w w3) := hid ((HB1.out.trans (HB2.out.mono HB1.out.size)).trans (b3.mono (Nat.le_trans HB1.out.size HB2.out.size)))
  have HFT := hid (Fits.new room)
  generalize hd : w1.heap.size + 1 = d at *
  generalize w1.heap.size = m at *
  generalize w2.heap.size = r at *
  generalize Mod.new room = M0 at *
  clear h3 b3 H2 HB2 HB1 hd
  go_wp2_with fail
  go_loopw [7] (fun i wr => ∃ (k : Nat) (M : Mod), k ≤ nl ∧ k ≤ 80 ∧ i = .int .i64 k ∧ Hid (Duo w.heap.size d m r M wr) ∧ Hid (Below w.heap.size w wr) ∧ Hid (Fits M.fs)) (fun i _ => nl - (intOf i).toNat)
  case atStart => exact ⟨0, M0, Nat.zero_le _, by omega, rfl, HD, HB3, HFT⟩
  case round =>
    clear HD HB3 HFT
    obtain ⟨k, M, hk, hk2, rfl, HD, HB, HFT⟩ := hrel
    by_cases hgo : k < nl ∧ k < 80
    · obtain ⟨hlt, h80⟩ := hgo
      have i1 : k < l.length := by have := HNL.out; omega
      obtain ⟨b, o, rfl, hbN, hq⟩ := HC.out k i1
      have hA2 := HA.out.kept HB.out
      have hok := hA2.2.1 l[k] (List.getElem_mem i1)
      have q : ∀ i, i < 6 → wr.cell? ⟨b, o + k * 6 + i, none⟩ = l[k].cells[i]? := fun i hi => (HB.out.cell (p := ⟨b, o + k * 6 + i, none⟩) hbN).trans (hq i hi)
      have hact := HD.out.act l[k] hok
      have hnm := hok.name
      have HFX := hid (Fits.does HFT.out l[k])
      generalize l[k] = x at *
      have HX := hid hact
      have q0 : wr.cell? ⟨b, o + k * 6, none⟩ = some (.int .i64 x.kind) := q 0 (by omega)
      have q1 : wr.cell? ⟨b, o + k * 6 + 1, none⟩ = some (.string x.name) := q 1 (by omega)
      have q2 : wr.cell? ⟨b, o + k * 6 + 2, none⟩ = some (.int .i64 x.n) := q 2 (by omega)
      have q3 : wr.cell? ⟨b, o + k * 6 + 3, none⟩ = some (.int .u8 (x.fill.toNat : Int)) := q 3 (by omega)
      have q4 : wr.cell? ⟨b, o + k * 6 + 4, none⟩ = some (.int .i64 x.len) := q 4 (by omega)
      have q5 : wr.cell? ⟨b, o + k * 6 + 5, none⟩ = some x.fv := q 5 (by omega)
      have hfv : x.fv.oneCell' = true := by
        obtain ⟨ao', nn', cap', e⟩ := ActM.shape hok
        rw [e]; rfl
      clear q hq hA2 hok hact i1
      go_wp2_with fail
      refine HX.out.mono ?_
      rintro e w4 ⟨rfl, b4, hsays⟩
      have HB4 := hid b4
      have HS := hid hsays
      have p0 := (b4.cell (p := ⟨b, o + k * 6, none⟩) hbN).trans q0
      have p1 := (b4.cell (p := ⟨b, o + k * 6 + 1, none⟩) hbN).trans q1
      have p2 := (b4.cell (p := ⟨b, o + k * 6 + 2, none⟩) hbN).trans q2
      have p3 := (b4.cell (p := ⟨b, o + k * 6 + 3, none⟩) hbN).trans q3
      have p4 := (b4.cell (p := ⟨b, o + k * 6 + 4, none⟩) hbN).trans q4
      have p5 := (b4.cell (p := ⟨b, o + k * 6 + 5, none⟩) hbN).trans q5
      clear b4 hsays q0 q2 q3 q4 q5
      go_wp2_with fail
      refine HS.out.mono ?_
      rintro e w5 ⟨rfl, b5, hduo⟩
      have HB5 := hid b5
      have HD5 := hid hduo
      have LK := hid hduo.looks
      have c1 := (b5.cell (p := ⟨b, o + k * 6 + 1, none⟩) hbN).trans q1
      have hb5 : b < w5.heap.size := Nat.lt_of_lt_of_le hbN (Nat.le_trans HB.out.size b5.size)
      obtain ⟨nm, hnm2⟩ : ∃ n, x.name = n := ⟨_, rfl⟩
      rw [hnm2] at c1 hnm
      have HN := hid (fun wx (hx : Below w5.heap.size w5 wx) => (hx.cell (p := ⟨b, o + k * 6 + 1, none⟩) hb5).trans c1)
      obtain ⟨M', hM'⟩ : ∃ z, (M.does x).2.2 = z := ⟨_, rfl⟩
      rw [hM'] at HD5 LK HFX
      have LSz := hid (fun wx hx => LK.out.size wx hx nm hnm)
      have LRz := hid (fun wx hx => LK.out.rsize wx hx nm hnm)
      have LBy := hid (fun wx hx => LK.out.bytes wx hx nm hnm)
      have LRy := hid (fun wx hx => LK.out.rbytes wx hx nm hnm)
      generalize M'.size nm.data.toList = sz at *
      obtain ⟨by_, hby⟩ : ∃ z : ByteArray, (⟨(M'.bytes nm.data.toList).toArray⟩ : ByteArray) = z := ⟨_, rfl⟩
      rw [hby] at LBy LRy
      obtain ⟨A, hA⟩ : ∃ z : ByteArray, (⟨(M.does x).1.toArray⟩ : ByteArray) = z := ⟨_, rfl⟩
      rw [hA]
      generalize (M.does x).2.1 = E at *
      clear b5 hduo p0 p1 p2 p3 p4 p5 q1 c1 hnm2 hM' hby hA
      go_wp2_with fail
      refine Ref.wp_quiet_in (fun wx => Below w5.heap.size w5 wx) (by kernel_rfl) (by kernel_rfl) (Below.refl _ _).drew ?_
      go_big_quiet_want
      go_big_quiet_op
      go_big_quiet_on
      go_big_quiet_want
      go_big_quiet_op
      go_big_quiet_on
      go_big_quiet_want
      go_big_quiet_op
      refine ⟨.bool false, fun wx hx => ?_, ?_⟩
      · simp [go_sem]
      go_big_quiet_on
      go_big_quiet_want
      go_big_quiet_op
      go_big_quiet_on
      go_big_quiet_want
      go_big_quiet_op
      go_big_quiet_on
      go_big_quiet_want
      go_big_quiet_op
      go_big_quiet_on
      go_big_quiet_want
      go_big_quiet_op
      refine ⟨.bool false, fun wx hx => ?_, ?_⟩
      · simp [go_sem]
      go_big_quiet_on
      go_big_quiet_want
      go_big_quiet_op
      refine ⟨.bool false, fun wx hx => ?_, ?_⟩
      · simp [go_sem]
      go_big_quiet_on
      go_big_quiet_want
      go_big_quiet_op
      go_big_quiet_on
      go_big_quiet_want
      go_big_quiet_op
      go_big_quiet_on
      go_big_quiet_want
      go_big_quiet_op
      refine ⟨.int .i64 M'.c.ops, fun wx hx => ?_, ?_⟩
      · refine (LK.out.ops wx hx).mono ?_
        rintro e w9 ⟨rfl, rfl⟩
        exact ⟨rfl, hx⟩
      go_big_quiet_on
      go_big_quiet_want
      go_big_quiet_op
      go_big_quiet_on
      go_big_quiet_want
      go_big_quiet_op
      refine ⟨.int .i64 M'.c.ops, fun wx hx => ?_, ?_⟩
      · refine (LK.out.rops wx hx).mono ?_
        rintro e w9 ⟨rfl, rfl⟩
        exact ⟨rfl, hx⟩
      go_big_quiet_on
      go_big_quiet_want
      go_big_quiet_op
      refine ⟨.bool false, fun wx hx => ?_, ?_⟩
      · simp [go_sem]
      go_big_quiet_on
      go_big_quiet_want
      go_big_quiet_op
      refine ⟨.bool false, fun wx hx => ?_, ?_⟩
      · simp [go_sem]
      go_big_quiet_on
      go_big_quiet_want
      go_big_quiet_op
      go_big_quiet_on
      go_big_quiet_want
      go_big_quiet_op
      go_big_quiet_on
      go_big_quiet_want
      go_big_quiet_op
      refine ⟨.int .i64 M'.c.life, fun wx hx => ?_, ?_⟩
      · refine (LK.out.life wx hx).mono ?_
        rintro e w9 ⟨rfl, rfl⟩
        exact ⟨rfl, hx⟩
      go_big_quiet_on
      go_big_quiet_want
      go_big_quiet_op
      go_big_quiet_on
      go_big_quiet_want
      go_big_quiet_op
      refine ⟨.int .i64 M'.c.life, fun wx hx => ?_, ?_⟩
      · refine (LK.out.rlife wx hx).mono ?_
        rintro e w9 ⟨rfl, rfl⟩
        exact ⟨rfl, hx⟩
      go_big_quiet_on
      go_big_quiet_want
      go_big_quiet_op
      refine ⟨.bool false, fun wx hx => ?_, ?_⟩
      · simp [go_sem]
      go_big_quiet_on
      go_big_quiet_want
      go_big_quiet_op
      refine ⟨.bool false, fun wx hx => ?_, ?_⟩
      · simp [go_sem]
      go_big_quiet_on
      go_big_quiet_want
      go_big_quiet_op
      go_big_quiet_on
      go_big_quiet_want
      go_big_quiet_op
      go_big_quiet_on
      go_big_quiet_want
      go_big_quiet_op
      refine ⟨.bool M'.c.down, fun wx hx => ?_, ?_⟩
      · refine (LK.out.down wx hx).mono ?_
        rintro e w9 ⟨rfl, rfl⟩
        exact ⟨rfl, hx⟩
      go_big_quiet_on
      go_big_quiet_want
      go_big_quiet_op
      go_big_quiet_on
      go_big_quiet_want
      go_big_quiet_op
      refine ⟨.bool M'.c.down, fun wx hx => ?_, ?_⟩
      · refine (LK.out.rdown wx hx).mono ?_
        rintro e w9 ⟨rfl, rfl⟩
        exact ⟨rfl, hx⟩
      go_big_quiet_on
      go_big_quiet_want
      go_big_quiet_op
      refine ⟨.bool false, fun wx hx => ?_, ?_⟩
      · simp [go_sem]
      go_big_quiet_on
      go_big_quiet_want
      go_big_quiet_op
      refine ⟨.bool false, fun wx hx => ?_, ?_⟩
      · simp [go_sem]
      go_big_quiet_on
      go_big_quiet_want
      go_big_quiet_op
      go_big_quiet_on
      go_big_quiet_want
      go_big_quiet_op
      go_big_quiet_on
      go_big_quiet_want
      go_big_quiet_op
      go_big_quiet_on
      go_big_quiet_want
      go_big_quiet_op
      go_big_quiet_on
      go_big_quiet_want
      go_big_quiet_op
      refine ⟨.pointer (some ⟨b, o + k * 6, none⟩), fun wx hx => ?_, ?_⟩
      · simp [go_sem] <;> omega
      go_big_quiet_on
      go_big_quiet_want
      go_big_quiet_op
      refine ⟨.pointer (some ⟨b, o + k * 6 + 1, none⟩), fun wx hx => ?_, ?_⟩
      · simp [go_sem]
      go_big_quiet_on
      go_big_quiet_want
      go_big_quiet_op
      refine ⟨.string nm, fun wx hx => ?_, ?_⟩
      · simp [go_sem, HN.out wx hx]
      go_big_quiet_on
      go_big_quiet_want
      go_big_quiet_op
      refine ⟨.int .i64 sz, fun wx hx => ?_, ?_⟩
      · refine (LSz.out wx hx).mono ?_
        rintro e w9 ⟨rfl, rfl⟩
        exact ⟨rfl, hx⟩
      go_big_quiet_on
      go_big_quiet_want
      go_big_quiet_op
      go_big_quiet_on
      go_big_quiet_want
      go_big_quiet_op
      go_big_quiet_on
      go_big_quiet_want
      go_big_quiet_op
      go_big_quiet_on
      go_big_quiet_want
      go_big_quiet_op
      refine ⟨.pointer (some ⟨b, o + k * 6, none⟩), fun wx hx => ?_, ?_⟩
      · simp [go_sem] <;> omega
      go_big_quiet_on
      go_big_quiet_want
      go_big_quiet_op
      refine ⟨.pointer (some ⟨b, o + k * 6 + 1, none⟩), fun wx hx => ?_, ?_⟩
      · simp [go_sem]
      go_big_quiet_on
      go_big_quiet_want
      go_big_quiet_op
      refine ⟨.string nm, fun wx hx => ?_, ?_⟩
      · simp [go_sem, HN.out wx hx]
      go_big_quiet_on
      go_big_quiet_want
      go_big_quiet_op
      refine ⟨.int .i64 sz, fun wx hx => ?_, ?_⟩
      · refine (LRz.out wx hx).mono ?_
        rintro e w9 ⟨rfl, rfl⟩
        exact ⟨rfl, hx⟩
      go_big_quiet_on
      go_big_quiet_want
      go_big_quiet_op
      refine ⟨.bool false, fun wx hx => ?_, ?_⟩
      · simp [go_sem]
      go_big_quiet_on
      go_big_quiet_want
      go_big_quiet_op
      refine ⟨.bool false, fun wx hx => ?_, ?_⟩
      · simp [go_sem]
      go_big_quiet_on
      go_big_quiet_want
      go_big_quiet_op
      go_big_quiet_on
      go_big_quiet_want
      go_big_quiet_op
      go_big_quiet_on
      go_big_quiet_want
      go_big_quiet_op
      go_big_quiet_on
      go_big_quiet_want
      go_big_quiet_op
      go_big_quiet_on
      go_big_quiet_want
      go_big_quiet_op
      refine ⟨.pointer (some ⟨b, o + k * 6, none⟩), fun wx hx => ?_, ?_⟩
      · simp [go_sem] <;> omega
      go_big_quiet_on
      go_big_quiet_want
      go_big_quiet_op
      refine ⟨.pointer (some ⟨b, o + k * 6 + 1, none⟩), fun wx hx => ?_, ?_⟩
      · simp [go_sem]
      go_big_quiet_on
      go_big_quiet_want
      go_big_quiet_op
      refine ⟨.string nm, fun wx hx => ?_, ?_⟩
      · simp [go_sem, HN.out wx hx]
      go_big_quiet_on
      go_big_quiet_want
      go_big_quiet_op
      refine ⟨.string by_, fun wx hx => ?_, ?_⟩
      · refine (LBy.out wx hx).mono ?_
        rintro e w9 ⟨rfl, hb9⟩
        exact ⟨rfl, hx.trans (hb9.mono hx.size)⟩
      go_big_quiet_on
      go_big_quiet_want
      go_big_quiet_op
      go_big_quiet_on
      go_big_quiet_want
      go_big_quiet_op
      go_big_quiet_on
      go_big_quiet_want
      go_big_quiet_op
      go_big_quiet_on
      go_big_quiet_want
      go_big_quiet_op
      refine ⟨.pointer (some ⟨b, o + k * 6, none⟩), fun wx hx => ?_, ?_⟩
      · simp [go_sem] <;> omega
      go_big_quiet_on
      go_big_quiet_want
      go_big_quiet_op
      refine ⟨.pointer (some ⟨b, o + k * 6 + 1, none⟩), fun wx hx => ?_, ?_⟩
      · simp [go_sem]
      go_big_quiet_on
      go_big_quiet_want
      go_big_quiet_op
      refine ⟨.string nm, fun wx hx => ?_, ?_⟩
      · simp [go_sem, HN.out wx hx]
      go_big_quiet_on
      go_big_quiet_want
      go_big_quiet_op
      refine ⟨.string by_, fun wx hx => ?_, ?_⟩
      · refine (LRy.out wx hx).mono ?_
        rintro e w9 ⟨rfl, hb9⟩
        exact ⟨rfl, hx.trans (hb9.mono hx.size)⟩
      go_big_quiet_on
      go_big_quiet_want
      go_big_quiet_op
      refine ⟨.bool false, fun wx hx => ?_, ?_⟩
      · simp [go_sem]
      go_big_quiet_on
      go_big_quiet_want
      go_big_quiet_op
      refine ⟨.bool false, fun wx hx => ?_, ?_⟩
      · simp [go_sem]
      go_big_quiet_on
      refine wpQuiet_nil ?_
      intro w6 hb6
      have HB6 : Hid (Below w.heap.size w w6) := hid ((HB.out.trans HB5.out).trans (hb6.mono (Nat.le_trans HB.out.size HB5.out.size)))
      have HD6 := hid (HD5.out.on hb6)
      clear hb6
      go_wp2
      go_roundw
      case rel => exact ⟨k + 1, M', by omega, by omega, by go_num, HD6, HB6, HFX⟩
      case measure => simp [intOf]; omega
    · have LK := hid HD.out.looks
      have NM := hid (LK.out.names wr (Below.refl _ _))
      have hstop : k = nl ∨ (k = 80 ∧ k < nl) := by omega
      have HL8 := hid LK.out.few
      have HFN := hid (LK.out.fit HFT.out)
      rcases hstop with rfl | ⟨rfl, hlt⟩
      · have hge : ¬ (k : Int) < k := by omega
        go_wp2_with fail
        refine NM.out.mono ?_
        rintro e w7 ⟨v7, rfl, row7, b7⟩
        have R7 := hid row7
        have HB7 := hid b7
        have NR := hid (LK.out.rnames w7 b7)
        obtain ⟨ao7, cap7, rfl, hr7⟩ := Ref.row_val row7
        clear row7 b7
        go_wp2_with fail
        refine NR.out.mono ?_
        rintro e w8 ⟨v8, rfl, row8, b8⟩
        have HB8 := hid b8
        have R78 := hid (row_kept R7.out (Chg.of_below b8) (F := fun _ => False) (fun _ _ h => h))
        have hsame := same_yes w8 _ _ M.names (StrsAt.of_row R78.out (by have := HL8.out; omega)) (StrsAt.of_row row8 (by have := HL8.out; omega))
        have HSM := hid hsame
        clear row8 b8 hsame
        go_wp2_with fail
        refine HSM.out.mono ?_
        rintro e w9 ⟨rfl, q9, rfl⟩
        have HB9 : Hid (Below wr.heap.size wr (w8.drewN q9)) := hid ((HB7.out.trans (HB8.out.mono HB7.out.size)).trans (show Below wr.heap.size w8 (w8.drewN q9) from ⟨rfl, rfl, rfl, Nat.le_refl _, fun _ _ => rfl⟩))
        have HR9 : Hid (∀ j, j < M.names.length → ∃ g, ao7 = some ⟨g, 0, none⟩ ∧ g < (w8.drewN q9).heap.size ∧ (w8.drewN q9).cell? ⟨g, j, none⟩ = (M.names.map fun l => Value.string ⟨l.toArray⟩)[j]?) := hid (fun j hj => by
          obtain ⟨g, e, hg, hc⟩ := hr7 j hj
          exact ⟨g, e, Nat.lt_of_lt_of_le hg HB8.out.size, (HB8.out.cell (p := ⟨g, j, none⟩) hg).trans hc⟩)
        obtain ⟨wz, hwz⟩ : ∃ z, z = wr := ⟨_, rfl⟩
        subst hwz
        generalize w8.drewN q9 = w9 at *
        obtain ⟨nn, hnn⟩ : ∃ z, M.names.length = z := ⟨_, rfl⟩
        rw [hnn] at HR9 HL8 ⊢
        have HNN := hid hnn
        clear hr7 hnn HB7 HB8 R7 R78 NM NR HSM
        go_wp2_with fail
        go_loopw [13] (fun i wr => ∃ j : Nat, j ≤ nn ∧ i = .int .i64 j ∧ Hid (Below w9.heap.size w9 wr)) (fun i _ => nn - (intOf i).toNat)
        case atStart => exact ⟨0, Nat.zero_le _, rfl, hid (Below.refl _ _)⟩
        case round =>
          obtain ⟨k, hk, rfl, HX9⟩ := hrel
          by_cases hlt : k < nn
          · have hlt' : (k : Int) < nn := by omega
            have HLT := hid hlt
            have h8 := HL8.out
            obtain ⟨g, rfl, hg, hc⟩ := HR9.out k hlt
            have i1 : k < M.names.length := by have := HNN.out; omega
            have hn16 := HFN.out _ (List.getElem_mem i1)
            have hlt9 : g < wr.heap.size := Nat.lt_of_lt_of_le hg HX9.out.size
            have c9 : wr.cell? ⟨g, k, none⟩ = some (.string ⟨M.names[k].toArray⟩) := (HX9.out.cell (p := ⟨g, k, none⟩) hg).trans (by rw [hc, List.getElem?_map, List.getElem?_eq_getElem i1]; rfl)
            obtain ⟨nm, hnm2⟩ : ∃ z : ByteArray, (⟨M.names[k].toArray⟩ : ByteArray) = z := ⟨_, rfl⟩
            have hnm : nm.size ≤ maxLen := by rw [← hnm2]; show M.names[k].toArray.size ≤ maxLen; unfold maxLen; simp; omega
            rw [hnm2] at c9
            have HN := hid (fun wx (hx : Below wr.heap.size wr wx) => (hx.cell (p := ⟨g, k, none⟩) hlt9).trans c9)
            have HW := hid (fun wx (hx : Below wr.heap.size wr wx) => (HB9.out.trans (HX9.out.mono HB9.out.size)).trans (hx.mono (Nat.le_trans HB9.out.size HX9.out.size)))
            have LSz := hid (fun wx hx => LK.out.size wx (HW.out wx hx) nm hnm)
            have LRz := hid (fun wx hx => LK.out.rsize wx (HW.out wx hx) nm hnm)
            have LBy := hid (fun wx hx => LK.out.bytes wx (HW.out wx hx) nm hnm)
            have LRy := hid (fun wx hx => LK.out.rbytes wx (HW.out wx hx) nm hnm)
            generalize M.size nm.data.toList = sz at *
            obtain ⟨by_, hby⟩ : ∃ z : ByteArray, (⟨(M.bytes nm.data.toList).toArray⟩ : ByteArray) = z := ⟨_, rfl⟩
            rw [hby] at LBy LRy
            clear hc hn16 c9 hnm2 hby i1
            go_wp2_with fail
            refine Ref.wp_quiet_in (fun wx => Below wr.heap.size wr wx) (by kernel_rfl) (by kernel_rfl) (Below.refl _ _).drew ?_
            go_big_quiet_want
            go_big_quiet_op
            go_big_quiet_on
            go_big_quiet_want
            go_big_quiet_op
            go_big_quiet_on
            go_big_quiet_want
            go_big_quiet_op
            go_big_quiet_on
            go_big_quiet_want
            go_big_quiet_op
            refine ⟨.pointer (some ⟨g, k, none⟩), fun wx hx => ?_, ?_⟩
            · simp [go_sem] <;> omega
            go_big_quiet_on
            go_big_quiet_want
            go_big_quiet_op
            refine ⟨.string nm, fun wx hx => ?_, ?_⟩
            · simp [go_sem, HN.out wx hx]
            go_big_quiet_on
            go_big_quiet_want
            go_big_quiet_op
            refine ⟨.string by_, fun wx hx => ?_, ?_⟩
            · refine (LBy.out wx hx).mono ?_
              rintro e w9 ⟨rfl, hb9⟩
              exact ⟨rfl, hx.trans (hb9.mono hx.size)⟩
            go_big_quiet_on
            go_big_quiet_want
            go_big_quiet_op
            go_big_quiet_on
            go_big_quiet_want
            go_big_quiet_op
            go_big_quiet_on
            go_big_quiet_want
            go_big_quiet_op
            go_big_quiet_on
            go_big_quiet_want
            go_big_quiet_op
            refine ⟨.pointer (some ⟨g, k, none⟩), fun wx hx => ?_, ?_⟩
            · simp [go_sem] <;> omega
            go_big_quiet_on
            go_big_quiet_want
            go_big_quiet_op
            refine ⟨.string nm, fun wx hx => ?_, ?_⟩
            · simp [go_sem, HN.out wx hx]
            go_big_quiet_on
            go_big_quiet_want
            go_big_quiet_op
            refine ⟨.string by_, fun wx hx => ?_, ?_⟩
            · refine (LRy.out wx hx).mono ?_
              rintro e w9 ⟨rfl, hb9⟩
              exact ⟨rfl, hx.trans (hb9.mono hx.size)⟩
            go_big_quiet_on
            go_big_quiet_want
            go_big_quiet_op
            refine ⟨.bool false, fun wx hx => ?_, ?_⟩
            · simp [go_sem]
            go_big_quiet_on
            go_big_quiet_want
            go_big_quiet_op
            go_big_quiet_on
            go_big_quiet_want
            go_big_quiet_op
            go_big_quiet_on
            go_big_quiet_want
            go_big_quiet_op
            go_big_quiet_on
            go_big_quiet_want
            go_big_quiet_op
            go_big_quiet_on
            go_big_quiet_want
            go_big_quiet_op
            refine ⟨.pointer (some ⟨g, k, none⟩), fun wx hx => ?_, ?_⟩
            · simp [go_sem] <;> omega
            go_big_quiet_on
            go_big_quiet_want
            go_big_quiet_op
            refine ⟨.string nm, fun wx hx => ?_, ?_⟩
            · simp [go_sem, HN.out wx hx]
            go_big_quiet_on
            go_big_quiet_want
            go_big_quiet_op
            refine ⟨.int .i64 sz, fun wx hx => ?_, ?_⟩
            · refine (LSz.out wx hx).mono ?_
              rintro e w9 ⟨rfl, rfl⟩
              exact ⟨rfl, hx⟩
            go_big_quiet_on
            go_big_quiet_want
            go_big_quiet_op
            go_big_quiet_on
            go_big_quiet_want
            go_big_quiet_op
            go_big_quiet_on
            go_big_quiet_want
            go_big_quiet_op
            go_big_quiet_on
            go_big_quiet_want
            go_big_quiet_op
            refine ⟨.pointer (some ⟨g, k, none⟩), fun wx hx => ?_, ?_⟩
            · simp [go_sem] <;> omega
            go_big_quiet_on
            go_big_quiet_want
            go_big_quiet_op
            refine ⟨.string nm, fun wx hx => ?_, ?_⟩
            · simp [go_sem, HN.out wx hx]
            go_big_quiet_on
            go_big_quiet_want
            go_big_quiet_op
            refine ⟨.int .i64 sz, fun wx hx => ?_, ?_⟩
            · refine (LRz.out wx hx).mono ?_
              rintro e w9 ⟨rfl, rfl⟩
              exact ⟨rfl, hx⟩
            go_big_quiet_on
            go_big_quiet_want
            go_big_quiet_op
            refine ⟨.bool false, fun wx hx => ?_, ?_⟩
            · simp [go_sem]
            go_big_quiet_on
            go_big_quiet_want
            go_big_quiet_op
            refine ⟨.bool false, fun wx hx => ?_, ?_⟩
            · simp [go_sem]
            go_big_quiet_on
            refine wpQuiet_nil ?_
            intro w6 hb6
            have HX6 := hid (HX9.out.trans (hb6.mono HX9.out.size))
            clear hb6
            go_wp2
            go_roundw
            case rel => exact ⟨k + 1, HLT.out, by go_num, HX6⟩
            case measure => have := HLT.out; simp [intOf]; omega
          · obtain rfl : k = nn := by omega
            have hlt' : ¬ (k : Int) < k := by omega
            go_wp2
            go_ret
            exact ⟨rfl, (HB.out.trans (HB9.out.mono HB.out.size)).trans (HX9.out.mono (Nat.le_trans HB.out.size HB9.out.size))⟩
      · have hge : ((80 : Nat) : Int) < nl := by omega
        go_wp2_with fail
        refine NM.out.mono ?_
        rintro e w7 ⟨v7, rfl, row7, b7⟩
        have R7 := hid row7
        have HB7 := hid b7
        have NR := hid (LK.out.rnames w7 b7)
        obtain ⟨ao7, cap7, rfl, hr7⟩ := Ref.row_val row7
        clear row7 b7
        go_wp2_with fail
        refine NR.out.mono ?_
        rintro e w8 ⟨v8, rfl, row8, b8⟩
        have HB8 := hid b8
        have R78 := hid (row_kept R7.out (Chg.of_below b8) (F := fun _ => False) (fun _ _ h => h))
        have hsame := same_yes w8 _ _ M.names (StrsAt.of_row R78.out (by have := HL8.out; omega)) (StrsAt.of_row row8 (by have := HL8.out; omega))
        have HSM := hid hsame
        clear row8 b8 hsame
        go_wp2_with fail
        refine HSM.out.mono ?_
        rintro e w9 ⟨rfl, q9, rfl⟩
        have HB9 : Hid (Below wr.heap.size wr (w8.drewN q9)) := hid ((HB7.out.trans (HB8.out.mono HB7.out.size)).trans (show Below wr.heap.size w8 (w8.drewN q9) from ⟨rfl, rfl, rfl, Nat.le_refl _, fun _ _ => rfl⟩))
        have HR9 : Hid (∀ j, j < M.names.length → ∃ g, ao7 = some ⟨g, 0, none⟩ ∧ g < (w8.drewN q9).heap.size ∧ (w8.drewN q9).cell? ⟨g, j, none⟩ = (M.names.map fun l => Value.string ⟨l.toArray⟩)[j]?) := hid (fun j hj => by
          obtain ⟨g, e, hg, hc⟩ := hr7 j hj
          exact ⟨g, e, Nat.lt_of_lt_of_le hg HB8.out.size, (HB8.out.cell (p := ⟨g, j, none⟩) hg).trans hc⟩)
        obtain ⟨wz, hwz⟩ : ∃ z, z = wr := ⟨_, rfl⟩
        subst hwz
        generalize w8.drewN q9 = w9 at *
        obtain ⟨nn, hnn⟩ : ∃ z, M.names.length = z := ⟨_, rfl⟩
        rw [hnn] at HR9 HL8 ⊢
        have HNN := hid hnn
        clear hr7 hnn HB7 HB8 R7 R78 NM NR HSM
        go_wp2_with fail
        go_loopw [13] (fun i wr => ∃ j : Nat, j ≤ nn ∧ i = .int .i64 j ∧ Hid (Below w9.heap.size w9 wr)) (fun i _ => nn - (intOf i).toNat)
        case atStart => exact ⟨0, Nat.zero_le _, rfl, hid (Below.refl _ _)⟩
        case round =>
          obtain ⟨k, hk, rfl, HX9⟩ := hrel
          by_cases hlt : k < nn
          · have hlt' : (k : Int) < nn := by omega
            have HLT := hid hlt
            have h8 := HL8.out
            obtain ⟨g, rfl, hg, hc⟩ := HR9.out k hlt
            have i1 : k < M.names.length := by have := HNN.out; omega
            have hn16 := HFN.out _ (List.getElem_mem i1)
            have hlt9 : g < wr.heap.size := Nat.lt_of_lt_of_le hg HX9.out.size
            have c9 : wr.cell? ⟨g, k, none⟩ = some (.string ⟨M.names[k].toArray⟩) := (HX9.out.cell (p := ⟨g, k, none⟩) hg).trans (by rw [hc, List.getElem?_map, List.getElem?_eq_getElem i1]; rfl)
            obtain ⟨nm, hnm2⟩ : ∃ z : ByteArray, (⟨M.names[k].toArray⟩ : ByteArray) = z := ⟨_, rfl⟩
            have hnm : nm.size ≤ maxLen := by rw [← hnm2]; show M.names[k].toArray.size ≤ maxLen; unfold maxLen; simp; omega
            rw [hnm2] at c9
            have HN := hid (fun wx (hx : Below wr.heap.size wr wx) => (hx.cell (p := ⟨g, k, none⟩) hlt9).trans c9)
            have HW := hid (fun wx (hx : Below wr.heap.size wr wx) => (HB9.out.trans (HX9.out.mono HB9.out.size)).trans (hx.mono (Nat.le_trans HB9.out.size HX9.out.size)))
            have LSz := hid (fun wx hx => LK.out.size wx (HW.out wx hx) nm hnm)
            have LRz := hid (fun wx hx => LK.out.rsize wx (HW.out wx hx) nm hnm)
            have LBy := hid (fun wx hx => LK.out.bytes wx (HW.out wx hx) nm hnm)
            have LRy := hid (fun wx hx => LK.out.rbytes wx (HW.out wx hx) nm hnm)
            generalize M.size nm.data.toList = sz at *
            obtain ⟨by_, hby⟩ : ∃ z : ByteArray, (⟨(M.bytes nm.data.toList).toArray⟩ : ByteArray) = z := ⟨_, rfl⟩
            rw [hby] at LBy LRy
            clear hc hn16 c9 hnm2 hby i1
            go_wp2_with fail
            refine Ref.wp_quiet_in (fun wx => Below wr.heap.size wr wx) (by kernel_rfl) (by kernel_rfl) (Below.refl _ _).drew ?_
            go_big_quiet_want
            go_big_quiet_op
            go_big_quiet_on
            go_big_quiet_want
            go_big_quiet_op
            go_big_quiet_on
            go_big_quiet_want
            go_big_quiet_op
            go_big_quiet_on
            go_big_quiet_want
            go_big_quiet_op
            refine ⟨.pointer (some ⟨g, k, none⟩), fun wx hx => ?_, ?_⟩
            · simp [go_sem] <;> omega
            go_big_quiet_on
            go_big_quiet_want
            go_big_quiet_op
            refine ⟨.string nm, fun wx hx => ?_, ?_⟩
            · simp [go_sem, HN.out wx hx]
            go_big_quiet_on
            go_big_quiet_want
            go_big_quiet_op
            refine ⟨.string by_, fun wx hx => ?_, ?_⟩
            · refine (LBy.out wx hx).mono ?_
              rintro e w9 ⟨rfl, hb9⟩
              exact ⟨rfl, hx.trans (hb9.mono hx.size)⟩
            go_big_quiet_on
            go_big_quiet_want
            go_big_quiet_op
            go_big_quiet_on
            go_big_quiet_want
            go_big_quiet_op
            go_big_quiet_on
            go_big_quiet_want
            go_big_quiet_op
            go_big_quiet_on
            go_big_quiet_want
            go_big_quiet_op
            refine ⟨.pointer (some ⟨g, k, none⟩), fun wx hx => ?_, ?_⟩
            · simp [go_sem] <;> omega
            go_big_quiet_on
            go_big_quiet_want
            go_big_quiet_op
            refine ⟨.string nm, fun wx hx => ?_, ?_⟩
            · simp [go_sem, HN.out wx hx]
            go_big_quiet_on
            go_big_quiet_want
            go_big_quiet_op
            refine ⟨.string by_, fun wx hx => ?_, ?_⟩
            · refine (LRy.out wx hx).mono ?_
              rintro e w9 ⟨rfl, hb9⟩
              exact ⟨rfl, hx.trans (hb9.mono hx.size)⟩
            go_big_quiet_on
            go_big_quiet_want
            go_big_quiet_op
            refine ⟨.bool false, fun wx hx => ?_, ?_⟩
            · simp [go_sem]
            go_big_quiet_on
            go_big_quiet_want
            go_big_quiet_op
            go_big_quiet_on
            go_big_quiet_want
            go_big_quiet_op
            go_big_quiet_on
            go_big_quiet_want
            go_big_quiet_op
            go_big_quiet_on
            go_big_quiet_want
            go_big_quiet_op
            go_big_quiet_on
            go_big_quiet_want
            go_big_quiet_op
            refine ⟨.pointer (some ⟨g, k, none⟩), fun wx hx => ?_, ?_⟩
            · simp [go_sem] <;> omega
            go_big_quiet_on
            go_big_quiet_want
            go_big_quiet_op
            refine ⟨.string nm, fun wx hx => ?_, ?_⟩
            · simp [go_sem, HN.out wx hx]
            go_big_quiet_on
            go_big_quiet_want
            go_big_quiet_op
            refine ⟨.int .i64 sz, fun wx hx => ?_, ?_⟩
            · refine (LSz.out wx hx).mono ?_
              rintro e w9 ⟨rfl, rfl⟩
              exact ⟨rfl, hx⟩
            go_big_quiet_on
            go_big_quiet_want
            go_big_quiet_op
            go_big_quiet_on
            go_big_quiet_want
            go_big_quiet_op
            go_big_quiet_on
            go_big_quiet_want
            go_big_quiet_op
            go_big_quiet_on
            go_big_quiet_want
            go_big_quiet_op
            refine ⟨.pointer (some ⟨g, k, none⟩), fun wx hx => ?_, ?_⟩
            · simp [go_sem] <;> omega
            go_big_quiet_on
            go_big_quiet_want
            go_big_quiet_op
            refine ⟨.string nm, fun wx hx => ?_, ?_⟩
            · simp [go_sem, HN.out wx hx]
            go_big_quiet_on
            go_big_quiet_want
            go_big_quiet_op
            refine ⟨.int .i64 sz, fun wx hx => ?_, ?_⟩
            · refine (LRz.out wx hx).mono ?_
              rintro e w9 ⟨rfl, rfl⟩
              exact ⟨rfl, hx⟩
            go_big_quiet_on
            go_big_quiet_want
            go_big_quiet_op
            refine ⟨.bool false, fun wx hx => ?_, ?_⟩
            · simp [go_sem]
            go_big_quiet_on
            go_big_quiet_want
            go_big_quiet_op
            refine ⟨.bool false, fun wx hx => ?_, ?_⟩
            · simp [go_sem]
            go_big_quiet_on
            refine wpQuiet_nil ?_
            intro w6 hb6
            have HX6 := hid (HX9.out.trans (hb6.mono HX9.out.size))
            clear hb6
            go_wp2
            go_roundw
            case rel => exact ⟨k + 1, HLT.out, by go_num, HX6⟩
            case measure => have := HLT.out; simp [intOf]; omega
          · obtain rfl : k = nn := by omega
            have hlt' : ¬ (k : Int) < k := by omega
            go_wp2
            go_ret
            exact ⟨rfl, (HB.out.trans (HB9.out.mono HB.out.size)).trans (HX9.out.mono (Nat.le_trans HB.out.size HB9.out.size))⟩

end diskExact
end Go.Proofs.Ytiomojidfkpagaa
