/-
  The walk of JournalBack: the power goes at any operation, and Back, cut off itself again and again.
-/
import Derived.Test.YtpdpjgeoclilhaaGreatJournalEndsW
namespace Go.Proofs.YtpdpjgeoclilhaaGreat
open Go.RowKit Go.Shelf
namespace Jo
open Num (hid)
open Disk (Mod Fil Plc Sees Stays Ctl arm_sees off_sees on_sees bytes_sees)
open Mem (Bs bs LAt ptr)

/-- What Back can go on from, the power being on again. -/
def St (P : Nat) (M : Mod) : Prop := ∃ D J, M.fs = dir2 D J ∧ Sta True P D J ∧ Calm M.c
theorem st_start {P : Nat} {M0 M1 : Mod} {er : Int} (h1 : EndP P M0 er M1) (l : List Int) : St P (M1.off.on l) := by
  obtain ⟨D, J, hf, hc, _⟩ := h1
  obtain ⟨c1, _, k, k', e⟩ := off_on M1 l hf
  exact ⟨_, _, e, hc.wake l k k', c1⟩
theorem St.again {P : Nat} (hP : P ≤ 8) {M : Mod} (h : St P M) (a : Int) (l : List Int) : St P ((backM (M.arm a 2 0)).2.off.on l) := by
  obtain ⟨D, J, hf, hs, _⟩ := h
  obtain ⟨D2, J2, g1, g2, _⟩ := back_keeps (str := True) (by omega) ((armed_room M a 2 0).2.1.trans hf) hs
  obtain ⟨c1, _, k, k', e⟩ := off_on (backM (M.arm a 2 0)).2 l g1
  exact ⟨_, _, e, g2.cut.wake l k k', c1⟩
theorem St.last {P : Nat} (hP : P ≤ 8) {M : Mod} (h : St P M) : ∃ D, (backM (M.arm 0 0 0)).1 = 0 ∧ (backM (M.arm 0 0 0)).2.fs = dir2 D none ∧ Fin P D ∧ Calm (backM (M.arm 0 0 0)).2.c := by
  obtain ⟨D, J, hf, hs, hc⟩ := h
  obtain ⟨c1, c2, c3⟩ := disarmed hc.1
  obtain ⟨D3, J3, k1, k2, k3, k4⟩ := back_keeps (str := True) (by omega) (c3.trans hf) hs
  obtain ⟨e1, e2, _⟩ := k4 c1
  obtain ⟨rfl, hF⟩ := k3 e1
  exact ⟨D3, e1, k1, hF, e2⟩
theorem was_dk {w0 w : World} {d m : Nat} {M : Mod} {D : Option Fil} (h : Dk w0 d m M w) (hfs : M.fs = dir2 D none) (hc : Calm M.c) {P : Nat} (hF : Fin P D) (hP : P ≤ 8) :
    Calls Tryz.prog 28 #[ptr d, .int .i64 (P : Nat)] w fun e w' => ∃ M', e = .returned (.bool true) ∧ Dk w0 d m M' w' ∧ M'.fs = dir2 D none ∧ Calm M'.c := by
  refine (was_any h.sees hfs hc hF (by omega)).mono ?_
  rintro e w' ⟨M', rfl, a, b, c, f⟩
  exact ⟨M', rfl, h.to a b, c, f⟩
theorem back_dk {w0 w : World} {d m : Nat} {M : Mod} (h : Dk w0 d m M w) : Calls Tryz.prog 17 #[ptr d] w fun e w' => e = .returned (.int .i64 (backM M).1) ∧ Dk w0 d m (backM M).2 w' := by
  refine (back_any h.sees).mono ?_
  rintro e w' ⟨rfl, a, b⟩
  exact ⟨rfl, h.to a b⟩
theorem arm_dk {w0 w : World} {d m : Nat} {M : Mod} (h : Dk w0 d m M w) (a k n : Int) (ha : a ≤ 9223372036854775807) (hn : n ≤ 9223372036854775807) : Calls Tryz.prog 24 #[ptr d, .int .i64 a, .int .i64 k, .int .i64 n] w fun e w' => e = .returned (.tuple #[]) ∧ Dk w0 d m (M.arm a k n) w' := by
  refine (arm_sees h.sees a k n ha hn).mono ?_
  rintro e w' ⟨rfl, a, b⟩
  exact ⟨rfl, h.to a b⟩
theorem off_dk {w0 w : World} {d m : Nat} {M : Mod} (h : Dk w0 d m M w) : Calls Tryz.prog 26 #[ptr d] w fun e w' => e = .returned (.tuple #[]) ∧ Dk w0 d m M.off w' := by
  refine (off_sees h.sees).mono ?_
  rintro e w' ⟨rfl, a, b⟩
  exact ⟨rfl, h.to a b⟩
/-- The first of the cuts. -/
def at0 (l : List Int) : Int := l.headD 0
set_option maxRecDepth 100000 in
set_option maxHeartbeats 4000000 in
theorem back_walk (a0 : Int) (v1 : Value) (l1 : List ChC) (v2 v3 : Value) (l2 l3 : List Int) (w : World) (hL : LAt 3 chV w v1 l1) (hL2 : LAt 1 iV w v2 l2) (hL3 : LAt 1 iV w v3 l3) :
    Calls Tryz.prog 4 #[.int .i64 a0, v1, .agg #[v2, v3]] w fun e w' => e = .returned (.bool true) ∧ Below w.heap.size w w' := by
  have hr0 : wrap64 ((IntKind.u64.wrap a0).tmod 9) = _ := remN_is a0 9 (by decide)
  have hl0 := remN_lt a0 9 (by decide)
  generalize remN a0 9 = P at *
  obtain ⟨ao, cap, rfl, -⟩ := hL.ways
  obtain ⟨ao2, cap2, hv2, hlm2, hlc2, hLj⟩ := hL2.ways
  obtain ⟨ao3, cap3, hv3, -⟩ := hL3.ways
  subst hv2 hv3
  have HL := hid hL
  have HL3 := hid hL3
  have HLJ := hid hLj
  clear hL hL2 hL3 hLj
  go_enter Tryz.func4, Tryz.ntmps4
  go_wp2_with fail
  refine (awake_any _).mono ?_
  rintro e w1 ⟨rfl, hb1⟩
  have hbw : Below w.heap.size w w1 := ((Below.refl _ _).alloc (Nat.le_refl _) _).trans (hb1.mono (by simp))
  have HB1 := hid hbw
  have k0 : w1.cell? ⟨w.heap.size, 0, none⟩ = some (.slice ao2 l2.length cap2) := (hb1.cell (p := ⟨w.heap.size, 0, none⟩) (by simp)).trans (Disk.blk_cell (Disk.blk_new w _) 0)
  have k1 : w1.cell? ⟨w.heap.size, 1, none⟩ = some (.slice ao3 l3.length cap3) := (hb1.cell (p := ⟨w.heap.size, 1, none⟩) (by simp)).trans (Disk.blk_cell (Disk.blk_new w _) 1)
  clear hb1 hbw
  go_wp2_with fail
  refine (laid_any P (by omega) w1).mono ?_
  rintro e w2 ⟨d, m, M0, rfl, h2, hb2, hM0⟩
  have H2 : Hid (Dk w d m M0 w2) := hid ⟨h2.fewer (fun k hk => Nat.lt_of_lt_of_le hk HB1.out.size), HB1.out.trans (hb2.mono HB1.out.size)⟩
  have HM0 := hid hM0
  clear h2 hb2 hM0 k0 k1
  have HAT : Hid (∀ j (hj : j < l2.length), ∃ gb o, ao2 = some ⟨gb, o, none⟩ ∧ ∀ wr, Below w.heap.size w wr → wr.cell? ⟨gb, o + j, none⟩ = some (.int .i64 l2[j])) := hid fun j hj => by
    obtain ⟨gb, o, e1, e2, e3⟩ := HLJ.out j hj
    refine ⟨gb, o, e1, fun wr hb => ?_⟩
    have := e3 0 (by decide)
    rw [Nat.mul_one, Nat.add_zero] at this
    exact (hb.cell (p := ⟨gb, o + j, none⟩) e2).trans this
  clear HLJ
  by_cases h0 : 0 < l2.length
  · have h0i : (l2.length : Int) > 0 := by omega
    obtain ⟨gb, o, rfl, hcell⟩ := HAT.out 0 h0
    have cc := hcell _ H2.out.below
    rw [Nat.add_zero] at cc
    have hr2 : wrap64 ((IntKind.u64.wrap l2[0]).tmod 70) = _ := remN_is l2[0] 70 (by decide)
    have hl2 := remN_lt l2[0] 70 (by decide)
    generalize remN l2[0] 70 = q at *
    have hci : (0 : Int) < (cap2 : Int) := by omega
    go_wp2_with fail
    refine (arm_dk H2.out (1 + (q : Int)) 2 0 (by omega) (by decide)).mono ?_
    rintro e w3 ⟨rfl, h3⟩
    have H3 := hid h3
    clear h3
    go_wp2_with fail
    refine (changed_laid H3.out HM0.out (armed_room _ _ _ _).2.1 (by omega) HL.out).mono ?_
    rintro e w4 ⟨er, M1, rfl, h4, hE⟩
    have H4 := hid h4
    have HS4 := hid (st_start hE l3)
    clear h4 hE HM0 H3 H2
    go_wp2_with fail
    refine (off_dk H4.out).mono ?_
    rintro e w5 ⟨rfl, h5⟩
    have H5 := hid h5
    clear h5 H4
    go_wp2_with fail
    refine (on_fates H5.out HL3.out).mono ?_
    rintro e w6 ⟨rfl, h6⟩
    have H6 := hid h6
    clear h6 H5
    generalize M1.off.on l3 = M2 at *
    go_wp2_with fail
    go_loopw [11] (fun iv wr => ∃ (k : Nat) (M : Mod), 1 ≤ k ∧ k ≤ 6 ∧ iv = .int .i64 k ∧ Hid (Dk w d m M wr ∧ St P M)) (fun iv _ => 6 - (intOf iv).toNat)
    case atStart => exact ⟨1, M2, by decide, by decide, rfl, hid ⟨H6.out, HS4.out⟩⟩
    case round =>
      obtain ⟨k, M, hk1, hk, rfl, HI⟩ := hrel
      by_cases hlt : (k : Int) < (l2.length : Int)
      · by_cases h6 : (k : Int) < 6
        · have hkl : k < l2.length := by omega
          obtain ⟨gb2, o2, hao, hcell2⟩ := HAT.out k hkl
          cases hao
          have ck := hcell2 _ HI.out.1.below
          have hrk : wrap64 ((IntKind.u64.wrap l2[k]).tmod 12) = _ := remN_is l2[k] 12 (by decide)
          have hlk := remN_lt l2[k] 12 (by decide)
          generalize remN l2[k] 12 = r at *
          have hkc : (k : Int) < (cap2 : Int) := by omega
          go_wp2_with fail
          refine (arm_dk HI.out.1 (1 + (r : Int)) 2 0 (by omega) (by decide)).mono ?_
          rintro e w7 ⟨rfl, h7⟩
          have H7 := hid h7
          clear h7
          go_wp2_with fail
          refine (back_dk H7.out).mono ?_
          rintro e w8 ⟨rfl, h8⟩
          have H8 := hid h8
          clear h8
          go_wp2_with fail
          refine (off_dk H8.out).mono ?_
          rintro e w9 ⟨rfl, h9⟩
          have H9 := hid h9
          clear h9
          go_wp2_with fail
          refine (on_fates H9.out HL3.out).mono ?_
          rintro e w10 ⟨rfl, h10⟩
          have H10 := hid h10
          have HS10 := hid (HI.out.2.again (by omega) (1 + (r : Int)) l3)
          clear h10
          generalize (backM (M.arm (1 + (r : Int)) 2 0)).2.off.on l3 = M3 at *
          go_wp2
          go_roundw
          case rel => exact ⟨k + 1, M3, by omega, by omega, by go_num, hid ⟨H10.out, HS10.out⟩⟩
          case measure => simp [intOf]; omega
        · go_wp2_with fail
          refine (arm_dk HI.out.1 0 0 0 (by decide) (by decide)).mono ?_
          rintro e w7 ⟨rfl, h7⟩
          have H7 := hid h7
          clear h7
          obtain ⟨D, e1, e2, e3, e4⟩ := HI.out.2.last (by omega)
          have HE2 := hid e2
          have HE3 := hid e3
          have HE4 := hid e4
          clear e2 e3 e4
          go_wp2_with fail
          refine (back_dk H7.out).mono ?_
          rintro e w8 ⟨rfl, h8⟩
          have H8 := hid h8
          rw [e1]
          clear h8 e1
          generalize (backM (M.arm 0 0 0)).2 = M4 at *
          go_wp2_with fail
          refine (was_dk H8.out HE2.out HE4.out HE3.out (by omega)).mono ?_
          rintro e w9 ⟨M5, rfl, h9, hf9, hc9⟩
          have H9 := hid h9
          have HF9 := hid hf9
          have HC9 := hid hc9
          have hsz : M5.size jn = -1 := by rw [size_j hf9]; rfl
          clear h9 hf9 hc9
          go_wp2_with fail
          refine (size_jn H9.out.sees).mono ?_
          rintro e w10 ⟨rfl, rfl⟩
          rw [hsz]
          go_wp2_with fail
          refine (back_dk H9.out).mono ?_
          rintro e w11 ⟨rfl, h11⟩
          rw [back_none HF9.out] at h11 ⊢
          have H11 := hid h11
          clear h11
          go_wp2_with fail
          refine (was_dk H11.out HF9.out HC9.out HE3.out (by omega)).mono ?_
          rintro e w12 ⟨M6, rfl, h12, hf12, hc12⟩
          have H12 := hid h12
          clear h12 hf12 hc12
          go_wp2
          go_ret
          exact ⟨rfl, H12.out.below⟩
      · go_wp2_with fail
        refine (arm_dk HI.out.1 0 0 0 (by decide) (by decide)).mono ?_
        rintro e w7 ⟨rfl, h7⟩
        have H7 := hid h7
        clear h7
        obtain ⟨D, e1, e2, e3, e4⟩ := HI.out.2.last (by omega)
        have HE2 := hid e2
        have HE3 := hid e3
        have HE4 := hid e4
        clear e2 e3 e4
        go_wp2_with fail
        refine (back_dk H7.out).mono ?_
        rintro e w8 ⟨rfl, h8⟩
        have H8 := hid h8
        rw [e1]
        clear h8 e1
        generalize (backM (M.arm 0 0 0)).2 = M4 at *
        go_wp2_with fail
        refine (was_dk H8.out HE2.out HE4.out HE3.out (by omega)).mono ?_
        rintro e w9 ⟨M5, rfl, h9, hf9, hc9⟩
        have H9 := hid h9
        have HF9 := hid hf9
        have HC9 := hid hc9
        have hsz : M5.size jn = -1 := by rw [size_j hf9]; rfl
        clear h9 hf9 hc9
        go_wp2_with fail
        refine (size_jn H9.out.sees).mono ?_
        rintro e w10 ⟨rfl, rfl⟩
        rw [hsz]
        go_wp2_with fail
        refine (back_dk H9.out).mono ?_
        rintro e w11 ⟨rfl, h11⟩
        rw [back_none HF9.out] at h11 ⊢
        have H11 := hid h11
        clear h11
        go_wp2_with fail
        refine (was_dk H11.out HF9.out HC9.out HE3.out (by omega)).mono ?_
        rintro e w12 ⟨M6, rfl, h12, hf12, hc12⟩
        have H12 := hid h12
        clear h12 hf12 hc12
        go_wp2
        go_ret
        exact ⟨rfl, H12.out.below⟩
  · have h0i : ¬ ((l2.length : Int) > 0) := by omega
    have hr2 : wrap64 ((IntKind.u64.wrap 0).tmod 70) = 0 := by decide +kernel
    go_wp2_with fail
    refine (arm_dk H2.out 1 2 0 (by omega) (by decide)).mono ?_
    rintro e w3 ⟨rfl, h3⟩
    have H3 := hid h3
    clear h3
    go_wp2_with fail
    refine (changed_laid H3.out HM0.out (armed_room _ _ _ _).2.1 (by omega) HL.out).mono ?_
    rintro e w4 ⟨er, M1, rfl, h4, hE⟩
    have H4 := hid h4
    have HS4 := hid (st_start hE l3)
    clear h4 hE HM0 H3 H2
    go_wp2_with fail
    refine (off_dk H4.out).mono ?_
    rintro e w5 ⟨rfl, h5⟩
    have H5 := hid h5
    clear h5 H4
    go_wp2_with fail
    refine (on_fates H5.out HL3.out).mono ?_
    rintro e w6 ⟨rfl, h6⟩
    have H6 := hid h6
    clear h6 H5
    generalize M1.off.on l3 = M2 at *
    go_wp2_with fail
    go_loopw [11] (fun iv wr => ∃ (k : Nat) (M : Mod), 1 ≤ k ∧ k ≤ 6 ∧ iv = .int .i64 k ∧ Hid (Dk w d m M wr ∧ St P M)) (fun iv _ => 6 - (intOf iv).toNat)
    case atStart => exact ⟨1, M2, by decide, by decide, rfl, hid ⟨H6.out, HS4.out⟩⟩
    case round =>
      obtain ⟨k, M, hk1, hk, rfl, HI⟩ := hrel
      have hlt : ¬ ((k : Int) < (l2.length : Int)) := by omega
      go_wp2_with fail
      refine (arm_dk HI.out.1 0 0 0 (by decide) (by decide)).mono ?_
      rintro e w7 ⟨rfl, h7⟩
      have H7 := hid h7
      clear h7
      obtain ⟨D, e1, e2, e3, e4⟩ := HI.out.2.last (by omega)
      have HE2 := hid e2
      have HE3 := hid e3
      have HE4 := hid e4
      clear e2 e3 e4
      go_wp2_with fail
      refine (back_dk H7.out).mono ?_
      rintro e w8 ⟨rfl, h8⟩
      have H8 := hid h8
      rw [e1]
      clear h8 e1
      generalize (backM (M.arm 0 0 0)).2 = M4 at *
      go_wp2_with fail
      refine (was_dk H8.out HE2.out HE4.out HE3.out (by omega)).mono ?_
      rintro e w9 ⟨M5, rfl, h9, hf9, hc9⟩
      have H9 := hid h9
      have HF9 := hid hf9
      have HC9 := hid hc9
      have hsz : M5.size jn = -1 := by rw [size_j hf9]; rfl
      clear h9 hf9 hc9
      go_wp2_with fail
      refine (size_jn H9.out.sees).mono ?_
      rintro e w10 ⟨rfl, rfl⟩
      rw [hsz]
      go_wp2_with fail
      refine (back_dk H9.out).mono ?_
      rintro e w11 ⟨rfl, h11⟩
      rw [back_none HF9.out] at h11 ⊢
      have H11 := hid h11
      clear h11
      go_wp2_with fail
      refine (was_dk H11.out HF9.out HC9.out HE3.out (by omega)).mono ?_
      rintro e w12 ⟨M6, rfl, h12, hf12, hc12⟩
      have H12 := hid h12
      clear h12 hf12 hc12
      go_wp2
      go_ret
      exact ⟨rfl, H12.out.below⟩
end Jo
end Go.Proofs.YtpdpjgeoclilhaaGreat
