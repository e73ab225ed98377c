/-
  The reference's Load: the walk.
-/
import Derived.Test.YtgmbiiocjhkpdaaGreatGrpJRd
import Derived.Test.YtgmbiiocjhkpdaaGreatGrpJRc
import Derived.Test.YtgmbiiocjhkpdaaGreatGrpJRb
namespace Go.Proofs.YtgmbiiocjhkpdaaGreat
open Go.RowKit
namespace Ref
open Disk
open Num (hid bcells)
section
variable {R : Nat → Prop} {w : World} {r : Nat} {v : Value} {E : Ens} {c : Ctl} {a k m : Int}
set_option maxRecDepth 100000 in
set_option maxHeartbeats 4000000 in
theorem rload_any {M : Mod} (hG : Good M) (h : Refs R r M w) (hR : ∀ b, w.heap.size ≤ b → R b) (s : ByteArray) (l : ByteArray) :
    Calls Tryz.prog 44 #[ptr r, .string s, .string l] w fun e w' => e = .returned (.int .i64 (M.load s.data.toList l.data.toList).1) ∧ RefOut R w r (M.load s.data.toList l.data.toList).2 w' := by
  obtain ⟨v, E, a, k, m, D, hE⟩ := h
  have hll : l.data.toList.length = l.size := by simp
  have h8 := hG.len hE
  by_cases hbad : ¬ (1 ≤ s.size ∧ s.size ≤ 16) ∨ 1048576 < l.size
  · have HE1 : Hid (M.load s.data.toList l.data.toList = (1, M)) := hid (by
      unfold Mod.load
      rw [if_pos]
      rw [hll, name_fit]
      exact hbad.imp (fun h => decide_eq_false h) id)
    have HO := hid (show RefOut R w r M w from ⟨⟨v, E, a, k, m, D, hE⟩, Chg.refl _ _⟩)
    clear D hll hG hR hE h8
    by_cases h1 : s.size < 1
    · go_enter Tryz.func44, Tryz.ntmps44
      go_wp2
      go_ret
      exact ⟨ret_i (by rw [HE1.out]), by rw [HE1.out]; exact HO.out⟩
    by_cases h2 : 16 < s.size
    · go_enter Tryz.func44, Tryz.ntmps44
      go_wp2
      go_ret
      exact ⟨ret_i (by rw [HE1.out]), by rw [HE1.out]; exact HO.out⟩
    · have h3 : 1048576 < l.size := by omega
      clear hbad
      go_enter Tryz.func44, Tryz.ntmps44
      go_wp2
      go_ret
      exact ⟨ret_i (by rw [HE1.out]), by rw [HE1.out]; exact HO.out⟩
  have hs1 : ¬ s.size < 1 := by omega
  have hs2 : ¬ 16 < s.size := by omega
  have hs3 : ¬ 1048576 < l.size := by omega
  have hfit : ¬ (nameFit s.data.toList = false ∨ 1048576 < l.data.toList.length) := by
    rw [hll, name_fit]
    rintro (h | h)
    · exact absurd (of_decide_eq_false h) (by omega)
    · omega
  have HL := hid (loaded_len l.data.toList)
  have HZ : Hid (l.size = l.data.toList.length) := hid rfl
  have hmax : (loadedF l.data.toList).ps.length ≤ 16384 := by have := HL.out; omega
  have HM := hid hmax
  generalize hK : (loadedF l.data.toList).ps.length = K at *
  have HK := hid hK
  have hrise := hid hG.rise
  have H := hid D
  have hp0 := D.roots.1
  have hrr := lt_of_block D.blk
  obtain ⟨ao, cap, hv, -⟩ := row_shape D.row.1
  subst hv
  have HFIT := hid hfit
  clear hbad hfit hll hmax hK D
  go_enter Tryz.func44, Tryz.ntmps44
  go_wp2_with fail
  refine (place_any H.out (by omega) s).mono ?_
  rintro e w2 ⟨⟨j, rfl, hp⟩, rfl⟩
  rcases place_get hp with ⟨j, hj, rfl, hget, hn⟩ | ⟨rfl, hget⟩
  · rw [hE] at hget
    have hld : Hid (M.load s.data.toList l.data.toList = (0, ⟨M.c, ins M.fs s.data.toList (loadedF l.data.toList)⟩)) := hid (by unfold Mod.load; rw [if_neg HFIT.out, if_neg (by unfold holdsB; rw [hget]; simp)])
    have hjd : ¬ ((j : Int) < 0) := by omega
    clear hp hget hn
    have hR1 : Hid (∀ b, w.heap.size ≤ b → R b) := hid hR
    clear hR
    go_wp2_with fail
    refine (made_any H.out hR1.out (by omega) (by rw [hE]; exact hrise.out) s).mono ?_
    rintro e w3 ⟨j2, v2, E2, rfl, D2, ⟨hj2, hE2⟩, hset, hl2, hc2⟩
    rw [hE] at hE2 hset
    have hNN : E2[j2].2.1 = s.data.toList := by rw [hE2]
    obtain ⟨ao2, cap2, hv2, hao2⟩ := row_shape D2.row.1
    obtain ⟨g2, hg2, -⟩ := hao2 (by omega)
    subst hg2
    subst hv2
    have HD2 := hid D2
    have HC2 := hid hc2
    have HSET := hid hset
    have hR3 : Hid (∀ b, w3.heap.size ≤ b → R b) := hid (fun b hb => hR1.out b (Nat.le_trans hc2.size hb))
    have H0 := hid (load_none w3 s l.data.toList)
    clear D2 hc2 hset hao2 hE2 hNN
    go_wp2
    go_loopw [9] (fun i wr => ∃ q : Nat, q ≤ K ∧ i = .int .i64 (q * 256 : Nat) ∧ LoadR w3 s l.data.toList q wr) (fun i _ => K * 256 - (intOf i).toNat)
    case atStart => exact ⟨0, Nat.zero_le _, rfl, H0.out⟩
    case round =>
      obtain ⟨q, hq, rfl, hLd⟩ := hrel
      have HLd := hid hLd
      clear hLd
      by_cases hlt : q < K
      · have hlt2 : q * 256 < l.size := by have := HL.out; have := HZ.out; omega
        by_cases h256 : 256 < l.size - q * 256
        · obtain ⟨w1, hmk, hcv, hb1⟩ := make_conv wr (0) (by omega)
          have he : ((0 : Nat) : Int) = 256 - ((min 256 (l.size - q * 256) : Nat) : Int) := by omega
          rw [he] at hmk
          obtain ⟨aq, cq, a2, c2, w6, hr, lt1, x1, x6, f6, hN⟩ := load_ready HLd.out (by rw [HK.out]; exact hlt) (by rw [HK.out]; exact HM.out) hb1 ((l.extract (q * 256) l.size).extract 0 256 ++ Part.zerosS 0) (part_full l q h256)
          have HRn := hid hr
          have HN := hid hN
          clear hr hN hb1
          have hz : ¬ 9223372036854775807 < min 256 (l.size - q * 256) + (Part.zerosS 0).size := by rw [Part.zerosS_size]; omega
          clear he
          go_wp2_with (at_builtin; refine wpList_append_run rfl (.tmp 65) (.tmp 68) tCs tCs rfl _ _ (by simp [Act.eval]) (by simp [Act.eval]) HRn.out ?_)
          go_roundw
          case rel => exact ⟨q + 1, by omega, congrArg (Value.int .i64) (by omega), HN.out⟩
          case measure => simp [intOf]; omega
        · obtain ⟨w1, hmk, hcv, hb1⟩ := make_conv wr (256 - (l.size - q * 256)) (by omega)
          have he : ((256 - (l.size - q * 256) : Nat) : Int) = 256 - ((l.size - q * 256 : Nat) : Int) := by omega
          rw [he] at hmk
          obtain ⟨aq, cq, a2, c2, w6, hr, lt1, x1, x6, f6, hN⟩ := load_ready HLd.out (by rw [HK.out]; exact hlt) (by rw [HK.out]; exact HM.out) hb1 (l.extract (q * 256) l.size ++ Part.zerosS (256 - (l.size - q * 256))) (part_short l q h256)
          have HRn := hid hr
          have HN := hid hN
          clear hr hN hb1
          have hz : ¬ 9223372036854775807 < l.size - q * 256 + (Part.zerosS (256 - (l.size - q * 256))).size := by rw [Part.zerosS_size]; omega
          clear he
          go_wp2_with (at_builtin; refine wpList_append_run rfl (.tmp 65) (.tmp 68) tCs tCs rfl _ _ (by simp [Act.eval]) (by simp [Act.eval]) HRn.out ?_)
          go_roundw
          case rel => exact ⟨q + 1, by omega, congrArg (Value.int .i64) (by omega), HN.out⟩
          case measure => simp [intOf]; omega
      · have hge : ¬ q * 256 < l.size := by have := HL.out; have := HZ.out; omega
        have hqK : q = K := by omega
        subst hqK
        obtain ⟨vN, hblk, hown, hb, hlow⟩ := HLd.out
        obtain ⟨aN, cN, hvN, -⟩ := row_shape hown
        subst hvN
        rw [← HK.out, List.take_length] at hown
        have DW := HD2.out.kept (F := fun _ => False) (Chg.of_below hb) (fun h => h) (fun _ _ h => h) (Apart.none w3)
        have DJ : DiskJ R (putW wr g2 j2 ⟨s, .slice aN q cN, .slice none 0 0, .slice none 0 0, false⟩) r (.slice (some ⟨g2, 0, none⟩) (E2.set j2 (⟨s, .slice aN q cN, .slice none 0 0, .slice none 0 0, false⟩, (s.data.toList, loadedF l.data.toList))).length cap2) (E2.set j2 (⟨s, .slice aN q cN, .slice none 0 0, .slice none 0 0, false⟩, (s.data.toList, loadedF l.data.toList))) M.c a k m j2 := by
          rw [List.length_set]
          exact DW.raw hj2 _ _
        have hcp := putW_chg wr g2 j2 ⟨s, .slice aN q cN, .slice none 0 0, .slice none 0 0, false⟩
        obtain ⟨curg, hgt⟩ := row_type DW.row.1 (g := g2) rfl
        have hrowN : Row R (putW wr g2 j2 ⟨s, .slice aN q cN, .slice none 0 0, .slice none 0 0, false⟩) tC 3 (.slice aN q cN) (loadedF l.data.toList).ps.length (nowsC (loadedF l.data.toList).ps) := by
          refine ⟨?_, fun g hg => hR3.out g (hlow g hg)⟩
          have := row_kept hown hcp (fun g hg e => by
            subst e
            obtain ⟨cur, h2⟩ := row_type hown hg
            rw [hgt] at h2
            simp only [Option.some.injEq, Obj.cells.injEq] at h2
            exact absurd h2.2.1 (by decide))
          rw [HK.out] at this ⊢
          exact this
        have hset1 : (E2.set j2 (⟨s, .slice aN q cN, .slice none 0 0, .slice none 0 0, false⟩, (s.data.toList, loadedF l.data.toList)))[j2]'(by rw [List.length_set]; exact hj2) = (⟨s, .slice aN q cN, .slice none 0 0, .slice none 0 0, false⟩, (s.data.toList, loadedF l.data.toList)) := List.getElem_set_self _
        have HS := hid (settle_raw DJ.drew (fun b hb' => hR3.out b (Nat.le_trans hb.size (Nat.le_trans hcp.size hb'))) (by rw [List.length_set]; exact hj2) (n := s.data.toList) (F := loadedF l.data.toList) (by rw [hset1]) (by rw [hset1]; exact hrowN.kept (F := fun _ => False) (Chg.refl _ _).drew (fun _ _ h => h)) (aS := none) (aW := none) (lS := 0) (cS := 0) (lW := 0) (cW := 0) (by rw [hset1]) (by rw [hset1]) (by rw [HK.out]; have := HM.out; omega))
        have HCP := hid ((HC2.out.trans (Chg.of_below hb : Chg R w3 wr)).trans (hcp.mono (fun k _ e => by rw [e]; exact DW.row.2 g2 rfl))).drew
        have p0 := DW.roots.1
        have rr := lt_of_block DW.blk
        obtain ⟨x0, x1, x2, x3, x4⟩ := DW.at hj2
        have zg0 := World.ownsRow.frozenAt DW.row.1 (j2 * 5)
        have zg1 := World.ownsRow.frozenAt DW.row.1 (j2 * 5 + 1)
        have zg2 := World.ownsRow.frozenAt DW.row.1 (j2 * 5 + 2)
        have zg3 := World.ownsRow.frozenAt DW.row.1 (j2 * 5 + 3)
        have zg4 := World.ownsRow.frozenAt DW.row.1 (j2 * 5 + 4)
        have y0 : wr.cell? ⟨w3.heap.size, 0, none⟩ = some (.string s) := blk_cell hblk 0
        have y1 : wr.cell? ⟨w3.heap.size, 1, none⟩ = some (.slice aN q cN) := blk_cell hblk 1
        have y2 : wr.cell? ⟨w3.heap.size, 2, none⟩ = some (.slice none 0 0) := blk_cell hblk 2
        have y3 : wr.cell? ⟨w3.heap.size, 3, none⟩ = some (.slice none 0 0) := blk_cell hblk 3
        have y4 : wr.cell? ⟨w3.heap.size, 4, none⟩ = some (.bool false) := blk_cell hblk 4
        have hfl := lt_of_block hblk
        clear hblk hown hb hlow DW DJ hcp hgt hrowN hset1
        generalize E2[j2].1 = X at *
        obtain ⟨xn, xv, xs, xw, xu⟩ := X
        simp only at x0 x1 x2 x3 x4
        go_wp2
        go_region
        go_wp2_with fail
        refine HS.out.mono ?_
        rintro e w5 ⟨rfl, ⟨f5, D5⟩, hc5⟩
        rw [List.set_set, sync_loaded] at D5
        have HD5 := hid D5
        have HC5 := hid (HCP.out.trans hc5)
        have HS5 := hid (HSET.out f5 (loadedF l.data.toList))
        clear D5 hc5 HS HCP HSET
        go_wp2
        go_ret
        refine ⟨ret_i (by rw [hld.out]), ?_⟩
        rw [hld.out]
        exact ⟨⟨_, _, _, _, _, HD5.out, HS5.out⟩, HC5.out⟩
  · rw [hE] at hget
    have hlen : M.fs.length = E.length := by rw [← hE, dir_len]
    by_cases hE8 : 8 ≤ E.length
    · have hld : Hid (M.load s.data.toList l.data.toList = (12, M)) := hid (by unfold Mod.load; rw [if_neg HFIT.out, if_pos (by unfold holdsB; rw [hget, decide_eq_false (by omega)]; rfl)])
      have HO := hid (show RefOut R w r M w from ⟨⟨_, E, a, k, m, H.out, hE⟩, Chg.refl _ _⟩)
      clear hp hget
      go_wp2
      go_ret
      exact ⟨ret_i (by rw [hld.out]), by rw [hld.out]; exact HO.out⟩
    · have hld : Hid (M.load s.data.toList l.data.toList = (0, ⟨M.c, ins M.fs s.data.toList (loadedF l.data.toList)⟩)) := hid (by unfold Mod.load; rw [if_neg HFIT.out, if_neg (by unfold holdsB; rw [decide_eq_true (show M.fs.length < 8 by omega)]; simp)])
      clear hp hget hlen
      have hR1 : Hid (∀ b, w.heap.size ≤ b → R b) := hid hR
      clear hR
      go_wp2_with fail
      refine (made_any H.out hR1.out (by omega) (by rw [hE]; exact hrise.out) s).mono ?_
      rintro e w3 ⟨j2, v2, E2, rfl, D2, ⟨hj2, hE2⟩, hset, hl2, hc2⟩
      rw [hE] at hE2 hset
      have hNN : E2[j2].2.1 = s.data.toList := by rw [hE2]
      obtain ⟨ao2, cap2, hv2, hao2⟩ := row_shape D2.row.1
      obtain ⟨g2, hg2, -⟩ := hao2 (by omega)
      subst hg2
      subst hv2
      have HD2 := hid D2
      have HC2 := hid hc2
      have HSET := hid hset
      have hR3 : Hid (∀ b, w3.heap.size ≤ b → R b) := hid (fun b hb => hR1.out b (Nat.le_trans hc2.size hb))
      have H0 := hid (load_none w3 s l.data.toList)
      clear D2 hc2 hset hao2 hE2 hNN
      go_wp2
      go_loopw [9] (fun i wr => ∃ q : Nat, q ≤ K ∧ i = .int .i64 (q * 256 : Nat) ∧ LoadR w3 s l.data.toList q wr) (fun i _ => K * 256 - (intOf i).toNat)
      case atStart => exact ⟨0, Nat.zero_le _, rfl, H0.out⟩
      case round =>
        obtain ⟨q, hq, rfl, hLd⟩ := hrel
        have HLd := hid hLd
        clear hLd
        by_cases hlt : q < K
        · have hlt2 : q * 256 < l.size := by have := HL.out; have := HZ.out; omega
          by_cases h256 : 256 < l.size - q * 256
          · obtain ⟨w1, hmk, hcv, hb1⟩ := make_conv wr (0) (by omega)
            have he : ((0 : Nat) : Int) = 256 - ((min 256 (l.size - q * 256) : Nat) : Int) := by omega
            rw [he] at hmk
            obtain ⟨aq, cq, a2, c2, w6, hr, lt1, x1, x6, f6, hN⟩ := load_ready HLd.out (by rw [HK.out]; exact hlt) (by rw [HK.out]; exact HM.out) hb1 ((l.extract (q * 256) l.size).extract 0 256 ++ Part.zerosS 0) (part_full l q h256)
            have HRn := hid hr
            have HN := hid hN
            clear hr hN hb1
            have hz : ¬ 9223372036854775807 < min 256 (l.size - q * 256) + (Part.zerosS 0).size := by rw [Part.zerosS_size]; omega
            clear he
            go_wp2_with (at_builtin; refine wpList_append_run rfl (.tmp 65) (.tmp 68) tCs tCs rfl _ _ (by simp [Act.eval]) (by simp [Act.eval]) HRn.out ?_)
            go_roundw
            case rel => exact ⟨q + 1, by omega, congrArg (Value.int .i64) (by omega), HN.out⟩
            case measure => simp [intOf]; omega
          · obtain ⟨w1, hmk, hcv, hb1⟩ := make_conv wr (256 - (l.size - q * 256)) (by omega)
            have he : ((256 - (l.size - q * 256) : Nat) : Int) = 256 - ((l.size - q * 256 : Nat) : Int) := by omega
            rw [he] at hmk
            obtain ⟨aq, cq, a2, c2, w6, hr, lt1, x1, x6, f6, hN⟩ := load_ready HLd.out (by rw [HK.out]; exact hlt) (by rw [HK.out]; exact HM.out) hb1 (l.extract (q * 256) l.size ++ Part.zerosS (256 - (l.size - q * 256))) (part_short l q h256)
            have HRn := hid hr
            have HN := hid hN
            clear hr hN hb1
            have hz : ¬ 9223372036854775807 < l.size - q * 256 + (Part.zerosS (256 - (l.size - q * 256))).size := by rw [Part.zerosS_size]; omega
            clear he
            go_wp2_with (at_builtin; refine wpList_append_run rfl (.tmp 65) (.tmp 68) tCs tCs rfl _ _ (by simp [Act.eval]) (by simp [Act.eval]) HRn.out ?_)
            go_roundw
            case rel => exact ⟨q + 1, by omega, congrArg (Value.int .i64) (by omega), HN.out⟩
            case measure => simp [intOf]; omega
        · have hge : ¬ q * 256 < l.size := by have := HL.out; have := HZ.out; omega
          have hqK : q = K := by omega
          subst hqK
          obtain ⟨vN, hblk, hown, hb, hlow⟩ := HLd.out
          obtain ⟨aN, cN, hvN, -⟩ := row_shape hown
          subst hvN
          rw [← HK.out, List.take_length] at hown
          have DW := HD2.out.kept (F := fun _ => False) (Chg.of_below hb) (fun h => h) (fun _ _ h => h) (Apart.none w3)
          have DJ : DiskJ R (putW wr g2 j2 ⟨s, .slice aN q cN, .slice none 0 0, .slice none 0 0, false⟩) r (.slice (some ⟨g2, 0, none⟩) (E2.set j2 (⟨s, .slice aN q cN, .slice none 0 0, .slice none 0 0, false⟩, (s.data.toList, loadedF l.data.toList))).length cap2) (E2.set j2 (⟨s, .slice aN q cN, .slice none 0 0, .slice none 0 0, false⟩, (s.data.toList, loadedF l.data.toList))) M.c a k m j2 := by
            rw [List.length_set]
            exact DW.raw hj2 _ _
          have hcp := putW_chg wr g2 j2 ⟨s, .slice aN q cN, .slice none 0 0, .slice none 0 0, false⟩
          obtain ⟨curg, hgt⟩ := row_type DW.row.1 (g := g2) rfl
          have hrowN : Row R (putW wr g2 j2 ⟨s, .slice aN q cN, .slice none 0 0, .slice none 0 0, false⟩) tC 3 (.slice aN q cN) (loadedF l.data.toList).ps.length (nowsC (loadedF l.data.toList).ps) := by
            refine ⟨?_, fun g hg => hR3.out g (hlow g hg)⟩
            have := row_kept hown hcp (fun g hg e => by
              subst e
              obtain ⟨cur, h2⟩ := row_type hown hg
              rw [hgt] at h2
              simp only [Option.some.injEq, Obj.cells.injEq] at h2
              exact absurd h2.2.1 (by decide))
            rw [HK.out] at this ⊢
            exact this
          have hset1 : (E2.set j2 (⟨s, .slice aN q cN, .slice none 0 0, .slice none 0 0, false⟩, (s.data.toList, loadedF l.data.toList)))[j2]'(by rw [List.length_set]; exact hj2) = (⟨s, .slice aN q cN, .slice none 0 0, .slice none 0 0, false⟩, (s.data.toList, loadedF l.data.toList)) := List.getElem_set_self _
          have HS := hid (settle_raw DJ.drew (fun b hb' => hR3.out b (Nat.le_trans hb.size (Nat.le_trans hcp.size hb'))) (by rw [List.length_set]; exact hj2) (n := s.data.toList) (F := loadedF l.data.toList) (by rw [hset1]) (by rw [hset1]; exact hrowN.kept (F := fun _ => False) (Chg.refl _ _).drew (fun _ _ h => h)) (aS := none) (aW := none) (lS := 0) (cS := 0) (lW := 0) (cW := 0) (by rw [hset1]) (by rw [hset1]) (by rw [HK.out]; have := HM.out; omega))
          have HCP := hid ((HC2.out.trans (Chg.of_below hb : Chg R w3 wr)).trans (hcp.mono (fun k _ e => by rw [e]; exact DW.row.2 g2 rfl))).drew
          have p0 := DW.roots.1
          have rr := lt_of_block DW.blk
          obtain ⟨x0, x1, x2, x3, x4⟩ := DW.at hj2
          have zg0 := World.ownsRow.frozenAt DW.row.1 (j2 * 5)
          have zg1 := World.ownsRow.frozenAt DW.row.1 (j2 * 5 + 1)
          have zg2 := World.ownsRow.frozenAt DW.row.1 (j2 * 5 + 2)
          have zg3 := World.ownsRow.frozenAt DW.row.1 (j2 * 5 + 3)
          have zg4 := World.ownsRow.frozenAt DW.row.1 (j2 * 5 + 4)
          have y0 : wr.cell? ⟨w3.heap.size, 0, none⟩ = some (.string s) := blk_cell hblk 0
          have y1 : wr.cell? ⟨w3.heap.size, 1, none⟩ = some (.slice aN q cN) := blk_cell hblk 1
          have y2 : wr.cell? ⟨w3.heap.size, 2, none⟩ = some (.slice none 0 0) := blk_cell hblk 2
          have y3 : wr.cell? ⟨w3.heap.size, 3, none⟩ = some (.slice none 0 0) := blk_cell hblk 3
          have y4 : wr.cell? ⟨w3.heap.size, 4, none⟩ = some (.bool false) := blk_cell hblk 4
          have hfl := lt_of_block hblk
          clear hblk hown hb hlow DW DJ hcp hgt hrowN hset1
          generalize E2[j2].1 = X at *
          obtain ⟨xn, xv, xs, xw, xu⟩ := X
          simp only at x0 x1 x2 x3 x4
          go_wp2
          go_region
          go_wp2_with fail
          refine HS.out.mono ?_
          rintro e w5 ⟨rfl, ⟨f5, D5⟩, hc5⟩
          rw [List.set_set, sync_loaded] at D5
          have HD5 := hid D5
          have HC5 := hid (HCP.out.trans hc5)
          have HS5 := hid (HSET.out f5 (loadedF l.data.toList))
          clear D5 hc5 HS HCP HSET
          go_wp2
          go_ret
          refine ⟨ret_i (by rw [hld.out]), ?_⟩
          rw [hld.out]
          exact ⟨⟨_, _, _, _, _, HD5.out, HS5.out⟩, HC5.out⟩
end
end Ref
end Go.Proofs.YtgmbiiocjhkpdaaGreat
