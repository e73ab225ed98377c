/-
  The walk of LogKeeps: what was laid up to a commit, and synced, is found again, wherever the power goes.
-/
import Derived.Test.YtgmbiiocjhkpdaaGreatLogKeepsM
import Derived.Test.YtgmbiiocjhkpdaaGreatLogBackW
namespace Go.Proofs.YtgmbiiocjhkpdaaGreat
open Go.RowKit Go.Shelf
namespace Lo
open Num (hid)
open Disk (Mod Fil Sees Stays arm_sees off_sees on_sees)
open Mem (Bs bs LAt iV tI Chg ptr blk_cell blk_free blk_new blk_set blk_other blk_alloc row_kept row_shape row_type wpList_append_run)
variable {d m j b : Nat} {w w' : World}
theorem take_take_fi {q : List FI} {i n : Nat} (h : n ≤ i) : (q.take i).take n = q.take n := by rw [List.take_take, Nat.min_eq_left h]
theorem frames_take {O : Nat → Prop} {f : Value} {M : Mod} {l0 : List FI} {i n : Nat} (hp : PL O d m j b f M (frs (fms ((l0.take i).take n))) w) (hh : Holds (fms ((l0.take i).take n)) M) (hn : n ≤ i) : PL O d m j b f M (frs (fms (l0.take n))) w ∧ Holds (fms (l0.take n)) M := by
  rw [take_take_fi hn] at hp hh
  exact ⟨hp, hh⟩
theorem row_in {ao : Option Addr} {cap n : Nat} {l0 : List FI} (h : LAt 4 fiV w (.slice ao l0.length cap) l0) (hb : Below w.heap.size w w') (hn : n ≤ l0.length) : RowIn (Bl w.heap.size) w' (.slice ao n cap) (l0.take n) := fun _ hx => (h.take hn).on (hb.trans (bl_below hx hb.size))
theorem fm_len_take (l0 : List FI) {i : Nat} (h : i ≤ l0.length) : (l0.take i).length = i := by rw [List.length_take]; omega
theorem sure_next {l0 : List FI} {i A : Nat} (_h : i < l0.length) (hA : A ≤ i + 1) : (fms (l0.take (i + 1))).take (A - 1) = (fms (l0.take i)).take (A - 1) := by
  rw [← fms_take, ← fms_take, take_take_fi (by omega), take_take_fi (by omega)]
theorem sure_step {l0 : List FI} {i k : Nat} (h : i < l0.length) (hk : k < i + 1) : lastC ((fms (l0.take (i + 1))).take (k + 1)) = if (l0[k]'(by omega)).commit then k + 1 else lastC ((fms (l0.take (i + 1))).take k) := by
  have hl : k < (fms (l0.take (i + 1))).length := by rw [fms_len, List.length_take]; omega
  rw [lastC_step hl]
  have e : (fms (l0.take (i + 1)))[k].2.2 = (l0[k]'(by omega)).commit := by simp [fms, fm]
  rw [e]
/-- The loop: the frames that are laid, how many of them are sure. -/
structure KL (w0 : World) (d m j b : Nat) (l0 : List FI) (i s A : Nat) (wr : World) : Prop where
  k : K1 w0 d m j b (l0.take i) A wr
  sure : s = lastC ((fms (l0.take i)).take (A - 1))
  le : A ≤ i + 1
set_option maxRecDepth 100000 in
set_option maxHeartbeats 8000000 in
theorem keeps_walk (v0 : Value) (l0 : List FI) (a1 : Int) (v2 : Value) (l2 : List Int) (w : World) (h0 : LAt 4 fiV w v0 l0) (h2 : LAt 1 iV w v2 l2) :
    Calls Tryz.prog 5 #[v0, .int .i64 a1, v2] w fun e w' => e = .returned (.bool true) ∧ Below w.heap.size w w' := by
  obtain ⟨ao, cap, rfl, hlm, hcap0, -⟩ := h0.ways
  obtain ⟨ao2, cap2, hv2, -⟩ := h2.ways
  subst hv2
  have H0 := hid h0
  have H2 := hid h2
  have HC0 := hid hcap0
  have hm1 : (l0.length : Int) ≤ 9223372036854775807 := by unfold maxLen at hlm; omega
  have hrm : wrap64 ((IntKind.u64.wrap a1).tmod 90) = ((remN a1 90 : Nat) : Int) := remN_is a1 90 (by decide)
  have hrl := remN_lt a1 90 (by decide)
  generalize remN a1 90 = R at *
  have hR : (R : Int) < 90 := by omega
  have HROW : Hid (∀ wx, Below w.heap.size w wx → At4 ao l0 cap wx) := hid (fun wx hx => at4_of (H0.out.on hx))
  clear h0 h2 hlm hcap0 hrl
  obtain ⟨len0, hl0⟩ : ∃ x, l0.length = x := ⟨_, rfl⟩
  have HL0 := hid hl0
  rw [hl0] at hm1 ⊢
  clear hl0
  go_enter Tryz.func5, Tryz.ntmps5
  go_wp2_with fail
  refine (awake_any w).mono ?_
  rintro e w1 ⟨rfl, hb1⟩
  have HB1 := hid hb1
  clear hb1
  go_wp2_with fail
  refine (new_sees 200 w1).mono ?_
  rintro e w2 ⟨d, m, rfl, hs, hb⟩
  have HS2 : Hid (Sees (Bl w.heap.size) d m (Mod.new 200) w2) := hid (hs.fewer (fun k hk => Nat.lt_of_lt_of_le hk HB1.out.size))
  have HB2 := hid (HB1.out.trans (hb.mono HB1.out.size))
  clear hs hb HB1
  have ho := open_any_ HS2.out
  rw [(open_none (l := []) (new_dir 200) (new_calm 200) rfl).1] at ho
  have HO := hid ho
  clear ho
  go_wp2_with fail
  refine HO.out.mono ?_
  rintro e w3 ⟨_, j, b, f3, rfl, hp, hs⟩
  have HP3 := hid hp
  have HB3 := hid (HB2.out.trans (bl_below hs HB2.out.size))
  clear hp hs HS2 HB2 HO
  go_wp2_with fail
  refine (arm_sees HP3.out.disk (1 + (R : Int)) 2 0 (by omega) (by decide)).mono ?_
  rintro e w4 ⟨rfl, ha, hs⟩
  have HK4 : Hid (KL w d m j b l0 0 0 0 w4) := hid ⟨⟨⟨f3, _, none, HP3.out.over ha hs, new_dir 200, stands_none⟩, HB3.out.trans (bl_below (PL.stays hs) HB3.out.size)⟩, rfl, Nat.zero_le _⟩
  clear ha hs HP3 HB3
  go_wp2_with fail
  go_loopw [10, 11, 12] (fun lv sv iv wr => ∃ i s A : Nat, i ≤ len0 ∧ i ≤ 40 ∧ lv = .int .i64 i ∧ sv = .int .i64 s ∧ iv = .int .i64 i ∧ Hid (KL w d m j b l0 i s A wr)) (fun _ _ iv _ => 40 - (intOf iv).toNat)
  case atStart => exact ⟨0, 0, 0, Nat.zero_le _, Nat.zero_le _, rfl, rfl, rfl, HK4⟩
  case round =>
    obtain ⟨i, s, A, hi0, hi40, rfl, rfl, rfl, HKL⟩ := hrel
    obtain ⟨hK, hsure, hAi⟩ := HKL.out
    have HK := hid hK
    have HI40 : Hid (i ≤ 40) := hid hi40
    have HIN : Hid (i ≤ len0) := hid hi0
    have HIL : Hid (i ≤ l0.length) := hid (by have := HL0.out; omega)
    have HQL : Hid ((l0.take i).length = i) := hid (fm_len_take l0 HIL.out)
    have HSV := hid hsure
    have HAI := hid hAi
    clear hK hsure hAi
    by_cases hlt : (i : Int) < (len0 : Int) ∧ (i : Int) < 40
    · obtain ⟨hl2a, hl2b⟩ := hlt
      have HLT : Hid (i < 40) := hid (by omega)
      have hil : i < l0.length := by have := HL0.out; omega
      have HILT : Hid (i < l0.length) := hid hil
      have HI1 : Hid (i + 1 ≤ len0) := hid (by omega)
      have hat := HROW.out wr HK.out.below i hil
      have htk := take_succ_fi hil
      have HTK := hid htk
      have HSN : Hid ((fms (l0.take (i + 1))).take (A - 1) = (fms (l0.take i)).take (A - 1)) := hid (sure_next hil HAI.out)
      have HAD : Hid (∀ w4, Below wr.heap.size wr w4 → Calls Tryz.prog 12 #[ptr j, .int .i64 (numOf l0[i].n : Nat), .string (bs (pgL l0[i].fill)), .bool l0[i].commit] w4 fun e w' => (e = .returned (.int .i64 0) ∧ K1 w d m j b (l0.take (i + 1)) A w') ∨ ∃ r : Int, r ≠ 0 ∧ e = .returned (.int .i64 r) ∧ K1 w d m j b (l0.take i) A w') := hid (fun w4 hb => by
        rw [htk]
        exact k_add (HK.out.on hb) l0[i] (by rw [HQL.out]; omega))
      obtain ⟨g, o, rfl, hg, hic, c0, c1, c2, c3⟩ := hat
      have HSY : Hid (∀ wx, Below w.heap.size w wx → wx.cell? ⟨g, o + i * 4 + 3, none⟩ = some (.bool l0[i].sync)) := hid (fun wx hb => by
        obtain ⟨g', o', e', _, _, _, _, _, h3⟩ := HROW.out wx hb i hil
        cases e'
        exact h3)
      clear htk
      generalize l0[i] = x at *
      have CX : Hid (∀ wx, Below wr.heap.size wr wx → wx.cell? ⟨g, o + i * 4, none⟩ = some (.int .i64 x.n) ∧ wx.cell? ⟨g, o + i * 4 + 1, none⟩ = some (.int .u8 (x.fill.toNat : Int)) ∧ wx.cell? ⟨g, o + i * 4 + 2, none⟩ = some (.bool x.commit) ∧ wx.cell? ⟨g, o + i * 4 + 3, none⟩ = some (.bool x.sync)) := hid (fun wx hx => ⟨(hx.cell (p := ⟨g, o + i * 4, none⟩) hg).trans c0, (hx.cell (p := ⟨g, o + i * 4 + 1, none⟩) hg).trans c1, (hx.cell (p := ⟨g, o + i * 4 + 2, none⟩) hg).trans c2, (hx.cell (p := ⟨g, o + i * 4 + 3, none⟩) hg).trans c3⟩)
      clear c0 c1 c2 c3 hil
      go_upto_region 13 with fail
      refine Tail.wp_region_quiet_tail 17 (fun wx => Below wr.heap.size wr wx) (by kernel_rfl) (by kernel_rfl) (below_dN (Below.refl _ wr) 1) ?_
      simp only [List.take_succ_cons, List.take_zero, List.drop_succ_cons, List.drop_zero]
      go_big_quiet_want
      go_big_quiet_op
      go_big_quiet_on
      go_big_quiet_want
      go_big_quiet_op
      go_big_quiet_on
      go_big_quiet_want
      go_big_quiet_op
      go_big_quiet_on
      go_big_quiet_want
      go_big_quiet_op
      apply Exists.intro
      refine ⟨fun _ _ => ?_, ?_⟩
      · with_reducible exact Eq.refl _
      go_big_quiet_on
      go_big_quiet_want
      go_big_quiet_op
      refine ⟨.agg #[.int .i64 x.n, .int .u8 (x.fill.toNat : Int), .bool x.commit, .bool x.sync], fun wx hx => ?_, ?_⟩
      · obtain ⟨c0, c1, c2, c3⟩ := CX.out wx hx; simp [go_sem, c0, c1, c2, c3]
      go_big_quiet_on
      go_big_quiet_want
      go_big_quiet_op
      refine ⟨.int .i64 (numOf x.n : Nat), fun wx hx => ?_, ?_⟩
      · refine (number_any x wx).mono ?_
        rintro e w9 ⟨rfl, hb9⟩
        exact ⟨rfl, hx.trans (hb9.mono hx.size)⟩
      go_big_quiet_on
      go_big_quiet_want
      go_big_quiet_op
      go_big_quiet_on
      go_big_quiet_want
      go_big_quiet_op
      go_big_quiet_on
      go_big_quiet_want
      go_big_quiet_op
      apply Exists.intro
      refine ⟨fun _ _ => ?_, ?_⟩
      · with_reducible exact Eq.refl _
      go_big_quiet_on
      go_big_quiet_want
      go_big_quiet_op
      apply Exists.intro
      refine ⟨fun _ _ => ?_, ?_⟩
      · with_reducible exact Eq.refl _
      go_big_quiet_on
      go_big_quiet_want
      go_big_quiet_op
      refine ⟨.int .u8 (x.fill.toNat : Int), fun wx hx => ?_, ?_⟩
      · have c := (CX.out wx hx).2.1
        simp [go_sem, c]
      go_big_quiet_on
      go_big_quiet_want
      go_big_quiet_op
      refine ⟨.string (bs (pgL x.fill)), fun wx hx => ?_, ?_⟩
      · refine (page14_any x.fill wx).mono ?_
        rintro e w9 ⟨rfl, hb9⟩
        exact ⟨rfl, hx.trans (hb9.mono hx.size)⟩
      go_big_quiet_on
      go_big_quiet_want
      go_big_quiet_op
      go_big_quiet_on
      go_big_quiet_want
      go_big_quiet_op
      go_big_quiet_on
      go_big_quiet_want
      go_big_quiet_op
      apply Exists.intro
      refine ⟨fun _ _ => ?_, ?_⟩
      · with_reducible exact Eq.refl _
      go_big_quiet_on
      go_big_quiet_want
      go_big_quiet_op
      apply Exists.intro
      refine ⟨fun _ _ => ?_, ?_⟩
      · with_reducible exact Eq.refl _
      go_big_quiet_on
      go_big_quiet_want
      go_big_quiet_op
      refine ⟨.bool x.commit, fun wx hx => ?_, ?_⟩
      · have c := (CX.out wx hx).2.2.1
        simp [go_sem, c]
      go_big_quiet_on
      refine wpQuiet_nil ?_
      intro w4 hb4
      have HADW := hid (HAD.out w4 hb4)
      clear hb4
      go_wp2_with fail
      refine HADW.out.mono ?_
      rintro e w5 (⟨rfl, h5⟩ | ⟨r5, hr5, rfl, h5⟩)
      case inr =>
        have HK := hid h5
        have hr51 : (r5 != 0) = true := by simp [hr5]
        clear h5 hr5
        rw [HSV.out]
        go_wp2_with fail
        refine (k_off HK.out).mono ?_
        rintro e w20 ⟨rfl, M, L, h20, hf, hS⟩
        have H20 := hid h20
        have HF := hid hf
        have HS := hid hS
        clear h20 hf hS
        go_wp2_with fail
        refine (k_on H20.out H2.out).mono ?_
        rintro e w21 ⟨rfl, h21⟩
        have H21 := hid h21
        clear h21 H20
        go_wp2_with fail
        refine (k_arm H21.out 0 0 0 (by decide) (by decide)).mono ?_
        rintro e w22 ⟨rfl, h22⟩
        have H22 := hid h22
        clear h22 H21
        go_wp2_with fail
        refine (k_open H22.out HF.out HS.out).mono ?_
        rintro e w23 ⟨j', b', f', n, M', rfl, hle, hge, hlast, hp, hh, hb23⟩
        have HP := hid hp
        have HH := hid hh
        have HB23 := hid hb23
        have hln := len_any hp
        rw [frs_len, fms_len, List.length_take, Nat.min_eq_left hle] at hln
        have HLN := hid hln
        have HSU : Hid (((lastC ((fms (l0.take i)).take (A - 1)) : Nat) : Int) ≤ (n : Int)) := hid (by omega)
        have HNI : Hid ((n : Int) ≤ (i : Int)) := hid (by rw [HQL.out] at hle; omega)
        have hsu := HSU.out
        have hni := HNI.out
        have HLA := hid hlast
        have HNL : Hid (n ≤ l0.length) := hid (by have := HIL.out; omega)
        generalize lastC ((fms (l0.take i)).take (A - 1)) = S at *
        clear hp hh hb23 hle hge hlast hln
        go_wp2_with fail
        refine HLN.out.mono ?_
        rintro e w24 ⟨rfl, rfl⟩
        go_wp2_with fail
        refine HLN.out.mono ?_
        rintro e w25 ⟨rfl, rfl⟩
        go_wp2_with fail
        refine HLN.out.mono ?_
        rintro e w26 ⟨rfl, rfl⟩
        have HN2 := hid (frames_take HP.out HH.out (by have := HNI.out; omega))
        have HRI := hid (row_in H0.out HB23.out (n := n) (by have := HNL.out; omega))
        have hncap : (n : Int) ≤ (cap : Int) := by have := HNL.out; have := HC0.out; omega
        by_cases hn0 : (0 : Int) < (n : Int)
        · obtain ⟨x, hx, hxc⟩ := HLA.out (by omega)
          have hnl : n - 1 < l0.length := by have := HNL.out; omega
          obtain ⟨g2, o2, e2, hg, hic, c0, c1, c2, c3⟩ := HROW.out w23 HB23.out (n - 1) hnl
          cases e2
          have hxe : l0[n - 1].commit = true := by
            rw [List.getElem?_take_of_lt (by have := HNI.out; omega), List.getElem?_eq_getElem hnl] at hx
            injection hx with hx
            rw [hx]; exact hxc
          rw [hxe] at c2
          have hn1 : (n : Int) - 1 = ((n - 1 : Nat) : Int) := by omega
          have hw1 : wrap64 ((n : Int) - 1) = ((n - 1 : Nat) : Int) := by rw [Num.wrap_i]; have := HNI.out; have := HI40.out; omega
          have hlen1 : ((n - 1 : Nat) : Int) < (len0 : Int) := by have := HL0.out; omega
          have hp1 : ¬ ((n - 1 : Nat) : Int) < 0 := by omega
          clear c0 c1 c3 hx hxc hxe hnl
          generalize n - 1 = n1 at *
          go_wp2_with fail
          refine (holds_any HN2.out.1 HN2.out.2 (by rw [List.length_take]; have := HNI.out; have := HI40.out; omega) HRI.out).mono ?_
          rintro e w27 ⟨rfl, hI⟩
          have HEND := hid (HB23.out.trans (bl_below hI.st HB23.out.size))
          clear hI
          go_wp2
          go_ret
          exact ⟨rfl, HEND.out⟩
        · go_wp2_with fail
          refine (holds_any HN2.out.1 HN2.out.2 (by rw [List.length_take]; have := HNI.out; have := HI40.out; omega) HRI.out).mono ?_
          rintro e w27 ⟨rfl, hI⟩
          have HEND := hid (HB23.out.trans (bl_below hI.st HB23.out.size))
          clear hI
          go_wp2
          go_ret
          exact ⟨rfl, HEND.out⟩
      case inl =>
      have HK5 := hid h5
      have hil1 : (l0.take (i + 1)) ≠ [] := by
        have h1 := HTK.out
        rw [h1]; simp
      have HNE := hid hil1
      have HQL1 : Hid ((l0.take (i + 1)).length = i + 1) := hid (fm_len_take l0 HILT.out)
      have hsy := HSY.out w5 h5.below
      clear h5 hil1
      have hwi : wrap64 ((i : Int) + 1) = (i : Int) + 1 := by rw [Num.wrap_i]; omega
      cases hsb : x.sync with
      | false =>
        rw [hsb] at hsy
        have HNX : Hid (KL w d m j b l0 (i + 1) s A w5) := hid ⟨HK5.out, by rw [HSN.out]; exact HSV.out, by have := HAI.out; omega⟩
        clear hsb
        go_wp2
        go_roundw
        case rel => exact ⟨i + 1, s, A, HI1.out, HLT.out, by go_num, rfl, by go_num, HNX⟩
        case measure => exact meas_lt' HLT.out
      | true =>
        rw [hsb] at hsy
        clear hsb
        go_wp2_with fail
        refine (k_sync HK5.out HNE.out).mono ?_
        rintro e w6 (⟨rfl, h6⟩ | ⟨r6, hr6, rfl, h6⟩)
        case inr =>
          have HK := hid h6
          have hr61 : (r6 != 0) = true := by simp [hr6]
          have HQL := HQL1
          have HIL : Hid (i + 1 ≤ l0.length) := hid HILT.out
          have HI40 : Hid (i + 1 ≤ 40) := hid HLT.out
          have HSV2 : Hid (s = lastC ((fms (l0.take (i + 1))).take (A - 1))) := hid (by rw [HSN.out]; exact HSV.out)
          clear h6 hr6 hsy
          rw [HSV2.out]
          go_wp2_with fail
          refine (k_off HK.out).mono ?_
          rintro e w20 ⟨rfl, M, L, h20, hf, hS⟩
          have H20 := hid h20
          have HF := hid hf
          have HS := hid hS
          clear h20 hf hS
          go_wp2_with fail
          refine (k_on H20.out H2.out).mono ?_
          rintro e w21 ⟨rfl, h21⟩
          have H21 := hid h21
          clear h21 H20
          go_wp2_with fail
          refine (k_arm H21.out 0 0 0 (by decide) (by decide)).mono ?_
          rintro e w22 ⟨rfl, h22⟩
          have H22 := hid h22
          clear h22 H21
          go_wp2_with fail
          refine (k_open H22.out HF.out HS.out).mono ?_
          rintro e w23 ⟨j', b', f', n, M', rfl, hle, hge, hlast, hp, hh, hb23⟩
          have HP := hid hp
          have HH := hid hh
          have HB23 := hid hb23
          have hln := len_any hp
          rw [frs_len, fms_len, List.length_take, Nat.min_eq_left hle] at hln
          have HLN := hid hln
          have HSU : Hid (((lastC ((fms (l0.take (i + 1))).take (A - 1)) : Nat) : Int) ≤ (n : Int)) := hid (by omega)
          have HNI : Hid ((n : Int) ≤ ((i : Int) + 1)) := hid (by rw [HQL.out] at hle; omega)
          have hsu := HSU.out
          have hni := HNI.out
          have HLA := hid hlast
          have HNL : Hid (n ≤ l0.length) := hid (by have := HIL.out; omega)
          generalize lastC ((fms (l0.take (i + 1))).take (A - 1)) = S at *
          clear hp hh hb23 hle hge hlast hln
          go_wp2_with fail
          refine HLN.out.mono ?_
          rintro e w24 ⟨rfl, rfl⟩
          go_wp2_with fail
          refine HLN.out.mono ?_
          rintro e w25 ⟨rfl, rfl⟩
          go_wp2_with fail
          refine HLN.out.mono ?_
          rintro e w26 ⟨rfl, rfl⟩
          have HN2 := hid (frames_take HP.out HH.out (by have := HNI.out; omega))
          have HRI := hid (row_in H0.out HB23.out (n := n) (by have := HNL.out; omega))
          have hncap : (n : Int) ≤ (cap : Int) := by have := HNL.out; have := HC0.out; omega
          by_cases hn0 : (0 : Int) < (n : Int)
          · obtain ⟨x, hx, hxc⟩ := HLA.out (by omega)
            have hnl : n - 1 < l0.length := by have := HNL.out; omega
            obtain ⟨g2, o2, e2, hg, hic, c0, c1, c2, c3⟩ := HROW.out w23 HB23.out (n - 1) hnl
            cases e2
            have hxe : l0[n - 1].commit = true := by
              rw [List.getElem?_take_of_lt (by have := HNI.out; omega), List.getElem?_eq_getElem hnl] at hx
              injection hx with hx
              rw [hx]; exact hxc
            rw [hxe] at c2
            have hn1 : (n : Int) - 1 = ((n - 1 : Nat) : Int) := by omega
            have hw1 : wrap64 ((n : Int) - 1) = ((n - 1 : Nat) : Int) := by rw [Num.wrap_i]; have := HNI.out; have := HI40.out; omega
            have hlen1 : ((n - 1 : Nat) : Int) < (len0 : Int) := by have := HL0.out; omega
            have hp1 : ¬ ((n - 1 : Nat) : Int) < 0 := by omega
            clear c0 c1 c3 hx hxc hxe hnl
            generalize n - 1 = n1 at *
            go_wp2_with fail
            refine (holds_any HN2.out.1 HN2.out.2 (by rw [List.length_take]; have := HNI.out; have := HI40.out; omega) HRI.out).mono ?_
            rintro e w27 ⟨rfl, hI⟩
            have HEND := hid (HB23.out.trans (bl_below hI.st HB23.out.size))
            clear hI
            go_wp2
            go_ret
            exact ⟨rfl, HEND.out⟩
          · go_wp2_with fail
            refine (holds_any HN2.out.1 HN2.out.2 (by rw [List.length_take]; have := HNI.out; have := HI40.out; omega) HRI.out).mono ?_
            rintro e w27 ⟨rfl, hI⟩
            have HEND := hid (HB23.out.trans (bl_below hI.st HB23.out.size))
            clear hI
            go_wp2
            go_ret
            exact ⟨rfl, HEND.out⟩
        case inl =>
        rw [HQL1.out] at h6
        have HK6 := hid h6
        have HS0 : Hid (s = lastC ((fms (l0.take (i + 1))).take s) ∧ s ≤ i + 1) := hid (by
          have h1 : s = lastC ((fms (l0.take (i + 1))).take (A - 1)) := by rw [HSN.out]; exact HSV.out
          have h2 := lastC_fix (fms (l0.take (i + 1))) (A - 1)
          rw [← h1] at h2
          refine ⟨h2.symm, ?_⟩
          have h3 := lastC_le ((fms (l0.take (i + 1))).take (A - 1))
          rw [← h1, List.length_take, fms_len, HQL1.out] at h3
          omega)
        clear h6 hsy
        go_wp2_with fail
        go_loopw [11, 13] (fun sv kv wx => ∃ k s' : Nat, k ≤ i + 1 ∧ sv = .int .i64 s' ∧ kv = .int .i64 k ∧ wx = w6 ∧ Hid (s' = lastC ((fms (l0.take (i + 1))).take k))) (fun _ kv _ => i + 1 - (intOf kv).toNat)
        case atStart => exact ⟨s, s, HS0.out.2, rfl, rfl, rfl, hid HS0.out.1⟩
        case round =>
          obtain ⟨k, s', hk, rfl, rfl, rfl, HSK⟩ := hrel
          by_cases hki : (k : Int) < (i : Int) + 1
          · have HKI : Hid (k < i + 1) := hid (by omega)
            have hkl : k < l0.length := by have := HILT.out; omega
            have hatk := HROW.out wr HK6.out.below k hkl
            obtain ⟨g', o', e', hg', hkc, -, -, cc, -⟩ := hatk
            cases e'
            have hst := sure_step HILT.out HKI.out
            have hk0 : (k : Int) < (len0 : Int) := by have := HL0.out; omega
            cases hcm : (l0[k]).commit with
            | true =>
              rw [hcm] at cc hst
              have HST : Hid (k + 1 = lastC ((fms (l0.take (i + 1))).take (k + 1))) := hid (by rw [hst, if_pos rfl])
              clear hst hcm hkl
              go_wp2
              go_roundw
              case rel => exact ⟨k + 1, k + 1, HKI.out, by go_num, by go_num, trivial, HST⟩
              case measure => exact meas_lt' HKI.out
            | false =>
              rw [hcm] at cc hst
              have HST : Hid (s' = lastC ((fms (l0.take (i + 1))).take (k + 1))) := hid (by rw [hst, if_neg (by decide)]; exact HSK.out)
              clear hst hcm hkl
              go_wp2
              go_roundw
              case rel => exact ⟨k + 1, s', HKI.out, rfl, by go_num, trivial, HST⟩
              case measure => exact meas_lt' HKI.out
          · obtain rfl : k = i + 1 := by omega
            have HNX : Hid (KL w d m j b l0 (i + 1) s' (i + 1 + 1) wr) := hid ⟨HK6.out, by rw [Nat.add_sub_cancel]; exact HSK.out, Nat.le_refl _⟩
            go_wp2
            go_roundw
            case rel => exact ⟨i + 1, s', i + 1 + 1, HI1.out, HLT.out, by go_num, rfl, by go_num, HNX⟩
            case measure => exact meas_lt' HLT.out
    · have hbb : ¬ (i : Int) < (len0 : Int) ∨ ((i : Int) < (len0 : Int) ∧ ¬ (i : Int) < 40) := by omega
      clear hlt
      rw [HSV.out]
      rcases hbb with hbb | ⟨hbb1, hbb2⟩
      all_goals
        go_wp2_with fail
        refine (k_off HK.out).mono ?_
        rintro e w20 ⟨rfl, M, L, h20, hf, hS⟩
        have H20 := hid h20
        have HF := hid hf
        have HS := hid hS
        clear h20 hf hS
        go_wp2_with fail
        refine (k_on H20.out H2.out).mono ?_
        rintro e w21 ⟨rfl, h21⟩
        have H21 := hid h21
        clear h21 H20
        go_wp2_with fail
        refine (k_arm H21.out 0 0 0 (by decide) (by decide)).mono ?_
        rintro e w22 ⟨rfl, h22⟩
        have H22 := hid h22
        clear h22 H21
        go_wp2_with fail
        refine (k_open H22.out HF.out HS.out).mono ?_
        rintro e w23 ⟨j', b', f', n, M', rfl, hle, hge, hlast, hp, hh, hb23⟩
        have HP := hid hp
        have HH := hid hh
        have HB23 := hid hb23
        have hln := len_any hp
        rw [frs_len, fms_len, List.length_take, Nat.min_eq_left hle] at hln
        have HLN := hid hln
        have HSU : Hid (((lastC ((fms (l0.take i)).take (A - 1)) : Nat) : Int) ≤ (n : Int)) := hid (by omega)
        have HNI : Hid ((n : Int) ≤ (i : Int)) := hid (by rw [HQL.out] at hle; omega)
        have hsu := HSU.out
        have hni := HNI.out
        have HLA := hid hlast
        have HNL : Hid (n ≤ l0.length) := hid (by have := HIL.out; omega)
        generalize lastC ((fms (l0.take i)).take (A - 1)) = S at *
        clear hp hh hb23 hle hge hlast hln
        go_wp2_with fail
        refine HLN.out.mono ?_
        rintro e w24 ⟨rfl, rfl⟩
        go_wp2_with fail
        refine HLN.out.mono ?_
        rintro e w25 ⟨rfl, rfl⟩
        go_wp2_with fail
        refine HLN.out.mono ?_
        rintro e w26 ⟨rfl, rfl⟩
        have HN2 := hid (frames_take HP.out HH.out (by have := HNI.out; omega))
        have HRI := hid (row_in H0.out HB23.out (n := n) (by have := HNL.out; omega))
        have hncap : (n : Int) ≤ (cap : Int) := by have := HNL.out; have := HC0.out; omega
        by_cases hn0 : (0 : Int) < (n : Int)
        · obtain ⟨x, hx, hxc⟩ := HLA.out (by omega)
          have hnl : n - 1 < l0.length := by have := HNL.out; omega
          obtain ⟨g2, o2, e2, hg, hic, c0, c1, c2, c3⟩ := HROW.out w23 HB23.out (n - 1) hnl
          cases e2
          have hxe : l0[n - 1].commit = true := by
            rw [List.getElem?_take_of_lt (by have := HNI.out; omega), List.getElem?_eq_getElem hnl] at hx
            injection hx with hx
            rw [hx]; exact hxc
          rw [hxe] at c2
          have hn1 : (n : Int) - 1 = ((n - 1 : Nat) : Int) := by omega
          have hw1 : wrap64 ((n : Int) - 1) = ((n - 1 : Nat) : Int) := by rw [Num.wrap_i]; have := HNI.out; have := HI40.out; omega
          have hlen1 : ((n - 1 : Nat) : Int) < (len0 : Int) := by have := HL0.out; omega
          have hp1 : ¬ ((n - 1 : Nat) : Int) < 0 := by omega
          clear c0 c1 c3 hx hxc hxe hnl
          generalize n - 1 = n1 at *
          go_wp2_with fail
          refine (holds_any HN2.out.1 HN2.out.2 (by rw [List.length_take]; have := HNI.out; have := HI40.out; omega) HRI.out).mono ?_
          rintro e w27 ⟨rfl, hI⟩
          have HEND := hid (HB23.out.trans (bl_below hI.st HB23.out.size))
          clear hI
          go_wp2
          go_ret
          exact ⟨rfl, HEND.out⟩
        · go_wp2_with fail
          refine (holds_any HN2.out.1 HN2.out.2 (by rw [List.length_take]; have := HNI.out; have := HI40.out; omega) HRI.out).mono ?_
          rintro e w27 ⟨rfl, hI⟩
          have HEND := hid (HB23.out.trans (bl_below hI.st HB23.out.size))
          clear hI
          go_wp2
          go_ret
          exact ⟨rfl, HEND.out⟩
end Lo
end Go.Proofs.YtgmbiiocjhkpdaaGreat
