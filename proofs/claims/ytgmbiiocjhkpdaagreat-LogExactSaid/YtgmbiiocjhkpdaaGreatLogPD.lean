/-
  Contract of the project's log: Add.
-/
import Derived.Test.YtgmbiiocjhkpdaaGreatLogPA
namespace Go.Proofs.YtgmbiiocjhkpdaaGreat
open Go.RowKit Go.Shelf
namespace Lo
open Num (hid)
open Disk (Mod Fil Sees Stays size_sees write_sees drop_sees sync_sees cut_sees read_sees)
open Mem (Bs bs tI Chg ptr blk_cell blk_free blk_new blk_set blk_other blk_alloc row_kept row_shape row_type)
variable {O O' : Nat → Prop} {d m j b : Nat} {f f' : Value} {M M' : Mod} {fs fs' : List Fr} {w w' : World}
theorem frameP_is (fs : List Fr) (n : Nat) (l : Bs) (c : Bool) (M : Mod) : frameP fs n l c M = if (M.write ln (fs.length + 1 : Nat) (frameL (lgOf fs) n l c)).1 = 0 then (0, fs ++ [(n, sumL (frameL (lgOf fs) n l c))], (M.write ln (fs.length + 1 : Nat) (frameL (lgOf fs) n l c)).2) else ((M.write ln (fs.length + 1 : Nat) (frameL (lgOf fs) n l c)).1, fs, (M.write ln (fs.length + 1 : Nat) (frameL (lgOf fs) n l c)).2) := by
  unfold frameP
  rw [Nat.add_comm 1 fs.length]
  split
  · rename_i h; rw [h]
  · rfl
/-- The sum of the last sector is a number of 64 bits. -/
theorem PL.sum_lt (h : PL O d m j b f M fs w) : sumP fs < 18446744073709551616 := by
  rcases List.eq_nil_or_concat fs with e | ⟨r, x, e⟩
  · rw [e]; exact sumL_lt topL
  · rw [List.concat_eq_append] at e
    rw [e, sumP_snoc]
    exact h.sums x (by rw [e]; exact List.mem_append_right _ List.mem_cons_self)
theorem frame_len' (fs : List Fr) (n : Nat) {l : Bs} (hd : l.length = 232) (c : Bool) : (frameL (lgOf fs) n l c).length = 256 := by
  unfold frameL
  rw [Seal.seal_len, hd]
theorem close_frame (h : PL O d m j b f M fs w) (n : Nat) (hn : n < 4096) (l : Bs) (hd : l.length = 232) (c : Bool) (w : World) :
    Calls Tryz.prog 58 #[slV (kindOf c) n (sumP fs) l] w fun e w' => e = .returned (.tuple #[.string (bs (frameL (lgOf fs) n l c)), .int .i64 0]) ∧ Below w.heap.size w w' :=
  close_bs (kindOf c) n (sumP fs) (kindOf_lt c) (by omega) h.sum_lt l hd w
/-- The frame, behind the top. -/
structure AF (O : Nat → Prop) (d m j b : Nat) (f : Value) (fs : List Fr) (X : Int × List Fr × Mod) (w : World) (n : Nat) (l : Bs) (c : Bool) (wx : World) (M1 : Mod) : Prop where
  pl : PL O d m j b f M1 fs wx
  st : Stays O w wx
  eq : X = frameP fs n l c M1
set_option maxRecDepth 100000 in
set_option maxHeartbeats 4000000 in
theorem add_any (h : PL O d m j b f M fs w) (hl : fs.length < 15000) (n : Int) (l : Bs) (c : Bool) :
    Calls Tryz.prog 12 #[ptr j, .int .i64 n, .string (bs l), .bool c] w (Post3 O d m j b (addP fs n l c M) w) := by
  have hm : addP fs n l c M = if n < 0 ∨ 4096 ≤ n ∨ l.length ≠ 232 then (1, fs, M) else if (topP M).1 ≠ 0 then ((topP M).1, fs, (topP M).2) else frameP fs n.toNat l c (topP M).2 := rfl
  obtain ⟨X, hX⟩ : ∃ X, addP fs n l c M = X := ⟨_, rfl⟩
  rw [hX] at hm ⊢
  have H := hid h
  have c0 := h.c0
  have hsize : (bs l).size = l.length := bs_len rfl
  by_cases h0 : n < 0
  · have HM : Hid (X = (1, fs, M)) := hid (hm.trans (if_pos (Or.inl h0)))
    clear hm h hX
    go_enter Tryz.func12, Tryz.ntmps12
    go_wp2
    go_ret
    rw [HM.out]
    exact ⟨rfl, _, H.out, Disk.Stays.refl _ _⟩
  by_cases h1 : 4096 ≤ n
  · have HM : Hid (X = (1, fs, M)) := hid (hm.trans (if_pos (Or.inr (Or.inl h1))))
    clear hm h hX
    go_enter Tryz.func12, Tryz.ntmps12
    go_wp2
    go_ret
    rw [HM.out]
    exact ⟨rfl, _, H.out, Disk.Stays.refl _ _⟩
  by_cases h2 : l.length = 232
  case neg =>
    have HM : Hid (X = (1, fs, M)) := hid (hm.trans (if_pos (Or.inr (Or.inr h2))))
    have h2b : (((bs l).size : Int) != 232) = true := by rw [hsize]; simp; omega
    clear hm h2 h hX hsize
    go_enter Tryz.func12, Tryz.ntmps12
    go_wp2
    go_ret
    rw [HM.out]
    exact ⟨rfl, _, H.out, Disk.Stays.refl _ _⟩
  obtain ⟨N, rfl⟩ := Int.eq_ofNat_of_zero_le (show 0 ≤ n by omega)
  have hm2 : X = if (topP M).1 ≠ 0 then ((topP M).1, fs, (topP M).2) else frameP fs N l c (topP M).2 := hm.trans (if_neg (by omega))
  have h2b : (((bs l).size : Int) != 232) = false := by rw [hsize]; simp; omega
  have HD := hid h2
  have HM := hid hm2
  have HL := hid hl
  have HN : Hid (N < 4096) := hid (by omega)
  have HSZ := hid h.size_
  have HSL := hid (fun wx => sealed_any N (sumP fs) l c wx)
  have HCL := hid (fun wx => close_frame h N (by omega) l h2 c wx)
  have HTOP := hid top_any
  have HWT : Hid (∀ wx, PL O d m j b f M fs wx → _) := hid (fun wx hp => PL.write_ hp 0 topL topL_len)
  have HWF : Hid (∀ wx M1, PL O d m j b f M1 fs wx → _) := hid (fun wx M1 hp => PL.write_ hp (fs.length + 1) (frameL (lgOf fs) N l c) (frame_len' fs N h2 c))
  have HPN := hid (fun w => place_any fs.length (by omega) w)
  have HSF := hid (fun w => sum_bs (frame_len' fs N h2 c) w)
  have HFI := hid (frameP_is fs N l c)
  have HYL := hid (sumL_lt (frameL (lgOf fs) N l c))
  have hfew : fs.length ≤ 20000 := h.few
  obtain ⟨ao, cap, rfl⟩ := h.shape
  have D0 : Hid (∀ wx, Below w.heap.size w wx → wx.cell? ⟨j, 0, none⟩ = some (ptr d)) := hid (fun wx hx => (H.out.on hx).c0)
  clear h hX hm hm2 hl h2 hsize
  generalize frameL (lgOf fs) N l c = FB at *
  go_enter Tryz.func12, Tryz.ntmps12
  go_upto_if 33 with ((go_at_call 38; refine HSZ.out.mono ?_; rintro e w1 ⟨rfl, rfl⟩))
  go_cut [8, 9] from 33 to 42 (fun _ _ wx => ∃ M1, Hid (AF O d m j b (.slice ao fs.length cap) fs X w N l c wx M1))
  case first =>
    by_cases hsz : M.size ln < 0
    · have HTM : Hid (topP M = M.write ln 0 topL) := hid (if_pos hsz)
      have hsz1 : M.size ln < 0 := hsz
      generalize M.size ln = sz at *
      go_upto_region 6 with fail
      refine Tail.wp_region_quiet_tail 5 (fun wx => Below w.heap.size w wx) (by kernel_rfl) (by kernel_rfl) (below_dN (Below.refl _ w) 1) ?_
      simp only [List.take_succ_cons, List.take_zero, List.drop_succ_cons, List.drop_zero]
      go_big_quiet_want
      go_big_quiet_op
      go_big_quiet_on
      go_big_quiet_want
      go_big_quiet_op
      apply Exists.intro
      refine ⟨fun _ _ => ?_, ?_⟩
      · with_reducible exact Eq.refl _
      go_big_quiet_on
      go_big_quiet_want
      go_big_quiet_op
      apply Exists.intro
      refine ⟨fun _ _ => ?_, ?_⟩
      · with_reducible exact Eq.refl _
      go_big_quiet_on
      go_big_quiet_want
      go_big_quiet_op
      refine ⟨ptr d, fun wx hx => ?_, ?_⟩
      · have c := D0.out wx hx
        simp [go_sem, c]
      go_big_quiet_on
      go_big_quiet_want
      go_big_quiet_op
      refine ⟨.string (bs topL), fun wx hx => ?_, ?_⟩
      · refine (HTOP.out wx).mono ?_
        rintro e w9 ⟨rfl, hb9⟩
        exact ⟨rfl, hx.trans (hb9.mono hx.size)⟩
      go_big_quiet_on
      refine wpQuiet_nil ?_
      intro w2 hb2
      have H2 := hid (H.out.on hb2)
      have HS2 := hid (stays_of (O := O) hb2)
      clear hb2 c0
      go_wp2_with fail
      refine (HWT.out w2 H2.out).mono ?_
      rintro e w3 ⟨rfl, h3, hs3⟩
      have H3 := hid (And.intro h3 (HS2.out.trans hs3))
      clear h3 hs3
      have HTM2 : Hid (topP M = M.write ln 0 topL) := HTM
      obtain ⟨Y, hY⟩ : ∃ Y, M.write ln ((0 : Nat) : Int) topL = Y := ⟨_, rfl⟩
      have hY2 : M.write ln 0 topL = Y := hY
      rw [hY] at H3 ⊢
      have HM2 := hid (HM.out)
      rw [show topP M = Y from HTM2.out.trans hY2] at HM2
      clear hY hY2 HTM HTM2
      by_cases hy : Y.1 = 0
      · have hy1 : (Y.1 != 0) = false := by simp [hy]
        have HA : Hid (AF O d m j b (.slice ao fs.length cap) fs X w N l c w3 Y.2) := hid ⟨H3.out.1, H3.out.2, HM2.out.trans (if_neg (fun h => h hy))⟩
        clear hy
        go_wp2_with fail
        go_meet
        exact ⟨_, HA⟩
      · have hy1 : (Y.1 != 0) = true := by simp [hy]
        have HX : Hid (X = (Y.1, fs, Y.2)) := hid (HM2.out.trans (if_pos hy))
        have HEND : Hid (Post3 O d m j b X w (.returned (.int .i64 Y.1)) w3) := hid (by rw [HX.out]; exact ⟨rfl, _, H3.out⟩)
        clear hy
        go_wp2
        go_ret
        exact HEND.out
    · have hsz1 : ¬ M.size ln < 0 := hsz
      have HTM : topP M = (0, M) := if_neg hsz
      have HA : Hid (AF O d m j b (.slice ao fs.length cap) fs X w N l c w M) := hid ⟨H.out, Disk.Stays.refl _ _, by rw [HM.out, HTM]; rfl⟩
      clear HTM
      generalize M.size ln = sz at *
      go_wp2_with fail
      go_meet
      exact ⟨M, HA⟩
  case rest =>
  obtain ⟨M1, HA⟩ := hcut
  have hsm := sum_any_ HA.out.pl
  have HSM := hid hsm
  have HCS := hid HA.out.pl.disk
  clear hsm HSZ HTOP HWT HM D0 c0 HCS
  go_wp2_with fail
  refine HSM.out.mono ?_
  rintro e w2 ⟨rfl, hb2⟩
  have HB2 := hid hb2
  clear hb2
  go_wp2_with fail
  refine (HSL.out w2).mono ?_
  rintro e w3 ⟨rfl, hb3⟩
  have HB3 := hid (HB2.out.trans (hb3.mono HB2.out.size))
  clear hb3
  go_wp2_with fail
  refine (HCL.out w3).mono ?_
  rintro e w4 ⟨rfl, hb4⟩
  have HB4 := hid (HB3.out.trans (hb4.mono HB3.out.size))
  have H4 := hid (HA.out.pl.on HB4.out)
  have E0 : Hid (∀ wx, Below w4.heap.size w4 wx → wx.cell? ⟨j, 0, none⟩ = some (ptr d)) := hid (fun wx hx => (H4.out.on hx).c0)
  have E1 : Hid (∀ wx, Below w4.heap.size w4 wx → wx.cell? ⟨j, 1, none⟩ = some (.slice ao fs.length cap)) := hid (fun wx hx => (H4.out.on hx).c1)
  clear hb4
  go_upto_region 12 with fail
  refine Tail.wp_region_quiet_tail 11 (fun wx => Below w4.heap.size w4 wx) (by kernel_rfl) (by kernel_rfl) (below_dN (Below.refl _ w4) 1) ?_
  simp only [List.take_succ_cons, List.take_zero, List.drop_succ_cons, List.drop_zero]
  go_big_quiet_want
  go_big_quiet_op
  go_big_quiet_on
  go_big_quiet_want
  go_big_quiet_op
  apply Exists.intro
  refine ⟨fun _ _ => ?_, ?_⟩
  · with_reducible exact Eq.refl _
  go_big_quiet_on
  go_big_quiet_want
  go_big_quiet_op
  apply Exists.intro
  refine ⟨fun _ _ => ?_, ?_⟩
  · with_reducible exact Eq.refl _
  go_big_quiet_on
  go_big_quiet_want
  go_big_quiet_op
  refine ⟨ptr d, fun wx hx => ?_, ?_⟩
  · have c := E0.out wx hx
    simp [go_sem, c]
  go_big_quiet_on
  go_big_quiet_want
  go_big_quiet_op
  go_big_quiet_on
  go_big_quiet_want
  go_big_quiet_op
  apply Exists.intro
  refine ⟨fun _ _ => ?_, ?_⟩
  · with_reducible exact Eq.refl _
  go_big_quiet_on
  go_big_quiet_want
  go_big_quiet_op
  apply Exists.intro
  refine ⟨fun _ _ => ?_, ?_⟩
  · with_reducible exact Eq.refl _
  go_big_quiet_on
  go_big_quiet_want
  go_big_quiet_op
  refine ⟨.slice ao fs.length cap, fun wx hx => ?_, ?_⟩
  · have c := E1.out wx hx
    simp [go_sem, c]
  go_big_quiet_on
  go_big_quiet_want
  go_big_quiet_op
  refine ⟨.int .i64 (fs.length : Nat), fun wx hx => ?_, ?_⟩
  · simp [go_sem]
  go_big_quiet_on
  go_big_quiet_want
  go_big_quiet_op
  refine ⟨.int .i64 (fs.length + 1 : Nat), fun wx hx => ?_, ?_⟩
  · refine (HPN.out wx).mono ?_
    rintro e w9 ⟨rfl, rfl⟩
    exact ⟨rfl, hx⟩
  go_big_quiet_on
  go_big_quiet_want
  go_big_quiet_op
  go_big_quiet_on
  refine wpQuiet_nil ?_
  intro w5 hb5
  have H5 := hid (H4.out.on hb5)
  have HS5 := hid (HA.out.st.trans ((stays_of (O := O) HB4.out).trans (stays_of hb5)))
  clear hb5 E0 E1
  go_wp2_with fail
  refine (HWF.out w5 M1 H5.out).mono ?_
  rintro e w6 ⟨rfl, h6, hs6⟩
  have H6 := hid (And.intro h6 (HS5.out.trans hs6))
  have HXM := hid (HA.out.eq.trans (HFI.out M1))
  clear h6 hs6
  obtain ⟨Y, hY⟩ : ∃ Y, M1.write ln (fs.length + 1 : Nat) FB = Y := ⟨_, rfl⟩
  rw [hY] at H6 HXM
  rw [hY]
  obtain ⟨r, M2⟩ := Y
  clear hY
  by_cases hr : r = 0
  · subst hr
    have HX : Hid (X = (0, fs ++ [(N, sumL FB)], M2)) := hid (HXM.out.trans (if_pos rfl))
    have HTK := hid (take_any H6.out.1 HN.out HYL.out (by have := HL.out; omega))
    generalize sumL FB = SY at *
    go_wp2_with fail
    refine (HSF.out w6).mono ?_
    rintro e w7 ⟨rfl, rfl⟩
    go_wp2_with fail
    refine HTK.out.mono ?_
    rintro e w8 ⟨rfl, hl⟩
    have HEND : Hid (Post3 O d m j b X w (.returned (.int .i64 0)) w8) := hid (by rw [HX.out]; exact ⟨rfl, hl.pre H6.out.2⟩)
    clear hl
    go_wp2
    go_ret
    exact HEND.out
  · have hr1 : (r != 0) = true := by simp [hr]
    have HX : Hid (X = (r, fs, M2)) := hid (HXM.out.trans (if_neg hr))
    have HEND : Hid (Post3 O d m j b X w (.returned (.int .i64 r)) w6) := hid (by rw [HX.out]; exact ⟨rfl, _, H6.out⟩)
    clear hr
    go_wp2
    go_ret
    exact HEND.out
end Lo
end Go.Proofs.YtgmbiiocjhkpdaaGreat
