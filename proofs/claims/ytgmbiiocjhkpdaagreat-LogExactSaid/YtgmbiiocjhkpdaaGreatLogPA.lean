/-
  Contracts of the project's log: Back, Get, Add.
-/
import Derived.Test.YtgmbiiocjhkpdaaGreatGrpLgC
import Derived.Deep.CutRange
import Derived.Deep.CutBlock
namespace Go.Proofs.YtgmbiiocjhkpdaaGreat
open Go.RowKit Go.Shelf
namespace Lo
open Num (hid)
open Jo (okB kK kN kS kD okB_iff)
open Disk (Mod Fil Sees Stays size_sees write_sees drop_sees sync_sees cut_sees read_sees)
open Mem (Bs bs tI Chg ptr blk_cell blk_free blk_new blk_set blk_other blk_alloc row_kept row_shape row_type)
variable {O O' : Nat → Prop} {d m j b : Nat} {f f' : Value} {M M' : Mod} {fs fs' : List Fr} {w w' : World}
theorem backP_is (fs : List Fr) (k : Nat) (hk : k < fs.length) (M : Mod) : backP fs k M = if (M.cut ln (k + 1 : Nat)).1 = 0 then (0, fs.take k, (M.cut ln (k + 1 : Nat)).2) else ((M.cut ln (k + 1 : Nat)).1, fs, (M.cut ln (k + 1 : Nat)).2) := by
  unfold backP
  rw [if_neg (by omega), if_neg (by omega)]
  have e : (1 + (k : Int)) = ((k + 1 : Nat) : Int) := by omega
  rw [e, Int.toNat_natCast]
  split
  · rename_i h; rw [h]
  · rfl
set_option maxRecDepth 100000 in
set_option maxHeartbeats 2000000 in
theorem back_any (h : PL O d m j b f M fs w) (k : Int) : Calls Tryz.prog 19 #[ptr j, .int .i64 k] w (Post3 O d m j b (backP fs k M) w) := by
  obtain ⟨ao, cap, rfl⟩ := h.shape
  have c1 := h.c1
  have H := hid h
  by_cases h0 : k < 0
  · have e : backP fs k M = (1, fs, M) := if_pos (Or.inl h0)
    rw [e]
    clear h e
    go_enter Tryz.func19, Tryz.ntmps19
    go_wp2
    go_ret
    exact ⟨rfl, _, H.out, Disk.Stays.refl _ _⟩
  by_cases h1 : (fs.length : Int) < k
  · have e : backP fs k M = (1, fs, M) := if_pos (Or.inr h1)
    rw [e]
    clear h e
    go_enter Tryz.func19, Tryz.ntmps19
    go_wp2
    go_ret
    exact ⟨rfl, _, H.out, Disk.Stays.refl _ _⟩
  by_cases h2 : k = fs.length
  · have e : backP fs k M = (0, fs, M) := by
      unfold backP
      rw [if_neg (by omega), if_pos h2]
    rw [e]
    have h2b : (k == (fs.length : Int)) = true := by simp [h2]
    clear h e h2
    go_enter Tryz.func19, Tryz.ntmps19
    go_wp2
    go_ret
    exact ⟨rfl, _, H.out, Disk.Stays.refl _ _⟩
  obtain ⟨n, rfl⟩ := Int.eq_ofNat_of_zero_le (show 0 ≤ k by omega)
  have hfew := h.few
  have hn : n < fs.length := by omega
  have hm := backP_is fs n hn M
  obtain ⟨X, hX⟩ : ∃ X, backP fs n M = X := ⟨_, rfl⟩
  rw [show backP fs (n : Int) M = X from hX]
  rw [hX] at hm
  have h2b : ((n : Int) == (fs.length : Int)) = false := by simp; omega
  have HN := hid hn
  have HPN := hid (fun w => place_any n (by omega) w)
  have C0 : ∀ wx, Below w.heap.size w wx → wx.cell? ⟨j, 0, none⟩ = some (ptr d) := fun wx hx => (H.out.on hx).c0
  have D0 := hid C0
  have HKP : Hid (∀ wx M2, PL O d m j b (.slice ao fs.length cap) M2 fs wx → Calls Tryz.prog 70 #[ptr j, .int .i64 (n : Nat)] wx fun e w' => e = .returned (.tuple #[]) ∧ Left' O d m j b M2 (fs.take n) wx w') := hid (fun wx M2 hp => keep_any hp n (by omega))
  obtain ⟨L, hL⟩ : ∃ L, fs.length = L := ⟨_, rfl⟩
  obtain ⟨Y, hY⟩ : ∃ Y, M.cut ln (n + 1 : Nat) = Y := ⟨_, rfl⟩
  rw [hY] at hm
  have HY := hid hY
  have HM := hid hm
  rw [hL] at c1 h1 h2 h2b
  clear h hX hm hn C0 hY h2 hfew
  have hL2 : ¬ (L : Int) < (n : Int) := by omega
  go_enter Tryz.func19, Tryz.ntmps19
  go_upto_region 7 with fail
  refine Tail.wp_region_quiet_tail 6 (fun wx => Below w.heap.size w wx) (by kernel_rfl) (by kernel_rfl) (below_dN (Below.refl _ w) 1) ?_
  simp only [List.take_succ_cons, List.take_zero, List.drop_succ_cons, List.drop_zero]
  go_big_quiet_want
  go_big_quiet_op
  go_big_quiet_on
  go_big_quiet_want
  go_big_quiet_op
  apply Exists.intro
  refine ⟨fun _ _ => ?_, ?_⟩
  · with_reducible exact Eq.refl _
  go_big_quiet_on
  go_big_quiet_want
  go_big_quiet_op
  apply Exists.intro
  refine ⟨fun _ _ => ?_, ?_⟩
  · with_reducible exact Eq.refl _
  go_big_quiet_on
  go_big_quiet_want
  go_big_quiet_op
  refine ⟨ptr d, fun wx hx => ?_, ?_⟩
  · have c := D0.out wx hx
    simp [go_sem, c]
  go_big_quiet_on
  go_big_quiet_want
  go_big_quiet_op
  go_big_quiet_on
  go_big_quiet_want
  go_big_quiet_op
  refine ⟨.int .i64 (n + 1 : Nat), fun wx hx => ?_, ?_⟩
  · refine (HPN.out wx).mono ?_
    rintro e w9 ⟨rfl, rfl⟩
    exact ⟨rfl, hx⟩
  go_big_quiet_on
  refine wpQuiet_nil ?_
  intro w2 hb2
  have H2 := hid (H.out.on hb2)
  have HS2 := hid (stays_of (O := O) hb2)
  clear hb2
  have HC := H2.out.cut_ ((n + 1 : Nat) : Int)
  rw [HY.out] at HC
  have HCC := hid HC
  clear HC
  obtain ⟨r, M2⟩ := Y
  by_cases hr : r = 0
  · subst hr
    have HX : Hid (X = (0, fs.take n, M2)) := hid (HM.out.trans (if_pos rfl))
    go_wp2_with fail
    refine HCC.out.mono ?_
    rintro e w3 ⟨rfl, h3, hs3⟩
    have HK := hid (HKP.out w3 M2 h3)
    have HS3 := hid (HS2.out.trans hs3)
    clear h3 hs3
    go_wp2_with fail
    refine HK.out.mono ?_
    rintro e w4 ⟨rfl, hl⟩
    have HEND : Hid (Post3 O d m j b X w (.returned (.int .i64 0)) w4) := hid (by rw [HX.out]; exact ⟨rfl, hl.pre HS3.out⟩)
    clear hl
    go_wp2
    go_ret
    exact HEND.out
  · have hr1 : (r != 0) = true := by simp [hr]
    have HX : Hid (X = (r, fs, M2)) := hid (HM.out.trans (if_neg hr))
    clear hr
    go_wp2_with fail
    refine HCC.out.mono ?_
    rintro e w3 ⟨rfl, h3, hs3⟩
    have HEND : Hid (Post3 O d m j b X w (.returned (.int .i64 r)) w3) := hid (by rw [HX.out]; exact ⟨rfl, _, h3, HS2.out.trans hs3⟩)
    clear h3 hs3
    go_wp2
    go_ret
    exact HEND.out

/-- Behind Get. -/
def GetPost (O : Nat → Prop) (d m j b : Nat) (f : Value) (fs : List Fr) (X : Bs × Bool × Int × Mod) (w : World) (e : Ending) (w' : World) : Prop :=
  e = .returned (.tuple #[.string (bs X.1), .bool X.2.1, .int .i64 X.2.2.1]) ∧ PL O d m j b f X.2.2.2 fs w' ∧ Stays O w w'
theorem getP_none {n : Int} (h : lastI (fs.map (·.1)) n fs.length = none) : getP fs n M = ([], false, 0, M) := by unfold getP; rw [h]
theorem getP_some {n : Int} {i : Nat} (h : lastI (fs.map (·.1)) n fs.length = some i) : getP fs n M =
    if (M.read ln (i + 1 : Nat)).2.1 ≠ 0 then ([], false, (M.read ln (i + 1 : Nat)).2.1, (M.read ln (i + 1 : Nat)).2.2)
    else if okB (M.read ln (i + 1 : Nat)).1 = false then ([], false, oErr (M.read ln (i + 1 : Nat)).1, (M.read ln (i + 1 : Nat)).2.2)
    else (kD (M.read ln (i + 1 : Nat)).1, true, 0, (M.read ln (i + 1 : Nat)).2.2) := by unfold getP; rw [h]
set_option maxRecDepth 100000 in
set_option maxHeartbeats 4000000 in
theorem get_any (h : PL O d m j b f M fs w) (n : Int) (hn : Wf n) : Calls Tryz.prog 17 #[ptr j, .int .i64 n] w (GetPost O d m j b f fs (getP fs n M) w) := by
  have c2 := h.c2
  have H := hid h
  obtain ⟨c, hc, hmap⟩ := h.map
  have hfew := h.few
  cases hl : lastI (fs.map (·.1)) n fs.length with
  | none =>
    rw [getP_none hl]
    have hno : n < 0 ∨ lookL fs n.toNat = none := by
      by_cases h0 : n < 0
      · exact Or.inl h0
      · right
        unfold lookL
        rw [Int.toNat_of_nonneg (by omega)]
        exact hl
    obtain ⟨v, hlk⟩ := hmap.look_no hno hn
    clear h hmap hl hno hn hfew hc
    go_enter Tryz.func17, Tryz.ntmps17
    go_wp2
    refine bodyPost_ret (v := .tuple #[.string ⟨#[]⟩, .bool false, .int .i64 0]) (by simp [results, go_sem]) rfl ?_
    exact ⟨rfl, H.out, Disk.Stays.refl _ _⟩
  | some i =>
    have hm := getP_some (M := M) hl
    obtain ⟨X, hX⟩ : ∃ X, getP fs n M = X := ⟨_, rfl⟩
    rw [hX] at hm ⊢
    have hn0 : 0 ≤ n := by
      by_cases h0 : n < 0
      · rw [lastI_neg h0] at hl; cases hl
      · omega
    obtain ⟨N, rfl⟩ := Int.eq_ofNat_of_zero_le hn0
    have hlk := hmap.look_yes (n := N) (i := i) hl hn
    have hil : i < fs.length := (lastI_some hl).1
    have HPN := hid (fun w => place_any i (by omega) w)
    have HRD : Hid (∀ wx, PL O d m j b f M fs wx → _) := hid (fun wx hp => PL.read_ hp (i + 1) (by omega))
    have C0 : ∀ wx, Below w.heap.size w wx → wx.cell? ⟨j, 0, none⟩ = some (ptr d) := fun wx hx => (H.out.on hx).c0
    have D0 := hid C0
    obtain ⟨Y, hY⟩ : ∃ Y, M.read ln (i + 1 : Nat) = Y := ⟨_, rfl⟩
    rw [hY] at hm HRD
    obtain ⟨s, r, M2⟩ := Y
    simp only at HRD
    have HM := hid hm
    clear h hX hm hmap hl hn hfew hc hn0 hil C0 hY
    go_enter Tryz.func17, Tryz.ntmps17
    go_upto_region 6 with fail
    have c0 := D0.out w (Below.refl _ _)
    have HRW := hid (HRD.out w.drew (H.out.on (Below.refl _ _).drew))
    clear hlk c2
    go_cut [9, 10] (fun x9 x10 wx => x9 = .string (bs s) ∧ x10 = .int .i64 r ∧ Hid (PL O d m j b f M2 fs wx ∧ Stays O w wx))
    case first =>
      go_region_with (first
        | (go_at_call 61; refine (HPN.out _).mono ?_; rintro e w' ⟨rfl, rfl⟩)
        | (go_at_call 67; refine HRW.out.mono ?_; rintro e w3 ⟨rfl, h3, hs3⟩; have H3 := hid (And.intro h3 ((stays_of (O := O) (Below.refl w.heap.size w).drew).trans hs3)); clear h3 hs3))
      all_goals
        go_wp2_with fail
        go_meet
        exact ⟨rfl, rfl, H3⟩
    case rest =>
    obtain ⟨rfl, rfl, H3⟩ := hcut
    clear c0
    by_cases hr : r = 0
    · subst hr
      by_cases hok : okB s = true
      · have HX : Hid (X = (kD s, true, 0, M2)) := hid (HM.out.trans ((if_neg (fun h => h rfl)).trans (if_neg (by simp [hok]))))
        have HO := hid (fun w => open_ok hok w)
        unfold slV at HO
        generalize bs s = S at *
        generalize kK s = K at *
        generalize kN s = N' at *
        generalize kS s = T at *
        generalize kD s = D at *
        clear hok
        go_wp2_with fail
        refine (HO.out _).mono ?_
        rintro e w4 ⟨rfl, hb4⟩
        have HEND : Hid (∀ wx, Below w4.heap.size w4 wx → GetPost O d m j b f fs X w (.returned (.tuple #[.string (bs D), .bool true, .int .i64 0])) wx) := hid (fun wx hx => by
          rw [HX.out]
          have hb := hb4.trans (hx.mono hb4.size)
          exact ⟨rfl, H3.out.1.on hb, H3.out.2.trans (stays_of hb)⟩)
        clear hb4
        generalize bs D = DD at *
        go_wp2
        refine bodyPost_ret (v := .tuple #[.string DD, .bool true, .int .i64 0]) (by simp [results, go_sem]) rfl ?_
        exact HEND.out _ ((Below.refl _ _).alloc (Nat.le_refl _) _)
      · have hok' : okB s = false := by simpa using hok
        have HX : Hid (X = ([], false, oErr s, M2)) := hid (HM.out.trans ((if_neg (fun h => h rfl)).trans (if_pos hok')))
        have HO := hid (fun w => open_not hok' w)
        have he : (oErr s != 0) = true := by simp [oErr_ne s]
        unfold slV at HO
        generalize bs s = S at *
        generalize oErr s = E at *
        clear hok hok'
        go_wp2_with fail
        refine (HO.out _).mono ?_
        rintro e w4 ⟨rfl, hb4⟩
        have HEND : Hid (∀ wx, Below w4.heap.size w4 wx → GetPost O d m j b f fs X w (.returned (.tuple #[.string (bs []), .bool false, .int .i64 E])) wx) := hid (fun wx hx => by
          rw [HX.out]
          have hb := hb4.trans (hx.mono hb4.size)
          exact ⟨rfl, H3.out.1.on hb, H3.out.2.trans (stays_of hb)⟩)
        clear hb4
        go_wp2
        refine bodyPost_ret (v := .tuple #[.string ⟨#[]⟩, .bool false, .int .i64 E]) (by simp [results, go_sem]) rfl ?_
        exact HEND.out _ ((Below.refl _ _).alloc (Nat.le_refl _) _)
    · have hr1 : (r != 0) = true := by simp [hr]
      have HX : Hid (X = ([], false, r, M2)) := hid (HM.out.trans (if_pos hr))
      clear hr
      have HEND : Hid (GetPost O d m j b f fs X w (.returned (.tuple #[.string (bs []), .bool false, .int .i64 r])) wc) := hid (by rw [HX.out]; exact ⟨rfl, H3.out⟩)
      go_wp2
      refine bodyPost_ret (v := .tuple #[.string ⟨#[]⟩, .bool false, .int .i64 r]) (by simp [results, go_sem]) rfl ?_
      exact HEND.out
end Lo
end Go.Proofs.YtgmbiiocjhkpdaaGreat
