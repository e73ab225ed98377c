/-
  Contract of the project's log: takeRight (the next sector, if it is right).
-/
import Derived.Test.YtgmbiiocjhkpdaaGreatGrpLgB
namespace Go.Proofs.YtgmbiiocjhkpdaaGreat
open Go.RowKit Go.Shelf
namespace Lo
open Num (hid)
open Jo (okB kK kN kS kD okB_iff)
open Disk (Mod Fil Sees Stays)
open Mem (Bs bs tI Chg ptr blk_cell blk_free blk_new blk_set blk_other blk_alloc row_kept row_shape row_type append_from step_append_run wpList_append_run)
variable {O O' : Nat → Prop} {d m j b : Nat} {f f' : Value} {M M' : Mod} {fs fs' : List Fr} {w w' : World}
/-- Behind takeRight. -/
def TakeR (O : Nat → Prop) (d m j b : Nat) (M : Mod) (fs : List Fr) (w : World) (r : Option (List Fr × Bool)) (e : Ending) (w' : World) : Prop :=
  match r with
  | none => e = .returned (.tuple #[.bool false, .bool false]) ∧ Left' O d m j b M fs w w'
  | some g => e = .returned (.tuple #[.bool true, .bool g.2]) ∧ Left' O d m j b M g.1 w w'
theorem PL.left (h : PL O d m j b f M fs w) (hb : Below w.heap.size w w') : Left' O d m j b M fs w w' := ⟨f, h.on hb, stays_of hb⟩
theorem bs_inj {a c : Bs} (h : bs a = bs c) : a = c := by
  have := congrArg (fun x : ByteArray => x.data.toList) h
  exact this
set_option maxRecDepth 100000 in
set_option maxHeartbeats 2000000 in
theorem tr_top (h : PL O d m j b f M fs w) (s : Bs) : Calls Tryz.prog 89 #[ptr j, .int .i64 0, .string (bs s)] w (TakeR O d m j b M fs w (takeP 0 fs s)) := by
  have HT := hid (fun w => top_any w)
  have H := hid h
  by_cases hs : s = topL
  · subst hs
    have e : takeP 0 fs topL = some (fs, true) := by unfold takeP; rw [if_pos rfl, if_pos rfl]
    rw [e]
    generalize bs topL = T at *
    clear h e
    go_enter Tryz.func89, Tryz.ntmps89
    go_wp2_with fail
    refine (HT.out _).mono ?_
    rintro e w1 ⟨rfl, hb1⟩
    have HB := hid hb1
    clear hb1
    go_wp2
    refine bodyPost_ret (v := .tuple #[.bool true, .bool true]) (by simp [results, go_sem]) rfl ?_
    exact ⟨rfl, H.out.left HB.out⟩
  · have e : takeP 0 fs s = none := by unfold takeP; rw [if_pos rfl, if_neg hs]
    rw [e]
    have hbe : ¬ (bs s).toList = (bs topL).toList := by rw [ByteArray.toList_eq, ByteArray.toList_eq]; exact hs
    generalize bs topL = T at *
    generalize bs s = S at *
    clear h e hs
    go_enter Tryz.func89, Tryz.ntmps89
    go_wp2_with fail
    refine (HT.out _).mono ?_
    rintro e w1 ⟨rfl, hb1⟩
    have HB := hid hb1
    clear hb1
    go_wp2
    refine bodyPost_ret (v := .tuple #[.bool false, .bool false]) (by simp [results, go_sem, hbe]) rfl ?_
    exact ⟨rfl, H.out.left HB.out⟩
set_option maxRecDepth 100000 in
set_option maxHeartbeats 2000000 in
theorem tr_bad (h : PL O d m j b f M fs w) (i : Nat) (h0 : 0 < i) (hi : i ≤ 1000000) (s : Bs) (hok : okB s = false) : Calls Tryz.prog 89 #[ptr j, .int .i64 (i : Nat), .string (bs s)] w (TakeR O d m j b M fs w none) := by
  have hi0 : ((i : Int) == 0) = false := by simp; omega
  have HO := hid (fun w => open_not hok w)
  have H := hid h
  have he : (oErr s != 0) = true := by simp [oErr_ne s]
  unfold slV at HO
  generalize bs s = S at *
  generalize oErr s = E at *
  generalize hI : (i : Int) = I at *
  clear h h0 hi hI hok
  go_enter Tryz.func89, Tryz.ntmps89
  go_wp2_with fail
  refine (HO.out _).mono ?_
  rintro e w1 ⟨rfl, hb1⟩
  have HB := hid hb1
  clear hb1
  go_upto_region 5 with fail
  obtain ⟨w2, hw2⟩ : ∃ x, w1.alloc (.cells #[.int .i64 ((0 : Nat) : Int), .int .i64 ((0 : Nat) : Int), .int .u64 ((0 : Nat) : Int), .string (bs [])] tSl) = x := ⟨_, rfl⟩
  have hq : w2.heap[w1.heap.size]? = some (.cells #[.int .i64 ((0 : Nat) : Int), .int .i64 ((0 : Nat) : Int), .int .u64 ((0 : Nat) : Int), .string (bs [])] tSl (0, 0)) := by rw [← hw2]; exact blk_new w1 _
  have hb2 : Below w1.heap.size w1 w2 := by rw [← hw2]; exact (Below.refl _ _).alloc (Nat.le_refl _) _
  have HB2 := hid (HB.out.trans (hb2.mono HB.out.size))
  have s0 : w2.cell? ⟨w1.heap.size, 0, none⟩ = some (.int .i64 ((0 : Nat) : Int)) := blk_cell hq 0
  first | rw [hw2] | (have e0 : w1.alloc (.cells #[.int .i64 0, .int .i64 0, .int .u64 0, .string (bs [])] tSl) = w2 := hw2; rw [e0])
  clear hw2 hb2 hq
  go_upto_region 6 with fail
  go_cut [49] (fun x wx => x = .bool true ∧ ∃ q, wx = w2.drewN q)
  case first =>
    go_region
    all_goals
      go_wp2_with fail
      go_meet
      exact ⟨rfl, 1, rfl⟩
  case rest =>
  obtain ⟨rfl, q, rfl⟩ := hcut
  have HB3 := hid (below_dN HB2.out q)
  clear s0
  generalize w2.drewN q = w5 at *
  go_wp2
  refine bodyPost_ret (v := .tuple #[.bool false, .bool false]) (by simp [results, go_sem]) rfl ?_
  exact ⟨rfl, H.out.left HB3.out⟩
set_option maxRecDepth 100000 in
set_option maxHeartbeats 4000000 in
theorem tr_kind (h : PL O d m j b f M fs w) (i : Nat) (h0 : 0 < i) (hi : i ≤ 1000000) (s : Bs) (hok : okB s = true) (hk : ¬ (kK s = 5 ∨ kK s = 6)) : Calls Tryz.prog 89 #[ptr j, .int .i64 (i : Nat), .string (bs s)] w (TakeR O d m j b M fs w none) := by
  have hi0 : ((i : Int) == 0) = false := by simp; omega
  have HO := hid (fun w => open_ok hok w)
  have H := hid h

  have hk5 : ((kK s : Int) == 5) = false := by simp; omega
  have hk6 : ((kK s : Int) == 6) = false := by simp; omega
  clear hk
  unfold slV at HO
  generalize bs s = S at *
  generalize bs (kD s) = D at *
  generalize kK s = K at *
  generalize kN s = N at *
  generalize kS s = T at *
  generalize hI : (i : Int) = I at *
  clear h h0 hi hI hok
  go_enter Tryz.func89, Tryz.ntmps89
  go_wp2_with fail
  refine (HO.out _).mono ?_
  rintro e w1 ⟨rfl, hb1⟩
  have HB := hid hb1
  clear hb1
  go_upto_region 5 with fail
  obtain ⟨w2, hw2⟩ : ∃ x, w1.alloc (.cells #[.int .i64 (K : Nat), .int .i64 (N : Nat), .int .u64 (T : Nat), .string D] tSl) = x := ⟨_, rfl⟩
  have hq : w2.heap[w1.heap.size]? = some (.cells #[.int .i64 (K : Nat), .int .i64 (N : Nat), .int .u64 (T : Nat), .string D] tSl (0, 0)) := by rw [← hw2]; exact blk_new w1 _
  have hb2 : Below w1.heap.size w1 w2 := by rw [← hw2]; exact (Below.refl _ _).alloc (Nat.le_refl _) _
  have HB2 := hid (HB.out.trans (hb2.mono HB.out.size))
  have lq := lt_of_block hq
  have s0 : w2.cell? ⟨w1.heap.size, 0, none⟩ = some (.int .i64 (K : Nat)) := blk_cell hq 0
  have s1 : w2.cell? ⟨w1.heap.size, 1, none⟩ = some (.int .i64 (N : Nat)) := blk_cell hq 1
  have s2 : w2.cell? ⟨w1.heap.size, 2, none⟩ = some (.int .u64 (T : Nat)) := blk_cell hq 2
  rw [hw2]
  have HQ := hid hq
  clear hw2 hb2 hq
  go_upto_region 6 with fail
  go_cut [49] (fun x wx => x = .bool true ∧ ∃ q, wx = w2.drewN q)
  case first =>
    go_region
    all_goals
      go_wp2_with fail
      go_meet
      exact ⟨rfl, 1, rfl⟩
  case rest =>
  obtain ⟨rfl, q, rfl⟩ := hcut
  have HB3 := hid (below_dN HB2.out q)
  clear s0 s1 s2 lq
  generalize w2.drewN q = w5 at *
  go_wp2
  refine bodyPost_ret (v := .tuple #[.bool false, .bool false]) (by simp [results, go_sem]) rfl ?_
  exact ⟨rfl, H.out.left HB3.out⟩
set_option maxRecDepth 100000 in
set_option maxHeartbeats 4000000 in
theorem tr_num5 (h : PL O d m j b f M fs w) (i : Nat) (h0 : 0 < i) (hi : i ≤ 1000000) (s : Bs) (hok : okB s = true) (hc : kK s = kindOf false) (hn : 4096 ≤ kN s) : Calls Tryz.prog 89 #[ptr j, .int .i64 (i : Nat), .string (bs s)] w (TakeR O d m j b M fs w none) := by
  have hi0 : ((i : Int) == 0) = false := by simp; omega
  have HO := hid (fun w => open_ok hok w)
  have H := hid h

  have hke : kK s = 5 := hc
  have hk5 : ((kK s : Int) == 5) = true := by simp; omega
  have hk6 : ((kK s : Int) == 6) = false := by simp; omega
  have hn1 : (4096 : Int) ≤ (kN s : Int) := by omega
  clear hc hn hke
  unfold slV at HO
  generalize bs s = S at *
  generalize bs (kD s) = D at *
  generalize kK s = K at *
  generalize kN s = N at *
  generalize kS s = T at *
  generalize hI : (i : Int) = I at *
  clear h h0 hi hI hok
  go_enter Tryz.func89, Tryz.ntmps89
  go_wp2_with fail
  refine (HO.out _).mono ?_
  rintro e w1 ⟨rfl, hb1⟩
  have HB := hid hb1
  clear hb1
  go_upto_region 5 with fail
  obtain ⟨w2, hw2⟩ : ∃ x, w1.alloc (.cells #[.int .i64 (K : Nat), .int .i64 (N : Nat), .int .u64 (T : Nat), .string D] tSl) = x := ⟨_, rfl⟩
  have hq : w2.heap[w1.heap.size]? = some (.cells #[.int .i64 (K : Nat), .int .i64 (N : Nat), .int .u64 (T : Nat), .string D] tSl (0, 0)) := by rw [← hw2]; exact blk_new w1 _
  have hb2 : Below w1.heap.size w1 w2 := by rw [← hw2]; exact (Below.refl _ _).alloc (Nat.le_refl _) _
  have HB2 := hid (HB.out.trans (hb2.mono HB.out.size))
  have lq := lt_of_block hq
  have s0 : w2.cell? ⟨w1.heap.size, 0, none⟩ = some (.int .i64 (K : Nat)) := blk_cell hq 0
  have s1 : w2.cell? ⟨w1.heap.size, 1, none⟩ = some (.int .i64 (N : Nat)) := blk_cell hq 1
  have s2 : w2.cell? ⟨w1.heap.size, 2, none⟩ = some (.int .u64 (T : Nat)) := blk_cell hq 2
  rw [hw2]
  have HQ := hid hq
  clear hw2 hb2 hq
  go_upto_region 6 with fail
  go_cut [49] (fun x wx => x = .bool true ∧ ∃ q, wx = w2.drewN q)
  case first =>
    go_region
    all_goals
      go_wp2_with fail
      go_meet
      exact ⟨rfl, 1, rfl⟩
  case rest =>
  obtain ⟨rfl, q, rfl⟩ := hcut
  have HB3 := hid (below_dN HB2.out q)
  clear s0 s1 s2 lq
  generalize w2.drewN q = w5 at *
  go_wp2
  refine bodyPost_ret (v := .tuple #[.bool false, .bool false]) (by simp [results, go_sem]) rfl ?_
  exact ⟨rfl, H.out.left HB3.out⟩
set_option maxRecDepth 100000 in
set_option maxHeartbeats 4000000 in
theorem tr_salt5 (h : PL O d m j b f M fs w) (i : Nat) (h0 : 0 < i) (hi : i ≤ 1000000) (s : Bs) (hok : okB s = true) (hc : kK s = kindOf false) (hn : kN s < 4096) (hs : kS s ≠ sumP fs) : Calls Tryz.prog 89 #[ptr j, .int .i64 (i : Nat), .string (bs s)] w (TakeR O d m j b M fs w none) := by
  have hi0 : ((i : Int) == 0) = false := by simp; omega
  have HO := hid (fun w => open_ok hok w)
  have H := hid h

  have hke : kK s = 5 := hc
  have hk5 : ((kK s : Int) == 5) = true := by simp; omega
  have hk6 : ((kK s : Int) == 6) = false := by simp; omega
  have hn1 : ¬ (4096 : Int) ≤ (kN s : Int) := by omega
  have hsalt : ((kS s : Int) != (sumP fs : Int)) = true := by simp; omega
  clear hc hn hke hs
  unfold slV at HO
  generalize bs s = S at *
  generalize bs (kD s) = D at *
  generalize kK s = K at *
  generalize kN s = N at *
  generalize kS s = T at *
  generalize hI : (i : Int) = I at *
  clear h h0 hi hI hok
  go_enter Tryz.func89, Tryz.ntmps89
  go_wp2_with fail
  refine (HO.out _).mono ?_
  rintro e w1 ⟨rfl, hb1⟩
  have HB := hid hb1
  clear hb1
  go_upto_region 5 with fail
  obtain ⟨w2, hw2⟩ : ∃ x, w1.alloc (.cells #[.int .i64 (K : Nat), .int .i64 (N : Nat), .int .u64 (T : Nat), .string D] tSl) = x := ⟨_, rfl⟩
  have hq : w2.heap[w1.heap.size]? = some (.cells #[.int .i64 (K : Nat), .int .i64 (N : Nat), .int .u64 (T : Nat), .string D] tSl (0, 0)) := by rw [← hw2]; exact blk_new w1 _
  have hb2 : Below w1.heap.size w1 w2 := by rw [← hw2]; exact (Below.refl _ _).alloc (Nat.le_refl _) _
  have HB2 := hid (HB.out.trans (hb2.mono HB.out.size))
  have lq := lt_of_block hq
  have s0 : w2.cell? ⟨w1.heap.size, 0, none⟩ = some (.int .i64 (K : Nat)) := blk_cell hq 0
  have s1 : w2.cell? ⟨w1.heap.size, 1, none⟩ = some (.int .i64 (N : Nat)) := blk_cell hq 1
  have s2 : w2.cell? ⟨w1.heap.size, 2, none⟩ = some (.int .u64 (T : Nat)) := blk_cell hq 2
  rw [hw2]
  have HQ := hid hq
  clear hw2 hb2 hq
  go_upto_region 6 with fail
  have H2 := hid (H.out.on HB2.out)
  have C1 : ∀ wx, Below w2.heap.size w2 wx → wx.cell? ⟨w1.heap.size, 1, none⟩ = some (.int .i64 (N : Nat)) := fun wx hx => (hx.cell (p := ⟨w1.heap.size, 1, none⟩) lq).trans s1
  have C2 : ∀ wx, Below w2.heap.size w2 wx → wx.cell? ⟨w1.heap.size, 2, none⟩ = some (.int .u64 (T : Nat)) := fun wx hx => (hx.cell (p := ⟨w1.heap.size, 2, none⟩) lq).trans s2
  have D1 := hid C1
  have D2 := hid C2
  clear C1 C2 s0 s1 s2
  refine Tail.wp_region_quiet_tail 17 (fun wx => Below w2.heap.size w2 wx) (by kernel_rfl) (by kernel_rfl) (below_dN (Below.refl _ w2) 1) ?_
  simp only [List.take_succ_cons, List.take_zero, List.drop_succ_cons, List.drop_zero]
  go_big_quiet_want
  go_big_quiet_op
  go_big_quiet_on
  go_big_quiet_want
  go_big_quiet_op
  apply Exists.intro
  refine ⟨fun _ _ => ?_, ?_⟩
  · with_reducible exact Eq.refl _
  go_big_quiet_on
  go_big_quiet_want
  go_big_quiet_op
  go_big_quiet_on
  go_big_quiet_want
  go_big_quiet_op
  go_big_quiet_on
  go_big_quiet_want
  go_big_quiet_op
  apply Exists.intro
  refine ⟨fun _ _ => ?_, ?_⟩
  · with_reducible exact Eq.refl _
  go_big_quiet_on
  go_big_quiet_want
  go_big_quiet_op
  apply Exists.intro
  refine ⟨fun _ _ => ?_, ?_⟩
  · with_reducible exact Eq.refl _
  go_big_quiet_on
  go_big_quiet_want
  go_big_quiet_op
  go_big_quiet_on
  go_big_quiet_want
  go_big_quiet_op
  apply Exists.intro
  refine ⟨fun _ _ => ?_, ?_⟩
  · with_reducible exact Eq.refl _
  go_big_quiet_on
  go_big_quiet_want
  go_big_quiet_op
  refine ⟨.int .i64 (N : Nat), fun wx hx => ?_, ?_⟩
  · have c := D1.out wx hx
    simp [go_sem, c]
  go_big_quiet_on
  go_big_quiet_want
  go_big_quiet_op
  refine ⟨.bool false, fun wx hx => ?_, ?_⟩
  · simp [go_sem]; omega
  go_big_quiet_on
  go_big_quiet_want
  go_big_quiet_op
  refine ⟨.bool false, fun wx hx => ?_, ?_⟩
  · simp [go_sem]
  go_big_quiet_on
  go_big_quiet_want
  go_big_quiet_op
  go_big_quiet_on
  go_big_quiet_want
  go_big_quiet_op
  apply Exists.intro
  refine ⟨fun _ _ => ?_, ?_⟩
  · with_reducible exact Eq.refl _
  go_big_quiet_on
  go_big_quiet_want
  go_big_quiet_op
  refine ⟨.int .u64 (T : Nat), fun wx hx => ?_, ?_⟩
  · have c := D2.out wx hx
    simp [go_sem, c]
  go_big_quiet_on
  go_big_quiet_want
  go_big_quiet_op
  go_big_quiet_on
  go_big_quiet_want
  go_big_quiet_op
  refine ⟨.int .u64 (sumP fs : Nat), fun wx hx => ?_, ?_⟩
  · refine (sum_any_ (H2.out.on hx)).mono ?_
    rintro e w9 ⟨rfl, hb9⟩
    exact ⟨rfl, hx.trans (hb9.mono hx.size)⟩
  go_big_quiet_on
  go_big_quiet_want
  go_big_quiet_op
  refine ⟨.bool true, fun wx hx => ?_, ?_⟩
  · simp [go_sem]
  go_big_quiet_on
  refine wpQuiet_nil ?_
  intro w3 hb3
  have HB3 := hid (HB2.out.trans (hb3.mono HB2.out.size))
  clear hb3
  go_wp2
  refine bodyPost_ret (v := .tuple #[.bool false, .bool false]) (by simp [results, go_sem]) rfl ?_
  exact ⟨rfl, H.out.left HB3.out⟩
set_option maxRecDepth 100000 in
set_option maxHeartbeats 4000000 in
theorem tr_num6 (h : PL O d m j b f M fs w) (i : Nat) (h0 : 0 < i) (hi : i ≤ 1000000) (s : Bs) (hok : okB s = true) (hc : kK s = kindOf true) (hn : 4096 ≤ kN s) : Calls Tryz.prog 89 #[ptr j, .int .i64 (i : Nat), .string (bs s)] w (TakeR O d m j b M fs w none) := by
  have hi0 : ((i : Int) == 0) = false := by simp; omega
  have HO := hid (fun w => open_ok hok w)
  have H := hid h

  have hke : kK s = 6 := hc
  have hk5 : ((kK s : Int) == 5) = false := by simp; omega
  have hk6 : ((kK s : Int) == 6) = true := by simp; omega
  have hn1 : (4096 : Int) ≤ (kN s : Int) := by omega
  clear hc hn hke
  unfold slV at HO
  generalize bs s = S at *
  generalize bs (kD s) = D at *
  generalize kK s = K at *
  generalize kN s = N at *
  generalize kS s = T at *
  generalize hI : (i : Int) = I at *
  clear h h0 hi hI hok
  go_enter Tryz.func89, Tryz.ntmps89
  go_wp2_with fail
  refine (HO.out _).mono ?_
  rintro e w1 ⟨rfl, hb1⟩
  have HB := hid hb1
  clear hb1
  go_upto_region 5 with fail
  obtain ⟨w2, hw2⟩ : ∃ x, w1.alloc (.cells #[.int .i64 (K : Nat), .int .i64 (N : Nat), .int .u64 (T : Nat), .string D] tSl) = x := ⟨_, rfl⟩
  have hq : w2.heap[w1.heap.size]? = some (.cells #[.int .i64 (K : Nat), .int .i64 (N : Nat), .int .u64 (T : Nat), .string D] tSl (0, 0)) := by rw [← hw2]; exact blk_new w1 _
  have hb2 : Below w1.heap.size w1 w2 := by rw [← hw2]; exact (Below.refl _ _).alloc (Nat.le_refl _) _
  have HB2 := hid (HB.out.trans (hb2.mono HB.out.size))
  have lq := lt_of_block hq
  have s0 : w2.cell? ⟨w1.heap.size, 0, none⟩ = some (.int .i64 (K : Nat)) := blk_cell hq 0
  have s1 : w2.cell? ⟨w1.heap.size, 1, none⟩ = some (.int .i64 (N : Nat)) := blk_cell hq 1
  have s2 : w2.cell? ⟨w1.heap.size, 2, none⟩ = some (.int .u64 (T : Nat)) := blk_cell hq 2
  rw [hw2]
  have HQ := hid hq
  clear hw2 hb2 hq
  go_upto_region 6 with fail
  go_cut [49] (fun x wx => x = .bool true ∧ ∃ q, wx = w2.drewN q)
  case first =>
    go_region
    all_goals
      go_wp2_with fail
      go_meet
      exact ⟨rfl, 1, rfl⟩
  case rest =>
  obtain ⟨rfl, q, rfl⟩ := hcut
  have HB3 := hid (below_dN HB2.out q)
  clear s0 s1 s2 lq
  generalize w2.drewN q = w5 at *
  go_wp2
  refine bodyPost_ret (v := .tuple #[.bool false, .bool false]) (by simp [results, go_sem]) rfl ?_
  exact ⟨rfl, H.out.left HB3.out⟩
set_option maxRecDepth 100000 in
set_option maxHeartbeats 4000000 in
theorem tr_salt6 (h : PL O d m j b f M fs w) (i : Nat) (h0 : 0 < i) (hi : i ≤ 1000000) (s : Bs) (hok : okB s = true) (hc : kK s = kindOf true) (hn : kN s < 4096) (hs : kS s ≠ sumP fs) : Calls Tryz.prog 89 #[ptr j, .int .i64 (i : Nat), .string (bs s)] w (TakeR O d m j b M fs w none) := by
  have hi0 : ((i : Int) == 0) = false := by simp; omega
  have HO := hid (fun w => open_ok hok w)
  have H := hid h

  have hke : kK s = 6 := hc
  have hk5 : ((kK s : Int) == 5) = false := by simp; omega
  have hk6 : ((kK s : Int) == 6) = true := by simp; omega
  have hn1 : ¬ (4096 : Int) ≤ (kN s : Int) := by omega
  have hsalt : ((kS s : Int) != (sumP fs : Int)) = true := by simp; omega
  clear hc hn hke hs
  unfold slV at HO
  generalize bs s = S at *
  generalize bs (kD s) = D at *
  generalize kK s = K at *
  generalize kN s = N at *
  generalize kS s = T at *
  generalize hI : (i : Int) = I at *
  clear h h0 hi hI hok
  go_enter Tryz.func89, Tryz.ntmps89
  go_wp2_with fail
  refine (HO.out _).mono ?_
  rintro e w1 ⟨rfl, hb1⟩
  have HB := hid hb1
  clear hb1
  go_upto_region 5 with fail
  obtain ⟨w2, hw2⟩ : ∃ x, w1.alloc (.cells #[.int .i64 (K : Nat), .int .i64 (N : Nat), .int .u64 (T : Nat), .string D] tSl) = x := ⟨_, rfl⟩
  have hq : w2.heap[w1.heap.size]? = some (.cells #[.int .i64 (K : Nat), .int .i64 (N : Nat), .int .u64 (T : Nat), .string D] tSl (0, 0)) := by rw [← hw2]; exact blk_new w1 _
  have hb2 : Below w1.heap.size w1 w2 := by rw [← hw2]; exact (Below.refl _ _).alloc (Nat.le_refl _) _
  have HB2 := hid (HB.out.trans (hb2.mono HB.out.size))
  have lq := lt_of_block hq
  have s0 : w2.cell? ⟨w1.heap.size, 0, none⟩ = some (.int .i64 (K : Nat)) := blk_cell hq 0
  have s1 : w2.cell? ⟨w1.heap.size, 1, none⟩ = some (.int .i64 (N : Nat)) := blk_cell hq 1
  have s2 : w2.cell? ⟨w1.heap.size, 2, none⟩ = some (.int .u64 (T : Nat)) := blk_cell hq 2
  rw [hw2]
  have HQ := hid hq
  clear hw2 hb2 hq
  go_upto_region 6 with fail
  have H2 := hid (H.out.on HB2.out)
  have C1 : ∀ wx, Below w2.heap.size w2 wx → wx.cell? ⟨w1.heap.size, 1, none⟩ = some (.int .i64 (N : Nat)) := fun wx hx => (hx.cell (p := ⟨w1.heap.size, 1, none⟩) lq).trans s1
  have C2 : ∀ wx, Below w2.heap.size w2 wx → wx.cell? ⟨w1.heap.size, 2, none⟩ = some (.int .u64 (T : Nat)) := fun wx hx => (hx.cell (p := ⟨w1.heap.size, 2, none⟩) lq).trans s2
  have D1 := hid C1
  have D2 := hid C2
  clear C1 C2 s0 s1 s2
  refine Tail.wp_region_quiet_tail 17 (fun wx => Below w2.heap.size w2 wx) (by kernel_rfl) (by kernel_rfl) (below_dN (Below.refl _ w2) 1) ?_
  simp only [List.take_succ_cons, List.take_zero, List.drop_succ_cons, List.drop_zero]
  go_big_quiet_want
  go_big_quiet_op
  go_big_quiet_on
  go_big_quiet_want
  go_big_quiet_op
  apply Exists.intro
  refine ⟨fun _ _ => ?_, ?_⟩
  · with_reducible exact Eq.refl _
  go_big_quiet_on
  go_big_quiet_want
  go_big_quiet_op
  go_big_quiet_on
  go_big_quiet_want
  go_big_quiet_op
  go_big_quiet_on
  go_big_quiet_want
  go_big_quiet_op
  apply Exists.intro
  refine ⟨fun _ _ => ?_, ?_⟩
  · with_reducible exact Eq.refl _
  go_big_quiet_on
  go_big_quiet_want
  go_big_quiet_op
  apply Exists.intro
  refine ⟨fun _ _ => ?_, ?_⟩
  · with_reducible exact Eq.refl _
  go_big_quiet_on
  go_big_quiet_want
  go_big_quiet_op
  go_big_quiet_on
  go_big_quiet_want
  go_big_quiet_op
  apply Exists.intro
  refine ⟨fun _ _ => ?_, ?_⟩
  · with_reducible exact Eq.refl _
  go_big_quiet_on
  go_big_quiet_want
  go_big_quiet_op
  refine ⟨.int .i64 (N : Nat), fun wx hx => ?_, ?_⟩
  · have c := D1.out wx hx
    simp [go_sem, c]
  go_big_quiet_on
  go_big_quiet_want
  go_big_quiet_op
  refine ⟨.bool false, fun wx hx => ?_, ?_⟩
  · simp [go_sem]; omega
  go_big_quiet_on
  go_big_quiet_want
  go_big_quiet_op
  refine ⟨.bool false, fun wx hx => ?_, ?_⟩
  · simp [go_sem]
  go_big_quiet_on
  go_big_quiet_want
  go_big_quiet_op
  go_big_quiet_on
  go_big_quiet_want
  go_big_quiet_op
  apply Exists.intro
  refine ⟨fun _ _ => ?_, ?_⟩
  · with_reducible exact Eq.refl _
  go_big_quiet_on
  go_big_quiet_want
  go_big_quiet_op
  refine ⟨.int .u64 (T : Nat), fun wx hx => ?_, ?_⟩
  · have c := D2.out wx hx
    simp [go_sem, c]
  go_big_quiet_on
  go_big_quiet_want
  go_big_quiet_op
  go_big_quiet_on
  go_big_quiet_want
  go_big_quiet_op
  refine ⟨.int .u64 (sumP fs : Nat), fun wx hx => ?_, ?_⟩
  · refine (sum_any_ (H2.out.on hx)).mono ?_
    rintro e w9 ⟨rfl, hb9⟩
    exact ⟨rfl, hx.trans (hb9.mono hx.size)⟩
  go_big_quiet_on
  go_big_quiet_want
  go_big_quiet_op
  refine ⟨.bool true, fun wx hx => ?_, ?_⟩
  · simp [go_sem]
  go_big_quiet_on
  refine wpQuiet_nil ?_
  intro w3 hb3
  have HB3 := hid (HB2.out.trans (hb3.mono HB2.out.size))
  clear hb3
  go_wp2
  refine bodyPost_ret (v := .tuple #[.bool false, .bool false]) (by simp [results, go_sem]) rfl ?_
  exact ⟨rfl, H.out.left HB3.out⟩
set_option maxRecDepth 100000 in
set_option maxHeartbeats 4000000 in
theorem tr_yes5 (h : PL O d m j b f M fs w) (i : Nat) (h0 : 0 < i) (hi : i ≤ 1000000) (s : Bs) (hok : okB s = true) (hc : kK s = kindOf false) (hn : kN s < 4096) (hs : kS s = sumP fs) (hl : fs.length < 20000) : Calls Tryz.prog 89 #[ptr j, .int .i64 (i : Nat), .string (bs s)] w (TakeR O d m j b M fs w (some (fs ++ [(kN s, sumL s)], false))) := by
  have hi0 : ((i : Int) == 0) = false := by simp; omega
  have HO := hid (fun w => open_ok hok w)
  have H := hid h
  have HL := hid hl
  have HN := hid hn
  have HSUM := hid (fun w => sum_bs (okB_iff.1 hok).1 w)
  have HY := hid (sumL_lt s)
  generalize sumL s = Y at *
  have hke : kK s = 5 := hc
  have hk5 : ((kK s : Int) == 5) = true := by simp; omega
  have hk6 : ((kK s : Int) == 6) = false := by simp; omega
  have hn1 : ¬ (4096 : Int) ≤ (kN s : Int) := by omega
  have hsalt : ((kS s : Int) != (sumP fs : Int)) = false := by simp; omega
  clear hc hn hke hs hl
  unfold slV at HO
  generalize bs s = S at *
  generalize bs (kD s) = D at *
  generalize kK s = K at *
  generalize kN s = N at *
  generalize kS s = T at *
  generalize hI : (i : Int) = I at *
  clear h h0 hi hI hok
  go_enter Tryz.func89, Tryz.ntmps89
  go_wp2_with fail
  refine (HO.out _).mono ?_
  rintro e w1 ⟨rfl, hb1⟩
  have HB := hid hb1
  clear hb1
  go_upto_region 5 with fail
  obtain ⟨w2, hw2⟩ : ∃ x, w1.alloc (.cells #[.int .i64 (K : Nat), .int .i64 (N : Nat), .int .u64 (T : Nat), .string D] tSl) = x := ⟨_, rfl⟩
  have hq : w2.heap[w1.heap.size]? = some (.cells #[.int .i64 (K : Nat), .int .i64 (N : Nat), .int .u64 (T : Nat), .string D] tSl (0, 0)) := by rw [← hw2]; exact blk_new w1 _
  have hb2 : Below w1.heap.size w1 w2 := by rw [← hw2]; exact (Below.refl _ _).alloc (Nat.le_refl _) _
  have HB2 := hid (HB.out.trans (hb2.mono HB.out.size))
  have lq := lt_of_block hq
  have s0 : w2.cell? ⟨w1.heap.size, 0, none⟩ = some (.int .i64 (K : Nat)) := blk_cell hq 0
  have s1 : w2.cell? ⟨w1.heap.size, 1, none⟩ = some (.int .i64 (N : Nat)) := blk_cell hq 1
  have s2 : w2.cell? ⟨w1.heap.size, 2, none⟩ = some (.int .u64 (T : Nat)) := blk_cell hq 2
  rw [hw2]
  have HQ := hid hq
  clear hw2 hb2 hq
  go_upto_region 6 with fail
  have H2 := hid (H.out.on HB2.out)
  have C1 : ∀ wx, Below w2.heap.size w2 wx → wx.cell? ⟨w1.heap.size, 1, none⟩ = some (.int .i64 (N : Nat)) := fun wx hx => (hx.cell (p := ⟨w1.heap.size, 1, none⟩) lq).trans s1
  have C2 : ∀ wx, Below w2.heap.size w2 wx → wx.cell? ⟨w1.heap.size, 2, none⟩ = some (.int .u64 (T : Nat)) := fun wx hx => (hx.cell (p := ⟨w1.heap.size, 2, none⟩) lq).trans s2
  have D1 := hid C1
  have D2 := hid C2
  clear C1 C2 s0 s1 s2
  refine Tail.wp_region_quiet_tail 17 (fun wx => Below w2.heap.size w2 wx) (by kernel_rfl) (by kernel_rfl) (below_dN (Below.refl _ w2) 1) ?_
  simp only [List.take_succ_cons, List.take_zero, List.drop_succ_cons, List.drop_zero]
  go_big_quiet_want
  go_big_quiet_op
  go_big_quiet_on
  go_big_quiet_want
  go_big_quiet_op
  apply Exists.intro
  refine ⟨fun _ _ => ?_, ?_⟩
  · with_reducible exact Eq.refl _
  go_big_quiet_on
  go_big_quiet_want
  go_big_quiet_op
  go_big_quiet_on
  go_big_quiet_want
  go_big_quiet_op
  go_big_quiet_on
  go_big_quiet_want
  go_big_quiet_op
  apply Exists.intro
  refine ⟨fun _ _ => ?_, ?_⟩
  · with_reducible exact Eq.refl _
  go_big_quiet_on
  go_big_quiet_want
  go_big_quiet_op
  apply Exists.intro
  refine ⟨fun _ _ => ?_, ?_⟩
  · with_reducible exact Eq.refl _
  go_big_quiet_on
  go_big_quiet_want
  go_big_quiet_op
  go_big_quiet_on
  go_big_quiet_want
  go_big_quiet_op
  apply Exists.intro
  refine ⟨fun _ _ => ?_, ?_⟩
  · with_reducible exact Eq.refl _
  go_big_quiet_on
  go_big_quiet_want
  go_big_quiet_op
  refine ⟨.int .i64 (N : Nat), fun wx hx => ?_, ?_⟩
  · have c := D1.out wx hx
    simp [go_sem, c]
  go_big_quiet_on
  go_big_quiet_want
  go_big_quiet_op
  refine ⟨.bool false, fun wx hx => ?_, ?_⟩
  · simp [go_sem]; omega
  go_big_quiet_on
  go_big_quiet_want
  go_big_quiet_op
  refine ⟨.bool false, fun wx hx => ?_, ?_⟩
  · simp [go_sem]
  go_big_quiet_on
  go_big_quiet_want
  go_big_quiet_op
  go_big_quiet_on
  go_big_quiet_want
  go_big_quiet_op
  apply Exists.intro
  refine ⟨fun _ _ => ?_, ?_⟩
  · with_reducible exact Eq.refl _
  go_big_quiet_on
  go_big_quiet_want
  go_big_quiet_op
  refine ⟨.int .u64 (T : Nat), fun wx hx => ?_, ?_⟩
  · have c := D2.out wx hx
    simp [go_sem, c]
  go_big_quiet_on
  go_big_quiet_want
  go_big_quiet_op
  go_big_quiet_on
  go_big_quiet_want
  go_big_quiet_op
  refine ⟨.int .u64 (sumP fs : Nat), fun wx hx => ?_, ?_⟩
  · refine (sum_any_ (H2.out.on hx)).mono ?_
    rintro e w9 ⟨rfl, hb9⟩
    exact ⟨rfl, hx.trans (hb9.mono hx.size)⟩
  go_big_quiet_on
  go_big_quiet_want
  go_big_quiet_op
  refine ⟨.bool false, fun wx hx => ?_, ?_⟩
  · simp [go_sem]
  go_big_quiet_on
  refine wpQuiet_nil ?_
  intro w3 hb3
  have HB3 := hid (HB2.out.trans (hb3.mono HB2.out.size))
  have lq3 : w1.heap.size < w3.heap.size := Nat.lt_of_lt_of_le lq hb3.size
  have HQ3 := hid ((hb3.block w1.heap.size lq).trans HQ.out)
  have H3 := hid (H2.out.on hb3)
  have E1 : ∀ wx, Below w3.heap.size w3 wx → wx.cell? ⟨w1.heap.size, 1, none⟩ = some (.int .i64 (N : Nat)) := fun wx hx => (hx.cell (p := ⟨w1.heap.size, 1, none⟩) lq3).trans (blk_cell HQ3.out 1)
  have F1 := hid E1
  have HLQ := hid (And.intro lq lq3)
  clear hb3 E1 D1 D2 lq lq3
  go_upto_region 8 with fail
  refine Tail.wp_region_quiet_tail 6 (fun wx => Below w3.heap.size w3 wx) (by kernel_rfl) (by kernel_rfl) (below_dN (Below.refl _ w3) 1) ?_
  simp only [List.take_succ_cons, List.take_zero, List.drop_succ_cons, List.drop_zero]
  go_big_quiet_want
  go_big_quiet_op
  go_big_quiet_on
  go_big_quiet_want
  go_big_quiet_op
  apply Exists.intro
  refine ⟨fun _ _ => ?_, ?_⟩
  · with_reducible exact Eq.refl _
  go_big_quiet_on
  go_big_quiet_want
  go_big_quiet_op
  refine ⟨.int .i64 (N : Nat), fun wx hx => ?_, ?_⟩
  · have c := F1.out wx hx
    simp [go_sem, c]
  go_big_quiet_on
  go_big_quiet_want
  go_big_quiet_op
  go_big_quiet_on
  go_big_quiet_want
  go_big_quiet_op
  refine ⟨.int .u64 (Y : Nat), fun wx hx => ?_, ?_⟩
  · refine (HSUM.out wx).mono ?_
    rintro e w9 ⟨rfl, rfl⟩
    exact ⟨rfl, hx⟩
  go_big_quiet_on
  go_big_quiet_want
  go_big_quiet_op
  apply Exists.intro
  refine ⟨fun _ _ => ?_, ?_⟩
  · with_reducible exact Eq.refl _
  go_big_quiet_on
  refine wpQuiet_nil ?_
  intro w4 hb4
  have HB4 := hid (HB3.out.trans (hb4.mono HB3.out.size))
  have hq4 := (hb4.block w1.heap.size HLQ.out.2).trans HQ3.out
  have HX := hid (H.out.also HB4.out)
  have HQ4 := hid hq4
  clear hb4 hq4
  go_wp2_with fail
  refine (take_any HX.out HN.out HY.out HL.out).mono ?_
  rintro e w5 ⟨rfl, hlf⟩
  obtain ⟨f5, hp5, hs5⟩ := hlf
  have s5 : w5.cell? ⟨w1.heap.size, 0, none⟩ = some (.int .i64 (K : Nat)) := blk_cell (hs5.at HQ4.out (Or.inr ⟨HB.out.size, by have := lt_of_block HQ4.out; exact this⟩)) 0
  have HP5 := hid (hp5.fewerO (fun k hk => (Or.inl hk)))
  have HS5 := hid ((stays_of HB4.out).trans (fewer hs5 (fun k hk => (Or.inl hk : O k ∨ (w.heap.size ≤ k ∧ k < w4.heap.size)))))
  clear hp5 hs5
  go_upto_region 9 with fail
  go_quiet (fail)
  go_wp2
  refine bodyPost_ret (v := .tuple #[.bool true, .bool false]) (by simp [results, go_sem]) rfl ?_
  exact ⟨rfl, f5, HP5.out.on (below_dN (Below.refl _ _) _), HS5.out.trans (stays_of (below_dN (Below.refl _ _) _))⟩
set_option maxRecDepth 100000 in
set_option maxHeartbeats 4000000 in
theorem tr_yes6 (h : PL O d m j b f M fs w) (i : Nat) (h0 : 0 < i) (hi : i ≤ 1000000) (s : Bs) (hok : okB s = true) (hc : kK s = kindOf true) (hn : kN s < 4096) (hs : kS s = sumP fs) (hl : fs.length < 20000) : Calls Tryz.prog 89 #[ptr j, .int .i64 (i : Nat), .string (bs s)] w (TakeR O d m j b M fs w (some (fs ++ [(kN s, sumL s)], true))) := by
  have hi0 : ((i : Int) == 0) = false := by simp; omega
  have HO := hid (fun w => open_ok hok w)
  have H := hid h
  have HL := hid hl
  have HN := hid hn
  have HSUM := hid (fun w => sum_bs (okB_iff.1 hok).1 w)
  have HY := hid (sumL_lt s)
  generalize sumL s = Y at *
  have hke : kK s = 6 := hc
  have hk5 : ((kK s : Int) == 5) = false := by simp; omega
  have hk6 : ((kK s : Int) == 6) = true := by simp; omega
  have hn1 : ¬ (4096 : Int) ≤ (kN s : Int) := by omega
  have hsalt : ((kS s : Int) != (sumP fs : Int)) = false := by simp; omega
  clear hc hn hke hs hl
  unfold slV at HO
  generalize bs s = S at *
  generalize bs (kD s) = D at *
  generalize kK s = K at *
  generalize kN s = N at *
  generalize kS s = T at *
  generalize hI : (i : Int) = I at *
  clear h h0 hi hI hok
  go_enter Tryz.func89, Tryz.ntmps89
  go_wp2_with fail
  refine (HO.out _).mono ?_
  rintro e w1 ⟨rfl, hb1⟩
  have HB := hid hb1
  clear hb1
  go_upto_region 5 with fail
  obtain ⟨w2, hw2⟩ : ∃ x, w1.alloc (.cells #[.int .i64 (K : Nat), .int .i64 (N : Nat), .int .u64 (T : Nat), .string D] tSl) = x := ⟨_, rfl⟩
  have hq : w2.heap[w1.heap.size]? = some (.cells #[.int .i64 (K : Nat), .int .i64 (N : Nat), .int .u64 (T : Nat), .string D] tSl (0, 0)) := by rw [← hw2]; exact blk_new w1 _
  have hb2 : Below w1.heap.size w1 w2 := by rw [← hw2]; exact (Below.refl _ _).alloc (Nat.le_refl _) _
  have HB2 := hid (HB.out.trans (hb2.mono HB.out.size))
  have lq := lt_of_block hq
  have s0 : w2.cell? ⟨w1.heap.size, 0, none⟩ = some (.int .i64 (K : Nat)) := blk_cell hq 0
  have s1 : w2.cell? ⟨w1.heap.size, 1, none⟩ = some (.int .i64 (N : Nat)) := blk_cell hq 1
  have s2 : w2.cell? ⟨w1.heap.size, 2, none⟩ = some (.int .u64 (T : Nat)) := blk_cell hq 2
  rw [hw2]
  have HQ := hid hq
  clear hw2 hb2 hq
  go_upto_region 6 with fail
  have H2 := hid (H.out.on HB2.out)
  have C1 : ∀ wx, Below w2.heap.size w2 wx → wx.cell? ⟨w1.heap.size, 1, none⟩ = some (.int .i64 (N : Nat)) := fun wx hx => (hx.cell (p := ⟨w1.heap.size, 1, none⟩) lq).trans s1
  have C2 : ∀ wx, Below w2.heap.size w2 wx → wx.cell? ⟨w1.heap.size, 2, none⟩ = some (.int .u64 (T : Nat)) := fun wx hx => (hx.cell (p := ⟨w1.heap.size, 2, none⟩) lq).trans s2
  have D1 := hid C1
  have D2 := hid C2
  clear C1 C2 s0 s1 s2
  refine Tail.wp_region_quiet_tail 17 (fun wx => Below w2.heap.size w2 wx) (by kernel_rfl) (by kernel_rfl) (below_dN (Below.refl _ w2) 1) ?_
  simp only [List.take_succ_cons, List.take_zero, List.drop_succ_cons, List.drop_zero]
  go_big_quiet_want
  go_big_quiet_op
  go_big_quiet_on
  go_big_quiet_want
  go_big_quiet_op
  apply Exists.intro
  refine ⟨fun _ _ => ?_, ?_⟩
  · with_reducible exact Eq.refl _
  go_big_quiet_on
  go_big_quiet_want
  go_big_quiet_op
  go_big_quiet_on
  go_big_quiet_want
  go_big_quiet_op
  go_big_quiet_on
  go_big_quiet_want
  go_big_quiet_op
  apply Exists.intro
  refine ⟨fun _ _ => ?_, ?_⟩
  · with_reducible exact Eq.refl _
  go_big_quiet_on
  go_big_quiet_want
  go_big_quiet_op
  apply Exists.intro
  refine ⟨fun _ _ => ?_, ?_⟩
  · with_reducible exact Eq.refl _
  go_big_quiet_on
  go_big_quiet_want
  go_big_quiet_op
  go_big_quiet_on
  go_big_quiet_want
  go_big_quiet_op
  apply Exists.intro
  refine ⟨fun _ _ => ?_, ?_⟩
  · with_reducible exact Eq.refl _
  go_big_quiet_on
  go_big_quiet_want
  go_big_quiet_op
  refine ⟨.int .i64 (N : Nat), fun wx hx => ?_, ?_⟩
  · have c := D1.out wx hx
    simp [go_sem, c]
  go_big_quiet_on
  go_big_quiet_want
  go_big_quiet_op
  refine ⟨.bool false, fun wx hx => ?_, ?_⟩
  · simp [go_sem]; omega
  go_big_quiet_on
  go_big_quiet_want
  go_big_quiet_op
  refine ⟨.bool false, fun wx hx => ?_, ?_⟩
  · simp [go_sem]
  go_big_quiet_on
  go_big_quiet_want
  go_big_quiet_op
  go_big_quiet_on
  go_big_quiet_want
  go_big_quiet_op
  apply Exists.intro
  refine ⟨fun _ _ => ?_, ?_⟩
  · with_reducible exact Eq.refl _
  go_big_quiet_on
  go_big_quiet_want
  go_big_quiet_op
  refine ⟨.int .u64 (T : Nat), fun wx hx => ?_, ?_⟩
  · have c := D2.out wx hx
    simp [go_sem, c]
  go_big_quiet_on
  go_big_quiet_want
  go_big_quiet_op
  go_big_quiet_on
  go_big_quiet_want
  go_big_quiet_op
  refine ⟨.int .u64 (sumP fs : Nat), fun wx hx => ?_, ?_⟩
  · refine (sum_any_ (H2.out.on hx)).mono ?_
    rintro e w9 ⟨rfl, hb9⟩
    exact ⟨rfl, hx.trans (hb9.mono hx.size)⟩
  go_big_quiet_on
  go_big_quiet_want
  go_big_quiet_op
  refine ⟨.bool false, fun wx hx => ?_, ?_⟩
  · simp [go_sem]
  go_big_quiet_on
  refine wpQuiet_nil ?_
  intro w3 hb3
  have HB3 := hid (HB2.out.trans (hb3.mono HB2.out.size))
  have lq3 : w1.heap.size < w3.heap.size := Nat.lt_of_lt_of_le lq hb3.size
  have HQ3 := hid ((hb3.block w1.heap.size lq).trans HQ.out)
  have H3 := hid (H2.out.on hb3)
  have E1 : ∀ wx, Below w3.heap.size w3 wx → wx.cell? ⟨w1.heap.size, 1, none⟩ = some (.int .i64 (N : Nat)) := fun wx hx => (hx.cell (p := ⟨w1.heap.size, 1, none⟩) lq3).trans (blk_cell HQ3.out 1)
  have F1 := hid E1
  have HLQ := hid (And.intro lq lq3)
  clear hb3 E1 D1 D2 lq lq3
  go_upto_region 8 with fail
  refine Tail.wp_region_quiet_tail 6 (fun wx => Below w3.heap.size w3 wx) (by kernel_rfl) (by kernel_rfl) (below_dN (Below.refl _ w3) 1) ?_
  simp only [List.take_succ_cons, List.take_zero, List.drop_succ_cons, List.drop_zero]
  go_big_quiet_want
  go_big_quiet_op
  go_big_quiet_on
  go_big_quiet_want
  go_big_quiet_op
  apply Exists.intro
  refine ⟨fun _ _ => ?_, ?_⟩
  · with_reducible exact Eq.refl _
  go_big_quiet_on
  go_big_quiet_want
  go_big_quiet_op
  refine ⟨.int .i64 (N : Nat), fun wx hx => ?_, ?_⟩
  · have c := F1.out wx hx
    simp [go_sem, c]
  go_big_quiet_on
  go_big_quiet_want
  go_big_quiet_op
  go_big_quiet_on
  go_big_quiet_want
  go_big_quiet_op
  refine ⟨.int .u64 (Y : Nat), fun wx hx => ?_, ?_⟩
  · refine (HSUM.out wx).mono ?_
    rintro e w9 ⟨rfl, rfl⟩
    exact ⟨rfl, hx⟩
  go_big_quiet_on
  go_big_quiet_want
  go_big_quiet_op
  apply Exists.intro
  refine ⟨fun _ _ => ?_, ?_⟩
  · with_reducible exact Eq.refl _
  go_big_quiet_on
  refine wpQuiet_nil ?_
  intro w4 hb4
  have HB4 := hid (HB3.out.trans (hb4.mono HB3.out.size))
  have hq4 := (hb4.block w1.heap.size HLQ.out.2).trans HQ3.out
  have HX := hid (H.out.also HB4.out)
  have HQ4 := hid hq4
  clear hb4 hq4
  go_wp2_with fail
  refine (take_any HX.out HN.out HY.out HL.out).mono ?_
  rintro e w5 ⟨rfl, hlf⟩
  obtain ⟨f5, hp5, hs5⟩ := hlf
  have s5 : w5.cell? ⟨w1.heap.size, 0, none⟩ = some (.int .i64 (K : Nat)) := blk_cell (hs5.at HQ4.out (Or.inr ⟨HB.out.size, by have := lt_of_block HQ4.out; exact this⟩)) 0
  have HP5 := hid (hp5.fewerO (fun k hk => (Or.inl hk)))
  have HS5 := hid ((stays_of HB4.out).trans (fewer hs5 (fun k hk => (Or.inl hk : O k ∨ (w.heap.size ≤ k ∧ k < w4.heap.size)))))
  clear hp5 hs5
  go_upto_region 9 with fail
  go_quiet (fail)
  go_wp2
  refine bodyPost_ret (v := .tuple #[.bool true, .bool true]) (by simp [results, go_sem]) rfl ?_
  exact ⟨rfl, f5, HP5.out.on (below_dN (Below.refl _ _) _), HS5.out.trans (stays_of (below_dN (Below.refl _ _) _))⟩

theorem kN_lt' (l : Bs) : kN l < 4294967296 := Seal.numAt_lt l 236 4
theorem takeRight_any (h : PL O d m j b f M fs w) (i : Nat) (hi : i ≤ 1000000) (s : Bs) (hl : fs.length < 20000) : Calls Tryz.prog 89 #[ptr j, .int .i64 (i : Nat), .string (bs s)] w (TakeR O d m j b M fs w (takeP i fs s)) := by
  rcases Nat.eq_zero_or_pos i with rfl | h0
  · exact tr_top h s
  have e0 : takeP i fs s = if okB s = false then none else if (kK s ≠ 5 ∧ kK s ≠ 6) ∨ 4096 ≤ kN s ∨ kS s ≠ sumP fs then none else some (fs ++ [(kN s, sumL s)], decide (kK s = 6)) := by
    unfold takeP
    rw [if_neg (by omega)]
  rw [e0]
  cases hok : okB s with
  | false =>
    rw [if_pos rfl]
    exact tr_bad h i h0 hi s hok
  | true =>
    rw [if_neg (by decide)]
    by_cases hk : kK s = 5 ∨ kK s = 6
    · obtain ⟨c, hc⟩ : ∃ c, kK s = kindOf c := by
        rcases hk with hk | hk
        · exact ⟨false, hk⟩
        · exact ⟨true, hk⟩
      by_cases hn : 4096 ≤ kN s
      · rw [if_pos (Or.inr (Or.inl hn))]
        cases c with
        | false => exact tr_num5 h i h0 hi s hok hc hn
        | true => exact tr_num6 h i h0 hi s hok hc hn
      · by_cases hs : kS s = sumP fs
        · rw [if_neg (by rintro (⟨h1, h2⟩ | h1 | h1); · rcases hk with hk | hk; exact h1 hk; exact h2 hk
                         · exact hn h1
                         · exact h1 hs)]
          cases c with
          | false =>
            rw [show decide (kK s = 6) = false by rw [hc]; rfl]
            exact tr_yes5 h i h0 hi s hok hc (by omega) hs hl
          | true =>
            rw [show decide (kK s = 6) = true by rw [hc]; rfl]
            exact tr_yes6 h i h0 hi s hok hc (by omega) hs hl
        · rw [if_pos (Or.inr (Or.inr hs))]
          cases c with
          | false => exact tr_salt5 h i h0 hi s hok hc (by omega) hs
          | true => exact tr_salt6 h i h0 hi s hok hc (by omega) hs
    · rw [if_pos (Or.inl ⟨fun e => hk (Or.inl e), fun e => hk (Or.inr e)⟩)]
      exact tr_kind h i h0 hi s hok hk
end Lo
end Go.Proofs.YtgmbiiocjhkpdaaGreat
