/-
  Contract of Seal: all that was noted is safe, and counts.
-/
import Derived.Test.YtpdpjgeoclilhaaGreatGrpJB
namespace Go.Proofs.YtpdpjgeoclilhaaGreat
open Go.RowKit Go.Shelf
namespace Jo
open Num (hid fixF)
open Disk (Mod Fil Sees Stays ptr blk_cell blk_free blk_new blk_set blk_other blk_alloc sync_sees)
open Seal (sealS sealS_list sealS_size)
variable {O : Nat → Prop} {d m j b P salt : Nat} {M : Mod} {J : Jou} {w : World}

theorem sync_jn {O : Nat → Prop} (h : Sees O d m M w) : Calls Tryz.prog 29 #[ptr d, .string jS] w fun e w' => e = .returned (.int .i64 (M.sync jn).1) ∧ Sees O d m (M.sync jn).2 w' ∧ Stays O w w' := sync_sees h jS (by decide)
theorem js_shut (h : JS O d m j b P salt M J w) : JS O d m j b P salt M ⟨J.noted, J.feet + 1, 0⟩ ((w.setCell ⟨j, 4, none⟩ (.int .i64 ((J.feet + 1 : Nat) : Int))).setCell ⟨j, 5, none⟩ (.int .i64 0)) ∧ Stays O w ((w.setCell ⟨j, 4, none⟩ (.int .i64 ((J.feet + 1 : Nat) : Int))).setCell ⟨j, 5, none⟩ (.int .i64 0)) := by
  have hc : Disk.Chg (· = j) w ((w.setCell ⟨j, 4, none⟩ (.int .i64 ((J.feet + 1 : Nat) : Int))).setCell ⟨j, 5, none⟩ (.int .i64 0)) :=
    Disk.Chg.setCell (F := (· = j)) (p := ⟨j, 5, none⟩) (Disk.Chg.setCell (F := (· = j)) (p := ⟨j, 4, none⟩) (Disk.Chg.refl _ _) (Or.inr rfl) _) (Or.inr rfl) _
  refine ⟨⟨sees_side h.disk hc (fun k hk _ => Or.inr (Or.inl hk)), ?_, h.set.apart hc (fun e => h.ne e.symm), h.ne, h.oj, h.ob⟩, hc.mono (fun k _ hk hO => h.oj (hk ▸ hO))⟩
  have := blk_set (blk_set h.box 4 (.int .i64 ((J.feet + 1 : Nat) : Int))) 5 (.int .i64 0)
  simpa [jCells] using this
/-- What Seal leaves. -/
def SealPost (O : Nat → Prop) (d m j b P salt : Nat) (X : Int × Jou × Mod) (w : World) (e : Ending) (w' : World) : Prop := e = .returned (.int .i64 X.1) ∧ JS O d m j b P salt X.2.2 X.2.1 w' ∧ Stays O w w'
/-- What a walk of Seal wants besides. -/
structure Room (P salt : Nat) (J : Jou) : Prop where
  pages : P ≤ 4096
  salt_ : salt < 18446744073709551616
  loose : J.loose ≤ 100000
  feet : J.feet ≤ 100000

set_option maxRecDepth 100000 in
set_option maxHeartbeats 1000000 in
theorem seal_idle (h : JS O d m j b P salt M J w) (hf : 0 < J.feet) (hl : J.loose = 0) : Calls Tryz.prog 33 #[ptr j] w (SealPost O d m j b P salt (sealM P salt J M) w) := by
  have e : sealM P salt J M = (0, J, M) := if_pos ⟨hf, hl⟩
  rw [e]
  have c4 : w.cell? ⟨j, 4, none⟩ = some (.int .i64 (J.feet : Nat)) := blk_cell h.box 4
  have c5 : w.cell? ⟨j, 5, none⟩ = some (.int .i64 (J.loose : Nat)) := blk_cell h.box 5
  have hf1 : (0 : Int) < (J.feet : Int) := by omega
  have hl1 : ((J.loose : Int) == 0) = true := by simp [hl]
  have H := hid h
  have HE := hid e
  clear h e hf hl
  go_enter Tryz.func33, Tryz.ntmps33
  go_wp2
  go_ret
  exact ⟨rfl, H.out, Disk.Stays.refl _ _⟩

set_option maxRecDepth 100000 in
set_option maxHeartbeats 4000000 in
theorem seal_zz_lay (h : JS O d m j b P salt M J w) (hr : Room P salt J) (hf : J.feet = 0) (hl : J.loose = 0) (he2 : ((layM (feetL salt P J) M).1 != 0) = true) : Calls Tryz.prog 33 #[ptr j] w (SealPost O d m j b P salt ((layM (feetL salt P J) M).1, J, (layM (feetL salt P J) M).2) w) := by
  have c4 : w.cell? ⟨j, 4, none⟩ = some (.int .i64 (J.feet : Nat)) := blk_cell h.box 4
  have c5 : w.cell? ⟨j, 5, none⟩ = some (.int .i64 (J.loose : Nat)) := blk_cell h.box 5
  have c0 : w.cell? ⟨j, 0, none⟩ = some (ptr d) := blk_cell h.box 0
  have hf1 : ¬ (0 : Int) < (J.feet : Int) := by omega
  have hl1 : ¬ (0 : Int) < (J.loose : Int) := by omega
  clear hf hl
  have H := hid h
  have HR := hid hr
  clear h hr
  go_enter Tryz.func33, Tryz.ntmps33
  go_wp2_with fail
  clear c0 c4 c5
  have C1 : ∀ wx, Below w.heap.size w wx → wx.cell? ⟨j, 1, none⟩ = some (.int .i64 (P : Nat)) := fun wx hx => blk_cell (H.out.on hx).box 1
  have C2 : ∀ wx, Below w.heap.size w wx → wx.cell? ⟨j, 2, none⟩ = some (.int .u64 (salt : Nat)) := fun wx hx => blk_cell (H.out.on hx).box 2
  have C4 : ∀ wx, Below w.heap.size w wx → wx.cell? ⟨j, 4, none⟩ = some (.int .i64 (J.feet : Nat)) := fun wx hx => blk_cell (H.out.on hx).box 4
  have C5 : ∀ wx, Below w.heap.size w wx → wx.cell? ⟨j, 5, none⟩ = some (.int .i64 (J.loose : Nat)) := fun wx hx => blk_cell (H.out.on hx).box 5
  have D1 := hid C1
  have D2 := hid C2
  have D4 := hid C4
  have D5 := hid C5
  clear C1 C2 C4 C5
  refine Tail.wp_region_quiet_tail 18 (fun wx => Below w.heap.size w wx) (by kernel_rfl) (by kernel_rfl) (Below.refl _ w).drew ?_
  simp only [List.take_succ_cons, List.take_zero, List.drop_succ_cons, List.drop_zero]
  go_big_quiet_want
  go_big_quiet_op
  go_big_quiet_on
  go_big_quiet_want
  go_big_quiet_op
  go_big_quiet_on
  go_big_quiet_want
  go_big_quiet_op
  apply Exists.intro
  refine ⟨fun _ _ => ?_, ?_⟩
  · with_reducible exact Eq.refl _
  go_big_quiet_on
  go_big_quiet_want
  go_big_quiet_op
  apply Exists.intro
  refine ⟨fun _ _ => ?_, ?_⟩
  · with_reducible exact Eq.refl _
  go_big_quiet_on
  go_big_quiet_want
  go_big_quiet_op
  refine ⟨.int .i64 (J.loose : Nat), fun wx hx => ?_, ?_⟩
  · have c := D5.out wx hx
    simp [go_sem, c]
  go_big_quiet_on
  go_big_quiet_want
  go_big_quiet_op
  go_big_quiet_on
  go_big_quiet_want
  go_big_quiet_op
  apply Exists.intro
  refine ⟨fun _ _ => ?_, ?_⟩
  · with_reducible exact Eq.refl _
  go_big_quiet_on
  go_big_quiet_want
  go_big_quiet_op
  apply Exists.intro
  refine ⟨fun _ _ => ?_, ?_⟩
  · with_reducible exact Eq.refl _
  go_big_quiet_on
  go_big_quiet_want
  go_big_quiet_op
  refine ⟨.int .i64 (P : Nat), fun wx hx => ?_, ?_⟩
  · have c := D1.out wx hx
    simp [go_sem, c]
  go_big_quiet_on
  go_big_quiet_want
  go_big_quiet_op
  go_big_quiet_on
  go_big_quiet_want
  go_big_quiet_op
  apply Exists.intro
  refine ⟨fun _ _ => ?_, ?_⟩
  · with_reducible exact Eq.refl _
  go_big_quiet_on
  go_big_quiet_want
  go_big_quiet_op
  apply Exists.intro
  refine ⟨fun _ _ => ?_, ?_⟩
  · with_reducible exact Eq.refl _
  go_big_quiet_on
  go_big_quiet_want
  go_big_quiet_op
  refine ⟨.int .i64 (J.feet : Nat), fun wx hx => ?_, ?_⟩
  · have c := D4.out wx hx
    simp [go_sem, c]
  go_big_quiet_on
  go_big_quiet_want
  go_big_quiet_op
  go_big_quiet_on
  go_big_quiet_want
  go_big_quiet_op
  apply Exists.intro
  refine ⟨fun _ _ => ?_, ?_⟩
  · with_reducible exact Eq.refl _
  go_big_quiet_on
  go_big_quiet_want
  go_big_quiet_op
  apply Exists.intro
  refine ⟨fun _ _ => ?_, ?_⟩
  · with_reducible exact Eq.refl _
  go_big_quiet_on
  go_big_quiet_want
  go_big_quiet_op
  refine ⟨.int .u64 (salt : Nat), fun wx hx => ?_, ?_⟩
  · have c := D2.out wx hx
    simp [go_sem, c]
  go_big_quiet_on
  go_big_quiet_want
  go_big_quiet_op
  refine ⟨sV 3 J.loose salt (footS P J.feet), fun wx hx => ?_, ?_⟩
  · refine (foot_any J.loose P J.feet salt (by have := HR.out.pages; omega) (by have := HR.out.feet; omega) _).mono ?_
    rintro e w9 ⟨rfl, hb9⟩
    exact ⟨rfl, hx.trans (hb9.mono hx.size)⟩
  go_big_quiet_on
  refine wpQuiet_nil ?_
  intro w2 hb2
  have H2 := hid (H.out.on hb2)
  have HS2 := hid (stays_of (O := O) hb2)
  clear hb2
  go_wp2_with fail
  refine (lay_any H2.out 3 J.loose salt (by decide) (by have := HR.out.loose; omega) HR.out.salt_ (footS P J.feet) (footS_size _ _)).mono ?_
  rintro e w3 ⟨rfl, h3, hs3⟩
  rw [footS_list] at h3 ⊢
  have H3 := hid h3
  have HS3 := hid (HS2.out.trans hs3)
  clear h3 hs3
  have hR2 : Seal.sealL 3 J.loose salt (footL P J.feet) = feetL salt P J := rfl
  rw [hR2] at H3 ⊢
  clear hR2
  go_wp2
  go_ret
  exact ⟨rfl, H3.out, HS3.out⟩

set_option maxRecDepth 100000 in
set_option maxHeartbeats 4000000 in
theorem seal_zz_last (h : JS O d m j b P salt M J w) (hr : Room P salt J) (hf : J.feet = 0) (hl : J.loose = 0) (he2 : ((layM (feetL salt P J) M).1 != 0) = false) (he3 : (((layM (feetL salt P J) M).2.sync jn).1 != 0) = true) : Calls Tryz.prog 33 #[ptr j] w (SealPost O d m j b P salt (((layM (feetL salt P J) M).2.sync jn).1, J, ((layM (feetL salt P J) M).2.sync jn).2) w) := by
  have c4 : w.cell? ⟨j, 4, none⟩ = some (.int .i64 (J.feet : Nat)) := blk_cell h.box 4
  have c5 : w.cell? ⟨j, 5, none⟩ = some (.int .i64 (J.loose : Nat)) := blk_cell h.box 5
  have c0 : w.cell? ⟨j, 0, none⟩ = some (ptr d) := blk_cell h.box 0
  have hf1 : ¬ (0 : Int) < (J.feet : Int) := by omega
  have hl1 : ¬ (0 : Int) < (J.loose : Int) := by omega
  clear hf hl
  have H := hid h
  have HR := hid hr
  clear h hr
  go_enter Tryz.func33, Tryz.ntmps33
  go_wp2_with fail
  clear c0 c4 c5
  have C1 : ∀ wx, Below w.heap.size w wx → wx.cell? ⟨j, 1, none⟩ = some (.int .i64 (P : Nat)) := fun wx hx => blk_cell (H.out.on hx).box 1
  have C2 : ∀ wx, Below w.heap.size w wx → wx.cell? ⟨j, 2, none⟩ = some (.int .u64 (salt : Nat)) := fun wx hx => blk_cell (H.out.on hx).box 2
  have C4 : ∀ wx, Below w.heap.size w wx → wx.cell? ⟨j, 4, none⟩ = some (.int .i64 (J.feet : Nat)) := fun wx hx => blk_cell (H.out.on hx).box 4
  have C5 : ∀ wx, Below w.heap.size w wx → wx.cell? ⟨j, 5, none⟩ = some (.int .i64 (J.loose : Nat)) := fun wx hx => blk_cell (H.out.on hx).box 5
  have D1 := hid C1
  have D2 := hid C2
  have D4 := hid C4
  have D5 := hid C5
  clear C1 C2 C4 C5
  refine Tail.wp_region_quiet_tail 18 (fun wx => Below w.heap.size w wx) (by kernel_rfl) (by kernel_rfl) (Below.refl _ w).drew ?_
  simp only [List.take_succ_cons, List.take_zero, List.drop_succ_cons, List.drop_zero]
  go_big_quiet_want
  go_big_quiet_op
  go_big_quiet_on
  go_big_quiet_want
  go_big_quiet_op
  go_big_quiet_on
  go_big_quiet_want
  go_big_quiet_op
  apply Exists.intro
  refine ⟨fun _ _ => ?_, ?_⟩
  · with_reducible exact Eq.refl _
  go_big_quiet_on
  go_big_quiet_want
  go_big_quiet_op
  apply Exists.intro
  refine ⟨fun _ _ => ?_, ?_⟩
  · with_reducible exact Eq.refl _
  go_big_quiet_on
  go_big_quiet_want
  go_big_quiet_op
  refine ⟨.int .i64 (J.loose : Nat), fun wx hx => ?_, ?_⟩
  · have c := D5.out wx hx
    simp [go_sem, c]
  go_big_quiet_on
  go_big_quiet_want
  go_big_quiet_op
  go_big_quiet_on
  go_big_quiet_want
  go_big_quiet_op
  apply Exists.intro
  refine ⟨fun _ _ => ?_, ?_⟩
  · with_reducible exact Eq.refl _
  go_big_quiet_on
  go_big_quiet_want
  go_big_quiet_op
  apply Exists.intro
  refine ⟨fun _ _ => ?_, ?_⟩
  · with_reducible exact Eq.refl _
  go_big_quiet_on
  go_big_quiet_want
  go_big_quiet_op
  refine ⟨.int .i64 (P : Nat), fun wx hx => ?_, ?_⟩
  · have c := D1.out wx hx
    simp [go_sem, c]
  go_big_quiet_on
  go_big_quiet_want
  go_big_quiet_op
  go_big_quiet_on
  go_big_quiet_want
  go_big_quiet_op
  apply Exists.intro
  refine ⟨fun _ _ => ?_, ?_⟩
  · with_reducible exact Eq.refl _
  go_big_quiet_on
  go_big_quiet_want
  go_big_quiet_op
  apply Exists.intro
  refine ⟨fun _ _ => ?_, ?_⟩
  · with_reducible exact Eq.refl _
  go_big_quiet_on
  go_big_quiet_want
  go_big_quiet_op
  refine ⟨.int .i64 (J.feet : Nat), fun wx hx => ?_, ?_⟩
  · have c := D4.out wx hx
    simp [go_sem, c]
  go_big_quiet_on
  go_big_quiet_want
  go_big_quiet_op
  go_big_quiet_on
  go_big_quiet_want
  go_big_quiet_op
  apply Exists.intro
  refine ⟨fun _ _ => ?_, ?_⟩
  · with_reducible exact Eq.refl _
  go_big_quiet_on
  go_big_quiet_want
  go_big_quiet_op
  apply Exists.intro
  refine ⟨fun _ _ => ?_, ?_⟩
  · with_reducible exact Eq.refl _
  go_big_quiet_on
  go_big_quiet_want
  go_big_quiet_op
  refine ⟨.int .u64 (salt : Nat), fun wx hx => ?_, ?_⟩
  · have c := D2.out wx hx
    simp [go_sem, c]
  go_big_quiet_on
  go_big_quiet_want
  go_big_quiet_op
  refine ⟨sV 3 J.loose salt (footS P J.feet), fun wx hx => ?_, ?_⟩
  · refine (foot_any J.loose P J.feet salt (by have := HR.out.pages; omega) (by have := HR.out.feet; omega) _).mono ?_
    rintro e w9 ⟨rfl, hb9⟩
    exact ⟨rfl, hx.trans (hb9.mono hx.size)⟩
  go_big_quiet_on
  refine wpQuiet_nil ?_
  intro w2 hb2
  have H2 := hid (H.out.on hb2)
  have HS2 := hid (stays_of (O := O) hb2)
  clear hb2
  go_wp2_with fail
  refine (lay_any H2.out 3 J.loose salt (by decide) (by have := HR.out.loose; omega) HR.out.salt_ (footS P J.feet) (footS_size _ _)).mono ?_
  rintro e w3 ⟨rfl, h3, hs3⟩
  rw [footS_list] at h3 ⊢
  have H3 := hid h3
  have HS3 := hid (HS2.out.trans hs3)
  clear h3 hs3
  have hR2 : Seal.sealL 3 J.loose salt (footL P J.feet) = feetL salt P J := rfl
  rw [hR2] at H3 ⊢
  clear hR2
  have c0 : w3.cell? ⟨j, 0, none⟩ = some (ptr d) := blk_cell H3.out.box 0
  go_wp2_with fail
  refine (sync_jn H3.out.disk).mono ?_
  rintro e w4 ⟨rfl, h4, hs4⟩
  have H4 := hid (H3.out.over h4 hs4)
  have HS4 := hid (HS3.out.trans (fewer hs4 (fun k hk => (Or.inl hk : O k ∨ k = j ∨ k = b))))
  clear h4 hs4 c0
  go_wp2
  go_ret
  exact ⟨rfl, H4.out, HS4.out⟩

set_option maxRecDepth 100000 in
set_option maxHeartbeats 4000000 in
theorem seal_zz_ok (h : JS O d m j b P salt M J w) (hr : Room P salt J) (hf : J.feet = 0) (hl : J.loose = 0) (he2 : ((layM (feetL salt P J) M).1 != 0) = false) (he3 : (((layM (feetL salt P J) M).2.sync jn).1 != 0) = false) : Calls Tryz.prog 33 #[ptr j] w (SealPost O d m j b P salt (0, ⟨J.noted, J.feet + 1, 0⟩, ((layM (feetL salt P J) M).2.sync jn).2) w) := by
  have c4 : w.cell? ⟨j, 4, none⟩ = some (.int .i64 (J.feet : Nat)) := blk_cell h.box 4
  have c5 : w.cell? ⟨j, 5, none⟩ = some (.int .i64 (J.loose : Nat)) := blk_cell h.box 5
  have c0 : w.cell? ⟨j, 0, none⟩ = some (ptr d) := blk_cell h.box 0
  have hf1 : ¬ (0 : Int) < (J.feet : Int) := by omega
  have hl1 : ¬ (0 : Int) < (J.loose : Int) := by omega
  clear hf hl
  have H := hid h
  have HR := hid hr
  clear h hr
  go_enter Tryz.func33, Tryz.ntmps33
  go_wp2_with fail
  clear c0 c4 c5
  have C1 : ∀ wx, Below w.heap.size w wx → wx.cell? ⟨j, 1, none⟩ = some (.int .i64 (P : Nat)) := fun wx hx => blk_cell (H.out.on hx).box 1
  have C2 : ∀ wx, Below w.heap.size w wx → wx.cell? ⟨j, 2, none⟩ = some (.int .u64 (salt : Nat)) := fun wx hx => blk_cell (H.out.on hx).box 2
  have C4 : ∀ wx, Below w.heap.size w wx → wx.cell? ⟨j, 4, none⟩ = some (.int .i64 (J.feet : Nat)) := fun wx hx => blk_cell (H.out.on hx).box 4
  have C5 : ∀ wx, Below w.heap.size w wx → wx.cell? ⟨j, 5, none⟩ = some (.int .i64 (J.loose : Nat)) := fun wx hx => blk_cell (H.out.on hx).box 5
  have D1 := hid C1
  have D2 := hid C2
  have D4 := hid C4
  have D5 := hid C5
  clear C1 C2 C4 C5
  refine Tail.wp_region_quiet_tail 18 (fun wx => Below w.heap.size w wx) (by kernel_rfl) (by kernel_rfl) (Below.refl _ w).drew ?_
  simp only [List.take_succ_cons, List.take_zero, List.drop_succ_cons, List.drop_zero]
  go_big_quiet_want
  go_big_quiet_op
  go_big_quiet_on
  go_big_quiet_want
  go_big_quiet_op
  go_big_quiet_on
  go_big_quiet_want
  go_big_quiet_op
  apply Exists.intro
  refine ⟨fun _ _ => ?_, ?_⟩
  · with_reducible exact Eq.refl _
  go_big_quiet_on
  go_big_quiet_want
  go_big_quiet_op
  apply Exists.intro
  refine ⟨fun _ _ => ?_, ?_⟩
  · with_reducible exact Eq.refl _
  go_big_quiet_on
  go_big_quiet_want
  go_big_quiet_op
  refine ⟨.int .i64 (J.loose : Nat), fun wx hx => ?_, ?_⟩
  · have c := D5.out wx hx
    simp [go_sem, c]
  go_big_quiet_on
  go_big_quiet_want
  go_big_quiet_op
  go_big_quiet_on
  go_big_quiet_want
  go_big_quiet_op
  apply Exists.intro
  refine ⟨fun _ _ => ?_, ?_⟩
  · with_reducible exact Eq.refl _
  go_big_quiet_on
  go_big_quiet_want
  go_big_quiet_op
  apply Exists.intro
  refine ⟨fun _ _ => ?_, ?_⟩
  · with_reducible exact Eq.refl _
  go_big_quiet_on
  go_big_quiet_want
  go_big_quiet_op
  refine ⟨.int .i64 (P : Nat), fun wx hx => ?_, ?_⟩
  · have c := D1.out wx hx
    simp [go_sem, c]
  go_big_quiet_on
  go_big_quiet_want
  go_big_quiet_op
  go_big_quiet_on
  go_big_quiet_want
  go_big_quiet_op
  apply Exists.intro
  refine ⟨fun _ _ => ?_, ?_⟩
  · with_reducible exact Eq.refl _
  go_big_quiet_on
  go_big_quiet_want
  go_big_quiet_op
  apply Exists.intro
  refine ⟨fun _ _ => ?_, ?_⟩
  · with_reducible exact Eq.refl _
  go_big_quiet_on
  go_big_quiet_want
  go_big_quiet_op
  refine ⟨.int .i64 (J.feet : Nat), fun wx hx => ?_, ?_⟩
  · have c := D4.out wx hx
    simp [go_sem, c]
  go_big_quiet_on
  go_big_quiet_want
  go_big_quiet_op
  go_big_quiet_on
  go_big_quiet_want
  go_big_quiet_op
  apply Exists.intro
  refine ⟨fun _ _ => ?_, ?_⟩
  · with_reducible exact Eq.refl _
  go_big_quiet_on
  go_big_quiet_want
  go_big_quiet_op
  apply Exists.intro
  refine ⟨fun _ _ => ?_, ?_⟩
  · with_reducible exact Eq.refl _
  go_big_quiet_on
  go_big_quiet_want
  go_big_quiet_op
  refine ⟨.int .u64 (salt : Nat), fun wx hx => ?_, ?_⟩
  · have c := D2.out wx hx
    simp [go_sem, c]
  go_big_quiet_on
  go_big_quiet_want
  go_big_quiet_op
  refine ⟨sV 3 J.loose salt (footS P J.feet), fun wx hx => ?_, ?_⟩
  · refine (foot_any J.loose P J.feet salt (by have := HR.out.pages; omega) (by have := HR.out.feet; omega) _).mono ?_
    rintro e w9 ⟨rfl, hb9⟩
    exact ⟨rfl, hx.trans (hb9.mono hx.size)⟩
  go_big_quiet_on
  refine wpQuiet_nil ?_
  intro w2 hb2
  have H2 := hid (H.out.on hb2)
  have HS2 := hid (stays_of (O := O) hb2)
  clear hb2
  go_wp2_with fail
  refine (lay_any H2.out 3 J.loose salt (by decide) (by have := HR.out.loose; omega) HR.out.salt_ (footS P J.feet) (footS_size _ _)).mono ?_
  rintro e w3 ⟨rfl, h3, hs3⟩
  rw [footS_list] at h3 ⊢
  have H3 := hid h3
  have HS3 := hid (HS2.out.trans hs3)
  clear h3 hs3
  have hR2 : Seal.sealL 3 J.loose salt (footL P J.feet) = feetL salt P J := rfl
  rw [hR2] at H3 ⊢
  clear hR2
  have c0 : w3.cell? ⟨j, 0, none⟩ = some (ptr d) := blk_cell H3.out.box 0
  go_wp2_with fail
  refine (sync_jn H3.out.disk).mono ?_
  rintro e w4 ⟨rfl, h4, hs4⟩
  have H4 := hid (H3.out.over h4 hs4)
  have HS4 := hid (HS3.out.trans (fewer hs4 (fun k hk => (Or.inl hk : O k ∨ k = j ∨ k = b))))
  clear h4 hs4 c0
  have k4 : w4.cell? ⟨j, 4, none⟩ = some (.int .i64 (J.feet : Nat)) := blk_cell H4.out.box 4
  have k5 : w4.cell? ⟨j, 5, none⟩ = some (.int .i64 (J.loose : Nat)) := blk_cell H4.out.box 5
  have g4 : w4.frozen? ⟨j, 4, none⟩ = false := blk_free H4.out.box 4
  have g5 : w4.frozen? ⟨j, 5, none⟩ = false := blk_free H4.out.box 5
  have hw1 : wrap64 ((J.feet : Int) + 1) = ((J.feet + 1 : Nat) : Int) := by have := HR.out.feet; rw [Num.wrap_i]; omega
  have HF := hid (js_shut H4.out)
  go_wp2
  go_ret
  exact ⟨rfl, HF.out.1, HS4.out.trans HF.out.2⟩

set_option maxRecDepth 100000 in
set_option maxHeartbeats 4000000 in
theorem seal_zp_first (h : JS O d m j b P salt M J w) (hr : Room P salt J) (hf : J.feet = 0) (hl : 0 < J.loose) (he1 : ((M.sync jn).1 != 0) = true) : Calls Tryz.prog 33 #[ptr j] w (SealPost O d m j b P salt ((M.sync jn).1, J, (M.sync jn).2) w) := by
  have c4 : w.cell? ⟨j, 4, none⟩ = some (.int .i64 (J.feet : Nat)) := blk_cell h.box 4
  have c5 : w.cell? ⟨j, 5, none⟩ = some (.int .i64 (J.loose : Nat)) := blk_cell h.box 5
  have c0 : w.cell? ⟨j, 0, none⟩ = some (ptr d) := blk_cell h.box 0
  have hf1 : ¬ (0 : Int) < (J.feet : Int) := by omega
  have hl1 : (0 : Int) < (J.loose : Int) := by omega
  clear hf hl
  have H := hid h
  have HR := hid hr
  clear h hr
  go_enter Tryz.func33, Tryz.ntmps33
  go_wp2_with fail
  refine (sync_jn H.out.disk).mono ?_
  rintro e w1 ⟨rfl, h1, hs1⟩
  have H1 := hid (H.out.over h1 hs1)
  have HS1 := hid (fewer hs1 (fun k hk => (Or.inl hk : O k ∨ k = j ∨ k = b)))
  clear h1 hs1 c0 c4 c5
  go_wp2
  go_ret
  exact ⟨rfl, H1.out, HS1.out⟩

set_option maxRecDepth 100000 in
set_option maxHeartbeats 4000000 in
theorem seal_zp_lay (h : JS O d m j b P salt M J w) (hr : Room P salt J) (hf : J.feet = 0) (hl : 0 < J.loose) (he1 : ((M.sync jn).1 != 0) = false) (he2 : ((layM (feetL salt P J) (M.sync jn).2).1 != 0) = true) : Calls Tryz.prog 33 #[ptr j] w (SealPost O d m j b P salt ((layM (feetL salt P J) (M.sync jn).2).1, J, (layM (feetL salt P J) (M.sync jn).2).2) w) := by
  have c4 : w.cell? ⟨j, 4, none⟩ = some (.int .i64 (J.feet : Nat)) := blk_cell h.box 4
  have c5 : w.cell? ⟨j, 5, none⟩ = some (.int .i64 (J.loose : Nat)) := blk_cell h.box 5
  have c0 : w.cell? ⟨j, 0, none⟩ = some (ptr d) := blk_cell h.box 0
  have hf1 : ¬ (0 : Int) < (J.feet : Int) := by omega
  have hl1 : (0 : Int) < (J.loose : Int) := by omega
  clear hf hl
  have H := hid h
  have HR := hid hr
  clear h hr
  go_enter Tryz.func33, Tryz.ntmps33
  go_wp2_with fail
  refine (sync_jn H.out.disk).mono ?_
  rintro e w1 ⟨rfl, h1, hs1⟩
  have H1 := hid (H.out.over h1 hs1)
  have HS1 := hid (fewer hs1 (fun k hk => (Or.inl hk : O k ∨ k = j ∨ k = b)))
  clear h1 hs1 c0 c4 c5
  go_wp2_with fail
  have C1 : ∀ wx, Below w1.heap.size w1 wx → wx.cell? ⟨j, 1, none⟩ = some (.int .i64 (P : Nat)) := fun wx hx => blk_cell (H1.out.on hx).box 1
  have C2 : ∀ wx, Below w1.heap.size w1 wx → wx.cell? ⟨j, 2, none⟩ = some (.int .u64 (salt : Nat)) := fun wx hx => blk_cell (H1.out.on hx).box 2
  have C4 : ∀ wx, Below w1.heap.size w1 wx → wx.cell? ⟨j, 4, none⟩ = some (.int .i64 (J.feet : Nat)) := fun wx hx => blk_cell (H1.out.on hx).box 4
  have C5 : ∀ wx, Below w1.heap.size w1 wx → wx.cell? ⟨j, 5, none⟩ = some (.int .i64 (J.loose : Nat)) := fun wx hx => blk_cell (H1.out.on hx).box 5
  have D1 := hid C1
  have D2 := hid C2
  have D4 := hid C4
  have D5 := hid C5
  clear C1 C2 C4 C5
  refine Tail.wp_region_quiet_tail 18 (fun wx => Below w1.heap.size w1 wx) (by kernel_rfl) (by kernel_rfl) (Below.refl _ w1).drew ?_
  simp only [List.take_succ_cons, List.take_zero, List.drop_succ_cons, List.drop_zero]
  go_big_quiet_want
  go_big_quiet_op
  go_big_quiet_on
  go_big_quiet_want
  go_big_quiet_op
  go_big_quiet_on
  go_big_quiet_want
  go_big_quiet_op
  apply Exists.intro
  refine ⟨fun _ _ => ?_, ?_⟩
  · with_reducible exact Eq.refl _
  go_big_quiet_on
  go_big_quiet_want
  go_big_quiet_op
  apply Exists.intro
  refine ⟨fun _ _ => ?_, ?_⟩
  · with_reducible exact Eq.refl _
  go_big_quiet_on
  go_big_quiet_want
  go_big_quiet_op
  refine ⟨.int .i64 (J.loose : Nat), fun wx hx => ?_, ?_⟩
  · have c := D5.out wx hx
    simp [go_sem, c]
  go_big_quiet_on
  go_big_quiet_want
  go_big_quiet_op
  go_big_quiet_on
  go_big_quiet_want
  go_big_quiet_op
  apply Exists.intro
  refine ⟨fun _ _ => ?_, ?_⟩
  · with_reducible exact Eq.refl _
  go_big_quiet_on
  go_big_quiet_want
  go_big_quiet_op
  apply Exists.intro
  refine ⟨fun _ _ => ?_, ?_⟩
  · with_reducible exact Eq.refl _
  go_big_quiet_on
  go_big_quiet_want
  go_big_quiet_op
  refine ⟨.int .i64 (P : Nat), fun wx hx => ?_, ?_⟩
  · have c := D1.out wx hx
    simp [go_sem, c]
  go_big_quiet_on
  go_big_quiet_want
  go_big_quiet_op
  go_big_quiet_on
  go_big_quiet_want
  go_big_quiet_op
  apply Exists.intro
  refine ⟨fun _ _ => ?_, ?_⟩
  · with_reducible exact Eq.refl _
  go_big_quiet_on
  go_big_quiet_want
  go_big_quiet_op
  apply Exists.intro
  refine ⟨fun _ _ => ?_, ?_⟩
  · with_reducible exact Eq.refl _
  go_big_quiet_on
  go_big_quiet_want
  go_big_quiet_op
  refine ⟨.int .i64 (J.feet : Nat), fun wx hx => ?_, ?_⟩
  · have c := D4.out wx hx
    simp [go_sem, c]
  go_big_quiet_on
  go_big_quiet_want
  go_big_quiet_op
  go_big_quiet_on
  go_big_quiet_want
  go_big_quiet_op
  apply Exists.intro
  refine ⟨fun _ _ => ?_, ?_⟩
  · with_reducible exact Eq.refl _
  go_big_quiet_on
  go_big_quiet_want
  go_big_quiet_op
  apply Exists.intro
  refine ⟨fun _ _ => ?_, ?_⟩
  · with_reducible exact Eq.refl _
  go_big_quiet_on
  go_big_quiet_want
  go_big_quiet_op
  refine ⟨.int .u64 (salt : Nat), fun wx hx => ?_, ?_⟩
  · have c := D2.out wx hx
    simp [go_sem, c]
  go_big_quiet_on
  go_big_quiet_want
  go_big_quiet_op
  refine ⟨sV 3 J.loose salt (footS P J.feet), fun wx hx => ?_, ?_⟩
  · refine (foot_any J.loose P J.feet salt (by have := HR.out.pages; omega) (by have := HR.out.feet; omega) _).mono ?_
    rintro e w9 ⟨rfl, hb9⟩
    exact ⟨rfl, hx.trans (hb9.mono hx.size)⟩
  go_big_quiet_on
  refine wpQuiet_nil ?_
  intro w2 hb2
  have H2 := hid (H1.out.on hb2)
  have HS2 := hid (HS1.out.trans (stays_of (O := O) hb2))
  clear hb2
  go_wp2_with fail
  refine (lay_any H2.out 3 J.loose salt (by decide) (by have := HR.out.loose; omega) HR.out.salt_ (footS P J.feet) (footS_size _ _)).mono ?_
  rintro e w3 ⟨rfl, h3, hs3⟩
  rw [footS_list] at h3 ⊢
  have H3 := hid h3
  have HS3 := hid (HS2.out.trans hs3)
  clear h3 hs3
  have hR2 : Seal.sealL 3 J.loose salt (footL P J.feet) = feetL salt P J := rfl
  rw [hR2] at H3 ⊢
  clear hR2
  go_wp2
  go_ret
  exact ⟨rfl, H3.out, HS3.out⟩

set_option maxRecDepth 100000 in
set_option maxHeartbeats 4000000 in
theorem seal_zp_last (h : JS O d m j b P salt M J w) (hr : Room P salt J) (hf : J.feet = 0) (hl : 0 < J.loose) (he1 : ((M.sync jn).1 != 0) = false) (he2 : ((layM (feetL salt P J) (M.sync jn).2).1 != 0) = false) (he3 : (((layM (feetL salt P J) (M.sync jn).2).2.sync jn).1 != 0) = true) : Calls Tryz.prog 33 #[ptr j] w (SealPost O d m j b P salt (((layM (feetL salt P J) (M.sync jn).2).2.sync jn).1, J, ((layM (feetL salt P J) (M.sync jn).2).2.sync jn).2) w) := by
  have c4 : w.cell? ⟨j, 4, none⟩ = some (.int .i64 (J.feet : Nat)) := blk_cell h.box 4
  have c5 : w.cell? ⟨j, 5, none⟩ = some (.int .i64 (J.loose : Nat)) := blk_cell h.box 5
  have c0 : w.cell? ⟨j, 0, none⟩ = some (ptr d) := blk_cell h.box 0
  have hf1 : ¬ (0 : Int) < (J.feet : Int) := by omega
  have hl1 : (0 : Int) < (J.loose : Int) := by omega
  clear hf hl
  have H := hid h
  have HR := hid hr
  clear h hr
  go_enter Tryz.func33, Tryz.ntmps33
  go_wp2_with fail
  refine (sync_jn H.out.disk).mono ?_
  rintro e w1 ⟨rfl, h1, hs1⟩
  have H1 := hid (H.out.over h1 hs1)
  have HS1 := hid (fewer hs1 (fun k hk => (Or.inl hk : O k ∨ k = j ∨ k = b)))
  clear h1 hs1 c0 c4 c5
  go_wp2_with fail
  have C1 : ∀ wx, Below w1.heap.size w1 wx → wx.cell? ⟨j, 1, none⟩ = some (.int .i64 (P : Nat)) := fun wx hx => blk_cell (H1.out.on hx).box 1
  have C2 : ∀ wx, Below w1.heap.size w1 wx → wx.cell? ⟨j, 2, none⟩ = some (.int .u64 (salt : Nat)) := fun wx hx => blk_cell (H1.out.on hx).box 2
  have C4 : ∀ wx, Below w1.heap.size w1 wx → wx.cell? ⟨j, 4, none⟩ = some (.int .i64 (J.feet : Nat)) := fun wx hx => blk_cell (H1.out.on hx).box 4
  have C5 : ∀ wx, Below w1.heap.size w1 wx → wx.cell? ⟨j, 5, none⟩ = some (.int .i64 (J.loose : Nat)) := fun wx hx => blk_cell (H1.out.on hx).box 5
  have D1 := hid C1
  have D2 := hid C2
  have D4 := hid C4
  have D5 := hid C5
  clear C1 C2 C4 C5
  refine Tail.wp_region_quiet_tail 18 (fun wx => Below w1.heap.size w1 wx) (by kernel_rfl) (by kernel_rfl) (Below.refl _ w1).drew ?_
  simp only [List.take_succ_cons, List.take_zero, List.drop_succ_cons, List.drop_zero]
  go_big_quiet_want
  go_big_quiet_op
  go_big_quiet_on
  go_big_quiet_want
  go_big_quiet_op
  go_big_quiet_on
  go_big_quiet_want
  go_big_quiet_op
  apply Exists.intro
  refine ⟨fun _ _ => ?_, ?_⟩
  · with_reducible exact Eq.refl _
  go_big_quiet_on
  go_big_quiet_want
  go_big_quiet_op
  apply Exists.intro
  refine ⟨fun _ _ => ?_, ?_⟩
  · with_reducible exact Eq.refl _
  go_big_quiet_on
  go_big_quiet_want
  go_big_quiet_op
  refine ⟨.int .i64 (J.loose : Nat), fun wx hx => ?_, ?_⟩
  · have c := D5.out wx hx
    simp [go_sem, c]
  go_big_quiet_on
  go_big_quiet_want
  go_big_quiet_op
  go_big_quiet_on
  go_big_quiet_want
  go_big_quiet_op
  apply Exists.intro
  refine ⟨fun _ _ => ?_, ?_⟩
  · with_reducible exact Eq.refl _
  go_big_quiet_on
  go_big_quiet_want
  go_big_quiet_op
  apply Exists.intro
  refine ⟨fun _ _ => ?_, ?_⟩
  · with_reducible exact Eq.refl _
  go_big_quiet_on
  go_big_quiet_want
  go_big_quiet_op
  refine ⟨.int .i64 (P : Nat), fun wx hx => ?_, ?_⟩
  · have c := D1.out wx hx
    simp [go_sem, c]
  go_big_quiet_on
  go_big_quiet_want
  go_big_quiet_op
  go_big_quiet_on
  go_big_quiet_want
  go_big_quiet_op
  apply Exists.intro
  refine ⟨fun _ _ => ?_, ?_⟩
  · with_reducible exact Eq.refl _
  go_big_quiet_on
  go_big_quiet_want
  go_big_quiet_op
  apply Exists.intro
  refine ⟨fun _ _ => ?_, ?_⟩
  · with_reducible exact Eq.refl _
  go_big_quiet_on
  go_big_quiet_want
  go_big_quiet_op
  refine ⟨.int .i64 (J.feet : Nat), fun wx hx => ?_, ?_⟩
  · have c := D4.out wx hx
    simp [go_sem, c]
  go_big_quiet_on
  go_big_quiet_want
  go_big_quiet_op
  go_big_quiet_on
  go_big_quiet_want
  go_big_quiet_op
  apply Exists.intro
  refine ⟨fun _ _ => ?_, ?_⟩
  · with_reducible exact Eq.refl _
  go_big_quiet_on
  go_big_quiet_want
  go_big_quiet_op
  apply Exists.intro
  refine ⟨fun _ _ => ?_, ?_⟩
  · with_reducible exact Eq.refl _
  go_big_quiet_on
  go_big_quiet_want
  go_big_quiet_op
  refine ⟨.int .u64 (salt : Nat), fun wx hx => ?_, ?_⟩
  · have c := D2.out wx hx
    simp [go_sem, c]
  go_big_quiet_on
  go_big_quiet_want
  go_big_quiet_op
  refine ⟨sV 3 J.loose salt (footS P J.feet), fun wx hx => ?_, ?_⟩
  · refine (foot_any J.loose P J.feet salt (by have := HR.out.pages; omega) (by have := HR.out.feet; omega) _).mono ?_
    rintro e w9 ⟨rfl, hb9⟩
    exact ⟨rfl, hx.trans (hb9.mono hx.size)⟩
  go_big_quiet_on
  refine wpQuiet_nil ?_
  intro w2 hb2
  have H2 := hid (H1.out.on hb2)
  have HS2 := hid (HS1.out.trans (stays_of (O := O) hb2))
  clear hb2
  go_wp2_with fail
  refine (lay_any H2.out 3 J.loose salt (by decide) (by have := HR.out.loose; omega) HR.out.salt_ (footS P J.feet) (footS_size _ _)).mono ?_
  rintro e w3 ⟨rfl, h3, hs3⟩
  rw [footS_list] at h3 ⊢
  have H3 := hid h3
  have HS3 := hid (HS2.out.trans hs3)
  clear h3 hs3
  have hR2 : Seal.sealL 3 J.loose salt (footL P J.feet) = feetL salt P J := rfl
  rw [hR2] at H3 ⊢
  clear hR2
  have c0 : w3.cell? ⟨j, 0, none⟩ = some (ptr d) := blk_cell H3.out.box 0
  go_wp2_with fail
  refine (sync_jn H3.out.disk).mono ?_
  rintro e w4 ⟨rfl, h4, hs4⟩
  have H4 := hid (H3.out.over h4 hs4)
  have HS4 := hid (HS3.out.trans (fewer hs4 (fun k hk => (Or.inl hk : O k ∨ k = j ∨ k = b))))
  clear h4 hs4 c0
  go_wp2
  go_ret
  exact ⟨rfl, H4.out, HS4.out⟩

set_option maxRecDepth 100000 in
set_option maxHeartbeats 4000000 in
theorem seal_zp_ok (h : JS O d m j b P salt M J w) (hr : Room P salt J) (hf : J.feet = 0) (hl : 0 < J.loose) (he1 : ((M.sync jn).1 != 0) = false) (he2 : ((layM (feetL salt P J) (M.sync jn).2).1 != 0) = false) (he3 : (((layM (feetL salt P J) (M.sync jn).2).2.sync jn).1 != 0) = false) : Calls Tryz.prog 33 #[ptr j] w (SealPost O d m j b P salt (0, ⟨J.noted, J.feet + 1, 0⟩, ((layM (feetL salt P J) (M.sync jn).2).2.sync jn).2) w) := by
  have c4 : w.cell? ⟨j, 4, none⟩ = some (.int .i64 (J.feet : Nat)) := blk_cell h.box 4
  have c5 : w.cell? ⟨j, 5, none⟩ = some (.int .i64 (J.loose : Nat)) := blk_cell h.box 5
  have c0 : w.cell? ⟨j, 0, none⟩ = some (ptr d) := blk_cell h.box 0
  have hf1 : ¬ (0 : Int) < (J.feet : Int) := by omega
  have hl1 : (0 : Int) < (J.loose : Int) := by omega
  clear hf hl
  have H := hid h
  have HR := hid hr
  clear h hr
  go_enter Tryz.func33, Tryz.ntmps33
  go_wp2_with fail
  refine (sync_jn H.out.disk).mono ?_
  rintro e w1 ⟨rfl, h1, hs1⟩
  have H1 := hid (H.out.over h1 hs1)
  have HS1 := hid (fewer hs1 (fun k hk => (Or.inl hk : O k ∨ k = j ∨ k = b)))
  clear h1 hs1 c0 c4 c5
  go_wp2_with fail
  have C1 : ∀ wx, Below w1.heap.size w1 wx → wx.cell? ⟨j, 1, none⟩ = some (.int .i64 (P : Nat)) := fun wx hx => blk_cell (H1.out.on hx).box 1
  have C2 : ∀ wx, Below w1.heap.size w1 wx → wx.cell? ⟨j, 2, none⟩ = some (.int .u64 (salt : Nat)) := fun wx hx => blk_cell (H1.out.on hx).box 2
  have C4 : ∀ wx, Below w1.heap.size w1 wx → wx.cell? ⟨j, 4, none⟩ = some (.int .i64 (J.feet : Nat)) := fun wx hx => blk_cell (H1.out.on hx).box 4
  have C5 : ∀ wx, Below w1.heap.size w1 wx → wx.cell? ⟨j, 5, none⟩ = some (.int .i64 (J.loose : Nat)) := fun wx hx => blk_cell (H1.out.on hx).box 5
  have D1 := hid C1
  have D2 := hid C2
  have D4 := hid C4
  have D5 := hid C5
  clear C1 C2 C4 C5
  refine Tail.wp_region_quiet_tail 18 (fun wx => Below w1.heap.size w1 wx) (by kernel_rfl) (by kernel_rfl) (Below.refl _ w1).drew ?_
  simp only [List.take_succ_cons, List.take_zero, List.drop_succ_cons, List.drop_zero]
  go_big_quiet_want
  go_big_quiet_op
  go_big_quiet_on
  go_big_quiet_want
  go_big_quiet_op
  go_big_quiet_on
  go_big_quiet_want
  go_big_quiet_op
  apply Exists.intro
  refine ⟨fun _ _ => ?_, ?_⟩
  · with_reducible exact Eq.refl _
  go_big_quiet_on
  go_big_quiet_want
  go_big_quiet_op
  apply Exists.intro
  refine ⟨fun _ _ => ?_, ?_⟩
  · with_reducible exact Eq.refl _
  go_big_quiet_on
  go_big_quiet_want
  go_big_quiet_op
  refine ⟨.int .i64 (J.loose : Nat), fun wx hx => ?_, ?_⟩
  · have c := D5.out wx hx
    simp [go_sem, c]
  go_big_quiet_on
  go_big_quiet_want
  go_big_quiet_op
  go_big_quiet_on
  go_big_quiet_want
  go_big_quiet_op
  apply Exists.intro
  refine ⟨fun _ _ => ?_, ?_⟩
  · with_reducible exact Eq.refl _
  go_big_quiet_on
  go_big_quiet_want
  go_big_quiet_op
  apply Exists.intro
  refine ⟨fun _ _ => ?_, ?_⟩
  · with_reducible exact Eq.refl _
  go_big_quiet_on
  go_big_quiet_want
  go_big_quiet_op
  refine ⟨.int .i64 (P : Nat), fun wx hx => ?_, ?_⟩
  · have c := D1.out wx hx
    simp [go_sem, c]
  go_big_quiet_on
  go_big_quiet_want
  go_big_quiet_op
  go_big_quiet_on
  go_big_quiet_want
  go_big_quiet_op
  apply Exists.intro
  refine ⟨fun _ _ => ?_, ?_⟩
  · with_reducible exact Eq.refl _
  go_big_quiet_on
  go_big_quiet_want
  go_big_quiet_op
  apply Exists.intro
  refine ⟨fun _ _ => ?_, ?_⟩
  · with_reducible exact Eq.refl _
  go_big_quiet_on
  go_big_quiet_want
  go_big_quiet_op
  refine ⟨.int .i64 (J.feet : Nat), fun wx hx => ?_, ?_⟩
  · have c := D4.out wx hx
    simp [go_sem, c]
  go_big_quiet_on
  go_big_quiet_want
  go_big_quiet_op
  go_big_quiet_on
  go_big_quiet_want
  go_big_quiet_op
  apply Exists.intro
  refine ⟨fun _ _ => ?_, ?_⟩
  · with_reducible exact Eq.refl _
  go_big_quiet_on
  go_big_quiet_want
  go_big_quiet_op
  apply Exists.intro
  refine ⟨fun _ _ => ?_, ?_⟩
  · with_reducible exact Eq.refl _
  go_big_quiet_on
  go_big_quiet_want
  go_big_quiet_op
  refine ⟨.int .u64 (salt : Nat), fun wx hx => ?_, ?_⟩
  · have c := D2.out wx hx
    simp [go_sem, c]
  go_big_quiet_on
  go_big_quiet_want
  go_big_quiet_op
  refine ⟨sV 3 J.loose salt (footS P J.feet), fun wx hx => ?_, ?_⟩
  · refine (foot_any J.loose P J.feet salt (by have := HR.out.pages; omega) (by have := HR.out.feet; omega) _).mono ?_
    rintro e w9 ⟨rfl, hb9⟩
    exact ⟨rfl, hx.trans (hb9.mono hx.size)⟩
  go_big_quiet_on
  refine wpQuiet_nil ?_
  intro w2 hb2
  have H2 := hid (H1.out.on hb2)
  have HS2 := hid (HS1.out.trans (stays_of (O := O) hb2))
  clear hb2
  go_wp2_with fail
  refine (lay_any H2.out 3 J.loose salt (by decide) (by have := HR.out.loose; omega) HR.out.salt_ (footS P J.feet) (footS_size _ _)).mono ?_
  rintro e w3 ⟨rfl, h3, hs3⟩
  rw [footS_list] at h3 ⊢
  have H3 := hid h3
  have HS3 := hid (HS2.out.trans hs3)
  clear h3 hs3
  have hR2 : Seal.sealL 3 J.loose salt (footL P J.feet) = feetL salt P J := rfl
  rw [hR2] at H3 ⊢
  clear hR2
  have c0 : w3.cell? ⟨j, 0, none⟩ = some (ptr d) := blk_cell H3.out.box 0
  go_wp2_with fail
  refine (sync_jn H3.out.disk).mono ?_
  rintro e w4 ⟨rfl, h4, hs4⟩
  have H4 := hid (H3.out.over h4 hs4)
  have HS4 := hid (HS3.out.trans (fewer hs4 (fun k hk => (Or.inl hk : O k ∨ k = j ∨ k = b))))
  clear h4 hs4 c0
  have k4 : w4.cell? ⟨j, 4, none⟩ = some (.int .i64 (J.feet : Nat)) := blk_cell H4.out.box 4
  have k5 : w4.cell? ⟨j, 5, none⟩ = some (.int .i64 (J.loose : Nat)) := blk_cell H4.out.box 5
  have g4 : w4.frozen? ⟨j, 4, none⟩ = false := blk_free H4.out.box 4
  have g5 : w4.frozen? ⟨j, 5, none⟩ = false := blk_free H4.out.box 5
  have hw1 : wrap64 ((J.feet : Int) + 1) = ((J.feet + 1 : Nat) : Int) := by have := HR.out.feet; rw [Num.wrap_i]; omega
  have HF := hid (js_shut H4.out)
  go_wp2
  go_ret
  exact ⟨rfl, HF.out.1, HS4.out.trans HF.out.2⟩

set_option maxRecDepth 100000 in
set_option maxHeartbeats 4000000 in
theorem seal_pp_first (h : JS O d m j b P salt M J w) (hr : Room P salt J) (hf : 0 < J.feet) (hl : 0 < J.loose) (he1 : ((M.sync jn).1 != 0) = true) : Calls Tryz.prog 33 #[ptr j] w (SealPost O d m j b P salt ((M.sync jn).1, J, (M.sync jn).2) w) := by
  have c4 : w.cell? ⟨j, 4, none⟩ = some (.int .i64 (J.feet : Nat)) := blk_cell h.box 4
  have c5 : w.cell? ⟨j, 5, none⟩ = some (.int .i64 (J.loose : Nat)) := blk_cell h.box 5
  have c0 : w.cell? ⟨j, 0, none⟩ = some (ptr d) := blk_cell h.box 0
  have hf1 : (0 : Int) < (J.feet : Int) := by omega
  have hl1 : (0 : Int) < (J.loose : Int) := by omega
  have hl2 : ((J.loose : Int) == 0) = false := by simp; omega
  clear hf hl
  have H := hid h
  have HR := hid hr
  clear h hr
  go_enter Tryz.func33, Tryz.ntmps33
  go_wp2_with fail
  refine (sync_jn H.out.disk).mono ?_
  rintro e w1 ⟨rfl, h1, hs1⟩
  have H1 := hid (H.out.over h1 hs1)
  have HS1 := hid (fewer hs1 (fun k hk => (Or.inl hk : O k ∨ k = j ∨ k = b)))
  clear h1 hs1 c0 c4 c5
  go_wp2
  go_ret
  exact ⟨rfl, H1.out, HS1.out⟩

set_option maxRecDepth 100000 in
set_option maxHeartbeats 4000000 in
theorem seal_pp_lay (h : JS O d m j b P salt M J w) (hr : Room P salt J) (hf : 0 < J.feet) (hl : 0 < J.loose) (he1 : ((M.sync jn).1 != 0) = false) (he2 : ((layM (feetL salt P J) (M.sync jn).2).1 != 0) = true) : Calls Tryz.prog 33 #[ptr j] w (SealPost O d m j b P salt ((layM (feetL salt P J) (M.sync jn).2).1, J, (layM (feetL salt P J) (M.sync jn).2).2) w) := by
  have c4 : w.cell? ⟨j, 4, none⟩ = some (.int .i64 (J.feet : Nat)) := blk_cell h.box 4
  have c5 : w.cell? ⟨j, 5, none⟩ = some (.int .i64 (J.loose : Nat)) := blk_cell h.box 5
  have c0 : w.cell? ⟨j, 0, none⟩ = some (ptr d) := blk_cell h.box 0
  have hf1 : (0 : Int) < (J.feet : Int) := by omega
  have hl1 : (0 : Int) < (J.loose : Int) := by omega
  have hl2 : ((J.loose : Int) == 0) = false := by simp; omega
  clear hf hl
  have H := hid h
  have HR := hid hr
  clear h hr
  go_enter Tryz.func33, Tryz.ntmps33
  go_wp2_with fail
  refine (sync_jn H.out.disk).mono ?_
  rintro e w1 ⟨rfl, h1, hs1⟩
  have H1 := hid (H.out.over h1 hs1)
  have HS1 := hid (fewer hs1 (fun k hk => (Or.inl hk : O k ∨ k = j ∨ k = b)))
  clear h1 hs1 c0 c4 c5
  go_wp2_with fail
  have C1 : ∀ wx, Below w1.heap.size w1 wx → wx.cell? ⟨j, 1, none⟩ = some (.int .i64 (P : Nat)) := fun wx hx => blk_cell (H1.out.on hx).box 1
  have C2 : ∀ wx, Below w1.heap.size w1 wx → wx.cell? ⟨j, 2, none⟩ = some (.int .u64 (salt : Nat)) := fun wx hx => blk_cell (H1.out.on hx).box 2
  have C4 : ∀ wx, Below w1.heap.size w1 wx → wx.cell? ⟨j, 4, none⟩ = some (.int .i64 (J.feet : Nat)) := fun wx hx => blk_cell (H1.out.on hx).box 4
  have C5 : ∀ wx, Below w1.heap.size w1 wx → wx.cell? ⟨j, 5, none⟩ = some (.int .i64 (J.loose : Nat)) := fun wx hx => blk_cell (H1.out.on hx).box 5
  have D1 := hid C1
  have D2 := hid C2
  have D4 := hid C4
  have D5 := hid C5
  clear C1 C2 C4 C5
  refine Tail.wp_region_quiet_tail 18 (fun wx => Below w1.heap.size w1 wx) (by kernel_rfl) (by kernel_rfl) (Below.refl _ w1).drew ?_
  simp only [List.take_succ_cons, List.take_zero, List.drop_succ_cons, List.drop_zero]
  go_big_quiet_want
  go_big_quiet_op
  go_big_quiet_on
  go_big_quiet_want
  go_big_quiet_op
  go_big_quiet_on
  go_big_quiet_want
  go_big_quiet_op
  apply Exists.intro
  refine ⟨fun _ _ => ?_, ?_⟩
  · with_reducible exact Eq.refl _
  go_big_quiet_on
  go_big_quiet_want
  go_big_quiet_op
  apply Exists.intro
  refine ⟨fun _ _ => ?_, ?_⟩
  · with_reducible exact Eq.refl _
  go_big_quiet_on
  go_big_quiet_want
  go_big_quiet_op
  refine ⟨.int .i64 (J.loose : Nat), fun wx hx => ?_, ?_⟩
  · have c := D5.out wx hx
    simp [go_sem, c]
  go_big_quiet_on
  go_big_quiet_want
  go_big_quiet_op
  go_big_quiet_on
  go_big_quiet_want
  go_big_quiet_op
  apply Exists.intro
  refine ⟨fun _ _ => ?_, ?_⟩
  · with_reducible exact Eq.refl _
  go_big_quiet_on
  go_big_quiet_want
  go_big_quiet_op
  apply Exists.intro
  refine ⟨fun _ _ => ?_, ?_⟩
  · with_reducible exact Eq.refl _
  go_big_quiet_on
  go_big_quiet_want
  go_big_quiet_op
  refine ⟨.int .i64 (P : Nat), fun wx hx => ?_, ?_⟩
  · have c := D1.out wx hx
    simp [go_sem, c]
  go_big_quiet_on
  go_big_quiet_want
  go_big_quiet_op
  go_big_quiet_on
  go_big_quiet_want
  go_big_quiet_op
  apply Exists.intro
  refine ⟨fun _ _ => ?_, ?_⟩
  · with_reducible exact Eq.refl _
  go_big_quiet_on
  go_big_quiet_want
  go_big_quiet_op
  apply Exists.intro
  refine ⟨fun _ _ => ?_, ?_⟩
  · with_reducible exact Eq.refl _
  go_big_quiet_on
  go_big_quiet_want
  go_big_quiet_op
  refine ⟨.int .i64 (J.feet : Nat), fun wx hx => ?_, ?_⟩
  · have c := D4.out wx hx
    simp [go_sem, c]
  go_big_quiet_on
  go_big_quiet_want
  go_big_quiet_op
  go_big_quiet_on
  go_big_quiet_want
  go_big_quiet_op
  apply Exists.intro
  refine ⟨fun _ _ => ?_, ?_⟩
  · with_reducible exact Eq.refl _
  go_big_quiet_on
  go_big_quiet_want
  go_big_quiet_op
  apply Exists.intro
  refine ⟨fun _ _ => ?_, ?_⟩
  · with_reducible exact Eq.refl _
  go_big_quiet_on
  go_big_quiet_want
  go_big_quiet_op
  refine ⟨.int .u64 (salt : Nat), fun wx hx => ?_, ?_⟩
  · have c := D2.out wx hx
    simp [go_sem, c]
  go_big_quiet_on
  go_big_quiet_want
  go_big_quiet_op
  refine ⟨sV 3 J.loose salt (footS P J.feet), fun wx hx => ?_, ?_⟩
  · refine (foot_any J.loose P J.feet salt (by have := HR.out.pages; omega) (by have := HR.out.feet; omega) _).mono ?_
    rintro e w9 ⟨rfl, hb9⟩
    exact ⟨rfl, hx.trans (hb9.mono hx.size)⟩
  go_big_quiet_on
  refine wpQuiet_nil ?_
  intro w2 hb2
  have H2 := hid (H1.out.on hb2)
  have HS2 := hid (HS1.out.trans (stays_of (O := O) hb2))
  clear hb2
  go_wp2_with fail
  refine (lay_any H2.out 3 J.loose salt (by decide) (by have := HR.out.loose; omega) HR.out.salt_ (footS P J.feet) (footS_size _ _)).mono ?_
  rintro e w3 ⟨rfl, h3, hs3⟩
  rw [footS_list] at h3 ⊢
  have H3 := hid h3
  have HS3 := hid (HS2.out.trans hs3)
  clear h3 hs3
  have hR2 : Seal.sealL 3 J.loose salt (footL P J.feet) = feetL salt P J := rfl
  rw [hR2] at H3 ⊢
  clear hR2
  go_wp2
  go_ret
  exact ⟨rfl, H3.out, HS3.out⟩

set_option maxRecDepth 100000 in
set_option maxHeartbeats 4000000 in
theorem seal_pp_last (h : JS O d m j b P salt M J w) (hr : Room P salt J) (hf : 0 < J.feet) (hl : 0 < J.loose) (he1 : ((M.sync jn).1 != 0) = false) (he2 : ((layM (feetL salt P J) (M.sync jn).2).1 != 0) = false) (he3 : (((layM (feetL salt P J) (M.sync jn).2).2.sync jn).1 != 0) = true) : Calls Tryz.prog 33 #[ptr j] w (SealPost O d m j b P salt (((layM (feetL salt P J) (M.sync jn).2).2.sync jn).1, J, ((layM (feetL salt P J) (M.sync jn).2).2.sync jn).2) w) := by
  have c4 : w.cell? ⟨j, 4, none⟩ = some (.int .i64 (J.feet : Nat)) := blk_cell h.box 4
  have c5 : w.cell? ⟨j, 5, none⟩ = some (.int .i64 (J.loose : Nat)) := blk_cell h.box 5
  have c0 : w.cell? ⟨j, 0, none⟩ = some (ptr d) := blk_cell h.box 0
  have hf1 : (0 : Int) < (J.feet : Int) := by omega
  have hl1 : (0 : Int) < (J.loose : Int) := by omega
  have hl2 : ((J.loose : Int) == 0) = false := by simp; omega
  clear hf hl
  have H := hid h
  have HR := hid hr
  clear h hr
  go_enter Tryz.func33, Tryz.ntmps33
  go_wp2_with fail
  refine (sync_jn H.out.disk).mono ?_
  rintro e w1 ⟨rfl, h1, hs1⟩
  have H1 := hid (H.out.over h1 hs1)
  have HS1 := hid (fewer hs1 (fun k hk => (Or.inl hk : O k ∨ k = j ∨ k = b)))
  clear h1 hs1 c0 c4 c5
  go_wp2_with fail
  have C1 : ∀ wx, Below w1.heap.size w1 wx → wx.cell? ⟨j, 1, none⟩ = some (.int .i64 (P : Nat)) := fun wx hx => blk_cell (H1.out.on hx).box 1
  have C2 : ∀ wx, Below w1.heap.size w1 wx → wx.cell? ⟨j, 2, none⟩ = some (.int .u64 (salt : Nat)) := fun wx hx => blk_cell (H1.out.on hx).box 2
  have C4 : ∀ wx, Below w1.heap.size w1 wx → wx.cell? ⟨j, 4, none⟩ = some (.int .i64 (J.feet : Nat)) := fun wx hx => blk_cell (H1.out.on hx).box 4
  have C5 : ∀ wx, Below w1.heap.size w1 wx → wx.cell? ⟨j, 5, none⟩ = some (.int .i64 (J.loose : Nat)) := fun wx hx => blk_cell (H1.out.on hx).box 5
  have D1 := hid C1
  have D2 := hid C2
  have D4 := hid C4
  have D5 := hid C5
  clear C1 C2 C4 C5
  refine Tail.wp_region_quiet_tail 18 (fun wx => Below w1.heap.size w1 wx) (by kernel_rfl) (by kernel_rfl) (Below.refl _ w1).drew ?_
  simp only [List.take_succ_cons, List.take_zero, List.drop_succ_cons, List.drop_zero]
  go_big_quiet_want
  go_big_quiet_op
  go_big_quiet_on
  go_big_quiet_want
  go_big_quiet_op
  go_big_quiet_on
  go_big_quiet_want
  go_big_quiet_op
  apply Exists.intro
  refine ⟨fun _ _ => ?_, ?_⟩
  · with_reducible exact Eq.refl _
  go_big_quiet_on
  go_big_quiet_want
  go_big_quiet_op
  apply Exists.intro
  refine ⟨fun _ _ => ?_, ?_⟩
  · with_reducible exact Eq.refl _
  go_big_quiet_on
  go_big_quiet_want
  go_big_quiet_op
  refine ⟨.int .i64 (J.loose : Nat), fun wx hx => ?_, ?_⟩
  · have c := D5.out wx hx
    simp [go_sem, c]
  go_big_quiet_on
  go_big_quiet_want
  go_big_quiet_op
  go_big_quiet_on
  go_big_quiet_want
  go_big_quiet_op
  apply Exists.intro
  refine ⟨fun _ _ => ?_, ?_⟩
  · with_reducible exact Eq.refl _
  go_big_quiet_on
  go_big_quiet_want
  go_big_quiet_op
  apply Exists.intro
  refine ⟨fun _ _ => ?_, ?_⟩
  · with_reducible exact Eq.refl _
  go_big_quiet_on
  go_big_quiet_want
  go_big_quiet_op
  refine ⟨.int .i64 (P : Nat), fun wx hx => ?_, ?_⟩
  · have c := D1.out wx hx
    simp [go_sem, c]
  go_big_quiet_on
  go_big_quiet_want
  go_big_quiet_op
  go_big_quiet_on
  go_big_quiet_want
  go_big_quiet_op
  apply Exists.intro
  refine ⟨fun _ _ => ?_, ?_⟩
  · with_reducible exact Eq.refl _
  go_big_quiet_on
  go_big_quiet_want
  go_big_quiet_op
  apply Exists.intro
  refine ⟨fun _ _ => ?_, ?_⟩
  · with_reducible exact Eq.refl _
  go_big_quiet_on
  go_big_quiet_want
  go_big_quiet_op
  refine ⟨.int .i64 (J.feet : Nat), fun wx hx => ?_, ?_⟩
  · have c := D4.out wx hx
    simp [go_sem, c]
  go_big_quiet_on
  go_big_quiet_want
  go_big_quiet_op
  go_big_quiet_on
  go_big_quiet_want
  go_big_quiet_op
  apply Exists.intro
  refine ⟨fun _ _ => ?_, ?_⟩
  · with_reducible exact Eq.refl _
  go_big_quiet_on
  go_big_quiet_want
  go_big_quiet_op
  apply Exists.intro
  refine ⟨fun _ _ => ?_, ?_⟩
  · with_reducible exact Eq.refl _
  go_big_quiet_on
  go_big_quiet_want
  go_big_quiet_op
  refine ⟨.int .u64 (salt : Nat), fun wx hx => ?_, ?_⟩
  · have c := D2.out wx hx
    simp [go_sem, c]
  go_big_quiet_on
  go_big_quiet_want
  go_big_quiet_op
  refine ⟨sV 3 J.loose salt (footS P J.feet), fun wx hx => ?_, ?_⟩
  · refine (foot_any J.loose P J.feet salt (by have := HR.out.pages; omega) (by have := HR.out.feet; omega) _).mono ?_
    rintro e w9 ⟨rfl, hb9⟩
    exact ⟨rfl, hx.trans (hb9.mono hx.size)⟩
  go_big_quiet_on
  refine wpQuiet_nil ?_
  intro w2 hb2
  have H2 := hid (H1.out.on hb2)
  have HS2 := hid (HS1.out.trans (stays_of (O := O) hb2))
  clear hb2
  go_wp2_with fail
  refine (lay_any H2.out 3 J.loose salt (by decide) (by have := HR.out.loose; omega) HR.out.salt_ (footS P J.feet) (footS_size _ _)).mono ?_
  rintro e w3 ⟨rfl, h3, hs3⟩
  rw [footS_list] at h3 ⊢
  have H3 := hid h3
  have HS3 := hid (HS2.out.trans hs3)
  clear h3 hs3
  have hR2 : Seal.sealL 3 J.loose salt (footL P J.feet) = feetL salt P J := rfl
  rw [hR2] at H3 ⊢
  clear hR2
  have c0 : w3.cell? ⟨j, 0, none⟩ = some (ptr d) := blk_cell H3.out.box 0
  go_wp2_with fail
  refine (sync_jn H3.out.disk).mono ?_
  rintro e w4 ⟨rfl, h4, hs4⟩
  have H4 := hid (H3.out.over h4 hs4)
  have HS4 := hid (HS3.out.trans (fewer hs4 (fun k hk => (Or.inl hk : O k ∨ k = j ∨ k = b))))
  clear h4 hs4 c0
  go_wp2
  go_ret
  exact ⟨rfl, H4.out, HS4.out⟩

set_option maxRecDepth 100000 in
set_option maxHeartbeats 4000000 in
theorem seal_pp_ok (h : JS O d m j b P salt M J w) (hr : Room P salt J) (hf : 0 < J.feet) (hl : 0 < J.loose) (he1 : ((M.sync jn).1 != 0) = false) (he2 : ((layM (feetL salt P J) (M.sync jn).2).1 != 0) = false) (he3 : (((layM (feetL salt P J) (M.sync jn).2).2.sync jn).1 != 0) = false) : Calls Tryz.prog 33 #[ptr j] w (SealPost O d m j b P salt (0, ⟨J.noted, J.feet + 1, 0⟩, ((layM (feetL salt P J) (M.sync jn).2).2.sync jn).2) w) := by
  have c4 : w.cell? ⟨j, 4, none⟩ = some (.int .i64 (J.feet : Nat)) := blk_cell h.box 4
  have c5 : w.cell? ⟨j, 5, none⟩ = some (.int .i64 (J.loose : Nat)) := blk_cell h.box 5
  have c0 : w.cell? ⟨j, 0, none⟩ = some (ptr d) := blk_cell h.box 0
  have hf1 : (0 : Int) < (J.feet : Int) := by omega
  have hl1 : (0 : Int) < (J.loose : Int) := by omega
  have hl2 : ((J.loose : Int) == 0) = false := by simp; omega
  clear hf hl
  have H := hid h
  have HR := hid hr
  clear h hr
  go_enter Tryz.func33, Tryz.ntmps33
  go_wp2_with fail
  refine (sync_jn H.out.disk).mono ?_
  rintro e w1 ⟨rfl, h1, hs1⟩
  have H1 := hid (H.out.over h1 hs1)
  have HS1 := hid (fewer hs1 (fun k hk => (Or.inl hk : O k ∨ k = j ∨ k = b)))
  clear h1 hs1 c0 c4 c5
  go_wp2_with fail
  have C1 : ∀ wx, Below w1.heap.size w1 wx → wx.cell? ⟨j, 1, none⟩ = some (.int .i64 (P : Nat)) := fun wx hx => blk_cell (H1.out.on hx).box 1
  have C2 : ∀ wx, Below w1.heap.size w1 wx → wx.cell? ⟨j, 2, none⟩ = some (.int .u64 (salt : Nat)) := fun wx hx => blk_cell (H1.out.on hx).box 2
  have C4 : ∀ wx, Below w1.heap.size w1 wx → wx.cell? ⟨j, 4, none⟩ = some (.int .i64 (J.feet : Nat)) := fun wx hx => blk_cell (H1.out.on hx).box 4
  have C5 : ∀ wx, Below w1.heap.size w1 wx → wx.cell? ⟨j, 5, none⟩ = some (.int .i64 (J.loose : Nat)) := fun wx hx => blk_cell (H1.out.on hx).box 5
  have D1 := hid C1
  have D2 := hid C2
  have D4 := hid C4
  have D5 := hid C5
  clear C1 C2 C4 C5
  refine Tail.wp_region_quiet_tail 18 (fun wx => Below w1.heap.size w1 wx) (by kernel_rfl) (by kernel_rfl) (Below.refl _ w1).drew ?_
  simp only [List.take_succ_cons, List.take_zero, List.drop_succ_cons, List.drop_zero]
  go_big_quiet_want
  go_big_quiet_op
  go_big_quiet_on
  go_big_quiet_want
  go_big_quiet_op
  go_big_quiet_on
  go_big_quiet_want
  go_big_quiet_op
  apply Exists.intro
  refine ⟨fun _ _ => ?_, ?_⟩
  · with_reducible exact Eq.refl _
  go_big_quiet_on
  go_big_quiet_want
  go_big_quiet_op
  apply Exists.intro
  refine ⟨fun _ _ => ?_, ?_⟩
  · with_reducible exact Eq.refl _
  go_big_quiet_on
  go_big_quiet_want
  go_big_quiet_op
  refine ⟨.int .i64 (J.loose : Nat), fun wx hx => ?_, ?_⟩
  · have c := D5.out wx hx
    simp [go_sem, c]
  go_big_quiet_on
  go_big_quiet_want
  go_big_quiet_op
  go_big_quiet_on
  go_big_quiet_want
  go_big_quiet_op
  apply Exists.intro
  refine ⟨fun _ _ => ?_, ?_⟩
  · with_reducible exact Eq.refl _
  go_big_quiet_on
  go_big_quiet_want
  go_big_quiet_op
  apply Exists.intro
  refine ⟨fun _ _ => ?_, ?_⟩
  · with_reducible exact Eq.refl _
  go_big_quiet_on
  go_big_quiet_want
  go_big_quiet_op
  refine ⟨.int .i64 (P : Nat), fun wx hx => ?_, ?_⟩
  · have c := D1.out wx hx
    simp [go_sem, c]
  go_big_quiet_on
  go_big_quiet_want
  go_big_quiet_op
  go_big_quiet_on
  go_big_quiet_want
  go_big_quiet_op
  apply Exists.intro
  refine ⟨fun _ _ => ?_, ?_⟩
  · with_reducible exact Eq.refl _
  go_big_quiet_on
  go_big_quiet_want
  go_big_quiet_op
  apply Exists.intro
  refine ⟨fun _ _ => ?_, ?_⟩
  · with_reducible exact Eq.refl _
  go_big_quiet_on
  go_big_quiet_want
  go_big_quiet_op
  refine ⟨.int .i64 (J.feet : Nat), fun wx hx => ?_, ?_⟩
  · have c := D4.out wx hx
    simp [go_sem, c]
  go_big_quiet_on
  go_big_quiet_want
  go_big_quiet_op
  go_big_quiet_on
  go_big_quiet_want
  go_big_quiet_op
  apply Exists.intro
  refine ⟨fun _ _ => ?_, ?_⟩
  · with_reducible exact Eq.refl _
  go_big_quiet_on
  go_big_quiet_want
  go_big_quiet_op
  apply Exists.intro
  refine ⟨fun _ _ => ?_, ?_⟩
  · with_reducible exact Eq.refl _
  go_big_quiet_on
  go_big_quiet_want
  go_big_quiet_op
  refine ⟨.int .u64 (salt : Nat), fun wx hx => ?_, ?_⟩
  · have c := D2.out wx hx
    simp [go_sem, c]
  go_big_quiet_on
  go_big_quiet_want
  go_big_quiet_op
  refine ⟨sV 3 J.loose salt (footS P J.feet), fun wx hx => ?_, ?_⟩
  · refine (foot_any J.loose P J.feet salt (by have := HR.out.pages; omega) (by have := HR.out.feet; omega) _).mono ?_
    rintro e w9 ⟨rfl, hb9⟩
    exact ⟨rfl, hx.trans (hb9.mono hx.size)⟩
  go_big_quiet_on
  refine wpQuiet_nil ?_
  intro w2 hb2
  have H2 := hid (H1.out.on hb2)
  have HS2 := hid (HS1.out.trans (stays_of (O := O) hb2))
  clear hb2
  go_wp2_with fail
  refine (lay_any H2.out 3 J.loose salt (by decide) (by have := HR.out.loose; omega) HR.out.salt_ (footS P J.feet) (footS_size _ _)).mono ?_
  rintro e w3 ⟨rfl, h3, hs3⟩
  rw [footS_list] at h3 ⊢
  have H3 := hid h3
  have HS3 := hid (HS2.out.trans hs3)
  clear h3 hs3
  have hR2 : Seal.sealL 3 J.loose salt (footL P J.feet) = feetL salt P J := rfl
  rw [hR2] at H3 ⊢
  clear hR2
  have c0 : w3.cell? ⟨j, 0, none⟩ = some (ptr d) := blk_cell H3.out.box 0
  go_wp2_with fail
  refine (sync_jn H3.out.disk).mono ?_
  rintro e w4 ⟨rfl, h4, hs4⟩
  have H4 := hid (H3.out.over h4 hs4)
  have HS4 := hid (HS3.out.trans (fewer hs4 (fun k hk => (Or.inl hk : O k ∨ k = j ∨ k = b))))
  clear h4 hs4 c0
  have k4 : w4.cell? ⟨j, 4, none⟩ = some (.int .i64 (J.feet : Nat)) := blk_cell H4.out.box 4
  have k5 : w4.cell? ⟨j, 5, none⟩ = some (.int .i64 (J.loose : Nat)) := blk_cell H4.out.box 5
  have g4 : w4.frozen? ⟨j, 4, none⟩ = false := blk_free H4.out.box 4
  have g5 : w4.frozen? ⟨j, 5, none⟩ = false := blk_free H4.out.box 5
  have hw1 : wrap64 ((J.feet : Int) + 1) = ((J.feet + 1 : Nat) : Int) := by have := HR.out.feet; rw [Num.wrap_i]; omega
  have HF := hid (js_shut H4.out)
  go_wp2
  go_ret
  exact ⟨rfl, HF.out.1, HS4.out.trans HF.out.2⟩

theorem bne_no {x : Int} (h : x = 0) : (x != 0) = false := by rw [h]; rfl
theorem bne_yes {x : Int} (h : ¬ x = 0) : (x != 0) = true := by simp [h]
/-- Seal, whatever stands on the disk. -/
theorem seal_any (h : JS O d m j b P salt M J w) (hr : Room P salt J) : Calls Tryz.prog 33 #[ptr j] w (SealPost O d m j b P salt (sealM P salt J M) w) := by
  by_cases h0 : 0 < J.feet ∧ J.loose = 0
  · exact seal_idle h h0.1 h0.2
  · unfold sealM
    rw [if_neg h0]
    unfold firstM
    by_cases hl : 0 < J.loose
    · rw [if_pos hl]
      have ways : J.feet = 0 ∨ 0 < J.feet := by omega
      by_cases e1 : (M.sync jn).1 = 0
      · rw [if_neg (by rw [e1]; decide)]
        by_cases e2 : (layM (feetL salt P J) (M.sync jn).2).1 = 0
        · rw [if_neg (by rw [e2]; decide)]
          by_cases e3 : ((layM (feetL salt P J) (M.sync jn).2).2.sync jn).1 = 0
          · rw [if_neg (by rw [e3]; decide)]
            rcases ways with hf | hf
            · exact seal_zp_ok h hr hf hl (bne_no e1) (bne_no e2) (bne_no e3)
            · exact seal_pp_ok h hr hf hl (bne_no e1) (bne_no e2) (bne_no e3)
          · rw [if_pos e3]
            rcases ways with hf | hf
            · exact seal_zp_last h hr hf hl (bne_no e1) (bne_no e2) (bne_yes e3)
            · exact seal_pp_last h hr hf hl (bne_no e1) (bne_no e2) (bne_yes e3)
        · rw [if_pos e2]
          rcases ways with hf | hf
          · exact seal_zp_lay h hr hf hl (bne_no e1) (bne_yes e2)
          · exact seal_pp_lay h hr hf hl (bne_no e1) (bne_yes e2)
      · rw [if_pos e1]
        rcases ways with hf | hf
        · exact seal_zp_first h hr hf hl (bne_yes e1)
        · exact seal_pp_first h hr hf hl (bne_yes e1)
    · rw [if_neg hl]
      have hl0 : J.loose = 0 := by omega
      have hf : J.feet = 0 := by omega
      rw [if_neg (show ¬ ((0, M) : Int × Mod).1 ≠ 0 from fun h => h rfl)]
      by_cases e2 : (layM (feetL salt P J) M).1 = 0
      · rw [if_neg (by rw [e2]; decide)]
        by_cases e3 : ((layM (feetL salt P J) M).2.sync jn).1 = 0
        · rw [if_neg (by rw [e3]; decide)]
          exact seal_zz_ok h hr hf hl0 (bne_no e2) (bne_no e3)
        · rw [if_pos e3]
          exact seal_zz_last h hr hf hl0 (bne_no e2) (bne_yes e3)
      · rw [if_pos e2]
        exact seal_zz_lay h hr hf hl0 (bne_yes e2)

end Jo
end Go.Proofs.YtpdpjgeoclilhaaGreat
