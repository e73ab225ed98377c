/-
  Contract of takeFoot: a foot is held against the one that would have been written.
-/
import Derived.Test.YtpdpjgeoclilhaaGreatJouFound
namespace Go.Proofs.YtpdpjgeoclilhaaGreat
open Go.RowKit Go.Shelf
namespace Jo
open Num (hid)
open Seal (wp_region_quiet_in)
open Mem (Bs bs tS Chg ptr blk_cell blk_free blk_new blk_set blk_other blk_alloc row_kept row_shape row_type)
variable {p : Nat} {v : Value} {f : Fnd} {w w' : World}

def footPd (f : Fnd) (d : Bs) : Nat := if f.feet = 0 then Seal.numAt d 0 4 else f.pages
def rightNd (f : Fnd) (N : Nat) (d : Bs) : Bool :=
  decide (footPd f d ≤ 4096) && decide (f.above ≤ footPd f d) && decide (N = f.recs.length - f.counted) && decide (d = footL (footPd f d) f.feet)
theorem head_take (s : List UInt8) : Seal.numAt (s.take 232) 0 4 = Seal.numAt s 0 4 := by
  unfold Seal.numAt
  rw [List.drop_zero, List.drop_zero, List.take_take]
  congr 1
theorem right_nd (f : Fnd) (s : List UInt8) : rightFoot f s = rightNd f (kN s) (kD s) := by
  have e : footPd f (kD s) = footP f s := by unfold footPd footP kD; rw [head_take]
  unfold rightFoot rightNd
  rw [e]
theorem foot_toList (d : Bs) (q k : Nat) : ((bs d).toList == (footS q k).toList) = decide (d = footL q k) := by
  have e : ∀ b : ByteArray, b.toList = b.data.toList := fun b => by simpa using ByteArray.toList_eq b
  have e2 : (bs d).data.toList = d := rfl
  rw [e, e, footS_list, e2]
  by_cases h : d = footL q k
  · rw [decide_eq_true h]; simpa using h
  · rw [decide_eq_false h]; simpa using h
/-- The bounds within which a walk reckons. -/
structure Bnd (f : Fnd) : Prop where
  counted : f.counted ≤ f.recs.length
  recs : f.recs.length ≤ 100000
  feet : f.feet ≤ 100000
  pages : f.pages ≤ 4096
  above : f.above ≤ 4096
/-- The first two stores. -/
theorem FB.fed (h : FB p v f w) (q : Nat) : FB p v ⟨f.begun, f.salt, f.recs, f.above, f.feet + 1, q, f.counted⟩ ((w.setCell ⟨p, 5, none⟩ (.int .i64 (q : Nat))).setCell ⟨p, 4, none⟩ (.int .i64 ((f.feet : Int) + 1))) ∧ Chg (· = p) w ((w.setCell ⟨p, 5, none⟩ (.int .i64 (q : Nat))).setCell ⟨p, 4, none⟩ (.int .i64 ((f.feet : Int) + 1))) := by
  have hs : Chg (· = p) w ((w.setCell ⟨p, 5, none⟩ (.int .i64 (q : Nat))).setCell ⟨p, 4, none⟩ (.int .i64 ((f.feet : Int) + 1))) := ((Chg.refl (· = p) w).root 5 _).root 4 _
  refine ⟨⟨?_, row_kept h.row hs (fun g hg e => h.ne g hg e), h.ne⟩, hs⟩
  have := blk_set (blk_set h.box 5 (.int .i64 (q : Nat))) 4 (.int .i64 ((f.feet : Int) + 1))
  simpa [fCells] using this
theorem FB.counts (h : FB p v f w) : FB p v ⟨f.begun, f.salt, f.recs, f.above, f.feet, f.pages, f.recs.length⟩ (w.setCell ⟨p, 6, none⟩ (.int .i64 (f.recs.length : Nat))) ∧ Chg (· = p) w (w.setCell ⟨p, 6, none⟩ (.int .i64 (f.recs.length : Nat))) := by
  have hs : Chg (· = p) w (w.setCell ⟨p, 6, none⟩ (.int .i64 (f.recs.length : Nat))) := (Chg.refl (· = p) w).root 6 _
  refine ⟨⟨?_, row_kept h.row hs (fun g hg e => h.ne g hg e), h.ne⟩, hs⟩
  have := blk_set h.box 6 (.int .i64 (f.recs.length : Nat))
  simpa [fCells] using this

set_option maxRecDepth 100000 in
set_option maxHeartbeats 4000000 in
theorem foot_f_below (h : FB p v f w) (hb : Bnd f) (K N : Nat) (d : Bs) (hf : f.feet ≠ 0) (hp : f.pages ≤ 4096) (ha : f.pages < f.above) :
    Calls Tryz.prog 80 #[ptr p, sV K N f.salt (bs d)] w fun e w' => e = .returned (.bool false) ∧ Below w.heap.size w w' := by
  have hf1 : ((f.feet : Int) == 0) = false := by simp; omega
  have hq4 : f.pages < 4294967296 := by have := hb.pages; omega
  obtain ⟨q, hqe⟩ : ∃ q, f.pages = q := ⟨_, rfl⟩
  rw [hqe] at hp hq4 ha
  have hp1 : ¬ (4096 : Int) < (q : Int) := by omega
  obtain ⟨ao, cap, hv, -⟩ := row_shape h.row
  subst hv
  obtain ⟨w1, hw1e⟩ : ∃ x, w.alloc (.cells #[.int .i64 (K : Nat), .int .i64 (N : Nat), .int .u64 (f.salt : Nat), .string (bs d)] tSe) = x := ⟨_, rfl⟩
  have B0 : Below w.heap.size w w1 := by rw [← hw1e]; exact (Below.refl _ _).alloc (Nat.le_refl _) _
  have hq : w1.heap[w.heap.size]? = some (.cells #[.int .i64 (K : Nat), .int .i64 (N : Nat), .int .u64 (f.salt : Nat), .string (bs d)] tSe (0, 0)) := by rw [← hw1e]; exact blk_new w _
  have hF1 := h.on B0
  have c5 : w1.cell? ⟨p, 5, none⟩ = some (.int .i64 (q : Nat)) := (blk_cell hF1.box 5).trans (by rw [← hqe]; rfl)
  have c4 : w1.cell? ⟨p, 4, none⟩ = some (.int .i64 (f.feet : Nat)) := blk_cell hF1.box 4
  have C1 : ∀ wx, Below w1.heap.size w1 wx → wx.cell? ⟨p, 1, none⟩ = some (.int .u64 (f.salt : Nat)) := fun wx hx => blk_cell (hF1.on hx).box 1
  have C2 : ∀ wx, Below w1.heap.size w1 wx → wx.cell? ⟨p, 2, none⟩ = some (.slice ao f.recs.length cap) := fun wx hx => blk_cell (hF1.on hx).box 2
  have C3 : ∀ wx, Below w1.heap.size w1 wx → wx.cell? ⟨p, 3, none⟩ = some (.int .i64 (f.above : Nat)) := fun wx hx => blk_cell (hF1.on hx).box 3
  have C4 : ∀ wx, Below w1.heap.size w1 wx → wx.cell? ⟨p, 4, none⟩ = some (.int .i64 (f.feet : Nat)) := fun wx hx => blk_cell (hF1.on hx).box 4
  have C6 : ∀ wx, Below w1.heap.size w1 wx → wx.cell? ⟨p, 6, none⟩ = some (.int .i64 (f.counted : Nat)) := fun wx hx => blk_cell (hF1.on hx).box 6
  have S0 : ∀ wx, Below w1.heap.size w1 wx → wx.heap[w.heap.size]? = some (.cells #[.int .i64 (K : Nat), .int .i64 (N : Nat), .int .u64 (f.salt : Nat), .string (bs d)] tSe (0, 0)) := fun wx hx => (hx.block _ (lt_of_block hq)).trans hq
  have D1 := hid C1
  have D2 := hid C2
  have D3 := hid C3
  have D4 := hid C4
  have D6 := hid C6
  have DS := hid S0
  have HE := hid hw1e
  have HB := hid B0
  have HF := hid hF1
  have HBN := hid hb
  have HQ4 := hid hq4
  have HA := hid ha
  clear C1 C2 C3 C4 C6 S0 hF1 h hw1e B0 hq hf hp hb hq4 ha
  unfold sV
  go_enter Tryz.func80, Tryz.ntmps80
  go_upto_region 1 with fail
  rw [HE.out]
  go_wp2_with fail
  refine wp_region_quiet_in (fun wx => Below w1.heap.size w1 wx) (by kernel_rfl) (by kernel_rfl) (Below.refl _ w1).drew ?_
  go_big_quiet_want
  go_big_quiet_op
  go_big_quiet_on
  go_big_quiet_want
  go_big_quiet_op
  refine ⟨.bool false, fun wx hx => ?_, ?_⟩
  · simp [go_sem, hp1]
  go_big_quiet_on
  go_big_quiet_want
  go_big_quiet_op
  go_big_quiet_on
  go_big_quiet_want
  go_big_quiet_op
  go_big_quiet_on
  go_big_quiet_want
  go_big_quiet_op
  go_big_quiet_on
  go_big_quiet_want
  go_big_quiet_op
  apply Exists.intro
  refine ⟨fun _ _ => ?_, ?_⟩
  · with_reducible exact Eq.refl _
  go_big_quiet_on
  go_big_quiet_want
  go_big_quiet_op
  apply Exists.intro
  refine ⟨fun _ _ => ?_, ?_⟩
  · with_reducible exact Eq.refl _
  go_big_quiet_on
  go_big_quiet_want
  go_big_quiet_op
  refine ⟨.int .i64 (f.above : Nat), fun wx hx => ?_, ?_⟩
  · have c := D3.out wx hx
    simp [go_sem, c]
  go_big_quiet_on
  go_big_quiet_want
  go_big_quiet_op
  refine ⟨.bool true, fun wx hx => ?_, ?_⟩
  · (simp [go_sem]; exact HA.out)
  go_big_quiet_on
  go_big_quiet_want
  go_big_quiet_op
  apply Exists.intro
  refine ⟨fun _ _ => ?_, ?_⟩
  · with_reducible exact Eq.refl _
  go_big_quiet_on
  go_big_quiet_want
  go_big_quiet_op
  go_big_quiet_on
  go_big_quiet_skip
  go_big_quiet_skip
  go_big_quiet_skip
  go_big_quiet_skip
  go_big_quiet_skip
  go_big_quiet_skip
  go_big_quiet_skip
  go_big_quiet_skip
  go_big_quiet_skip
  go_big_quiet_skip
  go_big_quiet_skip
  go_big_quiet_skip
  go_big_quiet_skip
  go_big_quiet_skip
  go_big_quiet_skip
  go_big_quiet_skip
  go_big_quiet_skip
  go_big_quiet_skip
  go_big_quiet_skip
  go_big_quiet_skip
  go_big_quiet_skip
  go_big_quiet_skip
  go_big_quiet_want
  go_big_quiet_op
  apply Exists.intro
  refine ⟨fun _ _ => ?_, ?_⟩
  · with_reducible exact Eq.refl _
  go_big_quiet_on
  refine wpQuiet_nil ?_
  intro wq hq
  have HQ := hid (HB.out.trans (hq.mono HB.out.size))
  clear hq
  go_wp2
  go_ret
  exact ⟨rfl, HQ.out⟩

set_option maxRecDepth 100000 in
set_option maxHeartbeats 4000000 in
theorem foot_f_n (h : FB p v f w) (hb : Bnd f) (K N : Nat) (hK : K = 3) (d : Bs) (hf : f.feet ≠ 0) (hp : f.pages ≤ 4096) (ha : f.above ≤ f.pages) (hN : ¬ N = f.recs.length - f.counted) :
    Calls Tryz.prog 80 #[ptr p, sV K N f.salt (bs d)] w fun e w' => e = .returned (.bool false) ∧ Below w.heap.size w w' := by
  have hf1 : ((f.feet : Int) == 0) = false := by simp; omega
  have hq4 : f.pages < 4294967296 := by have := hb.pages; omega
  obtain ⟨q, hqe⟩ : ∃ q, f.pages = q := ⟨_, rfl⟩
  rw [hqe] at hp hq4 ha
  have hp1 : ¬ (4096 : Int) < (q : Int) := by omega
  have hK1 : ((K : Int) == 3) = true := by simp; omega
  have hN1 : ((N : Int) == ((f.recs.length - f.counted : Nat) : Int)) = false := by simp; omega
  have hsub : wrap64 ((f.recs.length : Int) - (f.counted : Int)) = ((f.recs.length - f.counted : Nat) : Int) := by have h1 := hb.counted; have h2 := hb.recs; rw [Num.wrap_i]; omega
  obtain ⟨ao, cap, hv, -⟩ := row_shape h.row
  subst hv
  obtain ⟨w1, hw1e⟩ : ∃ x, w.alloc (.cells #[.int .i64 (K : Nat), .int .i64 (N : Nat), .int .u64 (f.salt : Nat), .string (bs d)] tSe) = x := ⟨_, rfl⟩
  have B0 : Below w.heap.size w w1 := by rw [← hw1e]; exact (Below.refl _ _).alloc (Nat.le_refl _) _
  have hq : w1.heap[w.heap.size]? = some (.cells #[.int .i64 (K : Nat), .int .i64 (N : Nat), .int .u64 (f.salt : Nat), .string (bs d)] tSe (0, 0)) := by rw [← hw1e]; exact blk_new w _
  have hF1 := h.on B0
  have c5 : w1.cell? ⟨p, 5, none⟩ = some (.int .i64 (q : Nat)) := (blk_cell hF1.box 5).trans (by rw [← hqe]; rfl)
  have c4 : w1.cell? ⟨p, 4, none⟩ = some (.int .i64 (f.feet : Nat)) := blk_cell hF1.box 4
  have C1 : ∀ wx, Below w1.heap.size w1 wx → wx.cell? ⟨p, 1, none⟩ = some (.int .u64 (f.salt : Nat)) := fun wx hx => blk_cell (hF1.on hx).box 1
  have C2 : ∀ wx, Below w1.heap.size w1 wx → wx.cell? ⟨p, 2, none⟩ = some (.slice ao f.recs.length cap) := fun wx hx => blk_cell (hF1.on hx).box 2
  have C3 : ∀ wx, Below w1.heap.size w1 wx → wx.cell? ⟨p, 3, none⟩ = some (.int .i64 (f.above : Nat)) := fun wx hx => blk_cell (hF1.on hx).box 3
  have C4 : ∀ wx, Below w1.heap.size w1 wx → wx.cell? ⟨p, 4, none⟩ = some (.int .i64 (f.feet : Nat)) := fun wx hx => blk_cell (hF1.on hx).box 4
  have C6 : ∀ wx, Below w1.heap.size w1 wx → wx.cell? ⟨p, 6, none⟩ = some (.int .i64 (f.counted : Nat)) := fun wx hx => blk_cell (hF1.on hx).box 6
  have S0 : ∀ wx, Below w1.heap.size w1 wx → wx.heap[w.heap.size]? = some (.cells #[.int .i64 (K : Nat), .int .i64 (N : Nat), .int .u64 (f.salt : Nat), .string (bs d)] tSe (0, 0)) := fun wx hx => (hx.block _ (lt_of_block hq)).trans hq
  have D1 := hid C1
  have D2 := hid C2
  have D3 := hid C3
  have D4 := hid C4
  have D6 := hid C6
  have DS := hid S0
  have HE := hid hw1e
  have HB := hid B0
  have HF := hid hF1
  have HBN := hid hb
  have HQ4 := hid hq4
  have HA := hid ha
  clear C1 C2 C3 C4 C6 S0 hF1 h hw1e B0 hq hf hp hb hq4 hK ha hN
  unfold sV
  go_enter Tryz.func80, Tryz.ntmps80
  go_upto_region 1 with fail
  rw [HE.out]
  go_wp2_with fail
  refine wp_region_quiet_in (fun wx => Below w1.heap.size w1 wx) (by kernel_rfl) (by kernel_rfl) (Below.refl _ w1).drew ?_
  go_big_quiet_want
  go_big_quiet_op
  go_big_quiet_on
  go_big_quiet_want
  go_big_quiet_op
  refine ⟨.bool false, fun wx hx => ?_, ?_⟩
  · simp [go_sem, hp1]
  go_big_quiet_on
  go_big_quiet_want
  go_big_quiet_op
  go_big_quiet_on
  go_big_quiet_want
  go_big_quiet_op
  go_big_quiet_on
  go_big_quiet_want
  go_big_quiet_op
  go_big_quiet_on
  go_big_quiet_want
  go_big_quiet_op
  apply Exists.intro
  refine ⟨fun _ _ => ?_, ?_⟩
  · with_reducible exact Eq.refl _
  go_big_quiet_on
  go_big_quiet_want
  go_big_quiet_op
  apply Exists.intro
  refine ⟨fun _ _ => ?_, ?_⟩
  · with_reducible exact Eq.refl _
  go_big_quiet_on
  go_big_quiet_want
  go_big_quiet_op
  refine ⟨.int .i64 (f.above : Nat), fun wx hx => ?_, ?_⟩
  · have c := D3.out wx hx
    simp [go_sem, c]
  go_big_quiet_on
  go_big_quiet_want
  go_big_quiet_op
  refine ⟨.bool false, fun wx hx => ?_, ?_⟩
  · (simp [go_sem]; exact HA.out)
  go_big_quiet_on
  go_big_quiet_want
  go_big_quiet_op
  apply Exists.intro
  refine ⟨fun _ _ => ?_, ?_⟩
  · with_reducible exact Eq.refl _
  go_big_quiet_on
  go_big_quiet_want
  go_big_quiet_op
  go_big_quiet_on
  go_big_quiet_want
  go_big_quiet_op
  refine ⟨.agg #[.int .i64 (K : Nat), .int .i64 (N : Nat), .int .u64 (f.salt : Nat), .string (bs d)], fun wx hx => ?_, ?_⟩
  · simp [go_sem, blk_cell (DS.out wx hx)]
  go_big_quiet_on
  go_big_quiet_want
  go_big_quiet_op
  go_big_quiet_on
  go_big_quiet_want
  go_big_quiet_op
  apply Exists.intro
  refine ⟨fun _ _ => ?_, ?_⟩
  · with_reducible exact Eq.refl _
  go_big_quiet_on
  go_big_quiet_want
  go_big_quiet_op
  apply Exists.intro
  refine ⟨fun _ _ => ?_, ?_⟩
  · with_reducible exact Eq.refl _
  go_big_quiet_on
  go_big_quiet_want
  go_big_quiet_op
  refine ⟨.slice ao f.recs.length cap, fun wx hx => ?_, ?_⟩
  · have c := D2.out wx hx
    simp [go_sem, c]
  go_big_quiet_on
  go_big_quiet_want
  go_big_quiet_op
  refine ⟨.int .i64 (f.recs.length : Nat), fun wx hx => ?_, ?_⟩
  · simp [go_sem]
  go_big_quiet_on
  go_big_quiet_want
  go_big_quiet_op
  go_big_quiet_on
  go_big_quiet_want
  go_big_quiet_op
  apply Exists.intro
  refine ⟨fun _ _ => ?_, ?_⟩
  · with_reducible exact Eq.refl _
  go_big_quiet_on
  go_big_quiet_want
  go_big_quiet_op
  apply Exists.intro
  refine ⟨fun _ _ => ?_, ?_⟩
  · with_reducible exact Eq.refl _
  go_big_quiet_on
  go_big_quiet_want
  go_big_quiet_op
  refine ⟨.int .i64 (f.counted : Nat), fun wx hx => ?_, ?_⟩
  · have c := D6.out wx hx
    simp [go_sem, c]
  go_big_quiet_on
  go_big_quiet_want
  go_big_quiet_op
  refine ⟨.int .i64 ((f.recs.length - f.counted : Nat) : Int), fun wx hx => ?_, ?_⟩
  · simp [go_sem, hsub]
  go_big_quiet_on
  go_big_quiet_want
  go_big_quiet_op
  go_big_quiet_on
  go_big_quiet_want
  go_big_quiet_op
  go_big_quiet_on
  go_big_quiet_want
  go_big_quiet_op
  apply Exists.intro
  refine ⟨fun _ _ => ?_, ?_⟩
  · with_reducible exact Eq.refl _
  go_big_quiet_on
  go_big_quiet_want
  go_big_quiet_op
  apply Exists.intro
  refine ⟨fun _ _ => ?_, ?_⟩
  · with_reducible exact Eq.refl _
  go_big_quiet_on
  go_big_quiet_want
  go_big_quiet_op
  refine ⟨.int .i64 (f.feet : Nat), fun wx hx => ?_, ?_⟩
  · have c := D4.out wx hx
    simp [go_sem, c]
  go_big_quiet_on
  go_big_quiet_want
  go_big_quiet_op
  go_big_quiet_on
  go_big_quiet_want
  go_big_quiet_op
  apply Exists.intro
  refine ⟨fun _ _ => ?_, ?_⟩
  · with_reducible exact Eq.refl _
  go_big_quiet_on
  go_big_quiet_want
  go_big_quiet_op
  apply Exists.intro
  refine ⟨fun _ _ => ?_, ?_⟩
  · with_reducible exact Eq.refl _
  go_big_quiet_on
  go_big_quiet_want
  go_big_quiet_op
  refine ⟨.int .u64 (f.salt : Nat), fun wx hx => ?_, ?_⟩
  · have c := D1.out wx hx
    simp [go_sem, c]
  go_big_quiet_on
  go_big_quiet_want
  go_big_quiet_op
  refine ⟨sV 3 (f.recs.length - f.counted) f.salt (footS q f.feet), fun wx hx => ?_, ?_⟩
  · refine (foot_any (f.recs.length - f.counted) q f.feet f.salt (by have := HQ4.out; omega) (by have := HBN.out.feet; omega) _).mono ?_
    rintro e w9 ⟨rfl, hb9⟩
    exact ⟨rfl, hx.trans (hb9.mono hx.size)⟩
  go_big_quiet_on
  go_big_quiet_want
  go_big_quiet_op
  refine ⟨.bool true, fun wx hx => ?_, ?_⟩
  · simp [go_sem, sV, hK1, hN1]
  go_big_quiet_on
  go_big_quiet_want
  go_big_quiet_op
  apply Exists.intro
  refine ⟨fun _ _ => ?_, ?_⟩
  · with_reducible exact Eq.refl _
  go_big_quiet_on
  refine wpQuiet_nil ?_
  intro wq hq
  have HQ := hid (HB.out.trans (hq.mono HB.out.size))
  clear hq
  go_wp2
  go_ret
  exact ⟨rfl, HQ.out⟩

set_option maxRecDepth 100000 in
set_option maxHeartbeats 4000000 in
theorem foot_f_d (h : FB p v f w) (hb : Bnd f) (K N : Nat) (hK : K = 3) (d : Bs) (hf : f.feet ≠ 0) (hp : f.pages ≤ 4096) (ha : f.above ≤ f.pages) (hN : N = f.recs.length - f.counted) (hD : ¬ d = footL f.pages f.feet) :
    Calls Tryz.prog 80 #[ptr p, sV K N f.salt (bs d)] w fun e w' => e = .returned (.bool false) ∧ Below w.heap.size w w' := by
  have hf1 : ((f.feet : Int) == 0) = false := by simp; omega
  have hq4 : f.pages < 4294967296 := by have := hb.pages; omega
  obtain ⟨q, hqe⟩ : ∃ q, f.pages = q := ⟨_, rfl⟩
  rw [hqe] at hp hq4 ha hD
  have hp1 : ¬ (4096 : Int) < (q : Int) := by omega
  have hK1 : ((K : Int) == 3) = true := by simp; omega
  have hN1 : ((N : Int) == ((f.recs.length - f.counted : Nat) : Int)) = true := by simp; omega
  have hsub : wrap64 ((f.recs.length : Int) - (f.counted : Int)) = ((f.recs.length - f.counted : Nat) : Int) := by have h1 := hb.counted; have h2 := hb.recs; rw [Num.wrap_i]; omega
  have hD1 : ((bs d).toList == (footS q f.feet).toList) = false := by rw [foot_toList]; exact decide_eq_false hD
  obtain ⟨ao, cap, hv, -⟩ := row_shape h.row
  subst hv
  obtain ⟨w1, hw1e⟩ : ∃ x, w.alloc (.cells #[.int .i64 (K : Nat), .int .i64 (N : Nat), .int .u64 (f.salt : Nat), .string (bs d)] tSe) = x := ⟨_, rfl⟩
  have B0 : Below w.heap.size w w1 := by rw [← hw1e]; exact (Below.refl _ _).alloc (Nat.le_refl _) _
  have hq : w1.heap[w.heap.size]? = some (.cells #[.int .i64 (K : Nat), .int .i64 (N : Nat), .int .u64 (f.salt : Nat), .string (bs d)] tSe (0, 0)) := by rw [← hw1e]; exact blk_new w _
  have hF1 := h.on B0
  have c5 : w1.cell? ⟨p, 5, none⟩ = some (.int .i64 (q : Nat)) := (blk_cell hF1.box 5).trans (by rw [← hqe]; rfl)
  have c4 : w1.cell? ⟨p, 4, none⟩ = some (.int .i64 (f.feet : Nat)) := blk_cell hF1.box 4
  have C1 : ∀ wx, Below w1.heap.size w1 wx → wx.cell? ⟨p, 1, none⟩ = some (.int .u64 (f.salt : Nat)) := fun wx hx => blk_cell (hF1.on hx).box 1
  have C2 : ∀ wx, Below w1.heap.size w1 wx → wx.cell? ⟨p, 2, none⟩ = some (.slice ao f.recs.length cap) := fun wx hx => blk_cell (hF1.on hx).box 2
  have C3 : ∀ wx, Below w1.heap.size w1 wx → wx.cell? ⟨p, 3, none⟩ = some (.int .i64 (f.above : Nat)) := fun wx hx => blk_cell (hF1.on hx).box 3
  have C4 : ∀ wx, Below w1.heap.size w1 wx → wx.cell? ⟨p, 4, none⟩ = some (.int .i64 (f.feet : Nat)) := fun wx hx => blk_cell (hF1.on hx).box 4
  have C6 : ∀ wx, Below w1.heap.size w1 wx → wx.cell? ⟨p, 6, none⟩ = some (.int .i64 (f.counted : Nat)) := fun wx hx => blk_cell (hF1.on hx).box 6
  have S0 : ∀ wx, Below w1.heap.size w1 wx → wx.heap[w.heap.size]? = some (.cells #[.int .i64 (K : Nat), .int .i64 (N : Nat), .int .u64 (f.salt : Nat), .string (bs d)] tSe (0, 0)) := fun wx hx => (hx.block _ (lt_of_block hq)).trans hq
  have D1 := hid C1
  have D2 := hid C2
  have D3 := hid C3
  have D4 := hid C4
  have D6 := hid C6
  have DS := hid S0
  have HE := hid hw1e
  have HB := hid B0
  have HF := hid hF1
  have HBN := hid hb
  have HQ4 := hid hq4
  have HA := hid ha
  clear C1 C2 C3 C4 C6 S0 hF1 h hw1e B0 hq hf hp hb hq4 hK ha hN hD
  unfold sV
  go_enter Tryz.func80, Tryz.ntmps80
  go_upto_region 1 with fail
  rw [HE.out]
  go_wp2_with fail
  refine wp_region_quiet_in (fun wx => Below w1.heap.size w1 wx) (by kernel_rfl) (by kernel_rfl) (Below.refl _ w1).drew ?_
  go_big_quiet_want
  go_big_quiet_op
  go_big_quiet_on
  go_big_quiet_want
  go_big_quiet_op
  refine ⟨.bool false, fun wx hx => ?_, ?_⟩
  · simp [go_sem, hp1]
  go_big_quiet_on
  go_big_quiet_want
  go_big_quiet_op
  go_big_quiet_on
  go_big_quiet_want
  go_big_quiet_op
  go_big_quiet_on
  go_big_quiet_want
  go_big_quiet_op
  go_big_quiet_on
  go_big_quiet_want
  go_big_quiet_op
  apply Exists.intro
  refine ⟨fun _ _ => ?_, ?_⟩
  · with_reducible exact Eq.refl _
  go_big_quiet_on
  go_big_quiet_want
  go_big_quiet_op
  apply Exists.intro
  refine ⟨fun _ _ => ?_, ?_⟩
  · with_reducible exact Eq.refl _
  go_big_quiet_on
  go_big_quiet_want
  go_big_quiet_op
  refine ⟨.int .i64 (f.above : Nat), fun wx hx => ?_, ?_⟩
  · have c := D3.out wx hx
    simp [go_sem, c]
  go_big_quiet_on
  go_big_quiet_want
  go_big_quiet_op
  refine ⟨.bool false, fun wx hx => ?_, ?_⟩
  · (simp [go_sem]; exact HA.out)
  go_big_quiet_on
  go_big_quiet_want
  go_big_quiet_op
  apply Exists.intro
  refine ⟨fun _ _ => ?_, ?_⟩
  · with_reducible exact Eq.refl _
  go_big_quiet_on
  go_big_quiet_want
  go_big_quiet_op
  go_big_quiet_on
  go_big_quiet_want
  go_big_quiet_op
  refine ⟨.agg #[.int .i64 (K : Nat), .int .i64 (N : Nat), .int .u64 (f.salt : Nat), .string (bs d)], fun wx hx => ?_, ?_⟩
  · simp [go_sem, blk_cell (DS.out wx hx)]
  go_big_quiet_on
  go_big_quiet_want
  go_big_quiet_op
  go_big_quiet_on
  go_big_quiet_want
  go_big_quiet_op
  apply Exists.intro
  refine ⟨fun _ _ => ?_, ?_⟩
  · with_reducible exact Eq.refl _
  go_big_quiet_on
  go_big_quiet_want
  go_big_quiet_op
  apply Exists.intro
  refine ⟨fun _ _ => ?_, ?_⟩
  · with_reducible exact Eq.refl _
  go_big_quiet_on
  go_big_quiet_want
  go_big_quiet_op
  refine ⟨.slice ao f.recs.length cap, fun wx hx => ?_, ?_⟩
  · have c := D2.out wx hx
    simp [go_sem, c]
  go_big_quiet_on
  go_big_quiet_want
  go_big_quiet_op
  refine ⟨.int .i64 (f.recs.length : Nat), fun wx hx => ?_, ?_⟩
  · simp [go_sem]
  go_big_quiet_on
  go_big_quiet_want
  go_big_quiet_op
  go_big_quiet_on
  go_big_quiet_want
  go_big_quiet_op
  apply Exists.intro
  refine ⟨fun _ _ => ?_, ?_⟩
  · with_reducible exact Eq.refl _
  go_big_quiet_on
  go_big_quiet_want
  go_big_quiet_op
  apply Exists.intro
  refine ⟨fun _ _ => ?_, ?_⟩
  · with_reducible exact Eq.refl _
  go_big_quiet_on
  go_big_quiet_want
  go_big_quiet_op
  refine ⟨.int .i64 (f.counted : Nat), fun wx hx => ?_, ?_⟩
  · have c := D6.out wx hx
    simp [go_sem, c]
  go_big_quiet_on
  go_big_quiet_want
  go_big_quiet_op
  refine ⟨.int .i64 ((f.recs.length - f.counted : Nat) : Int), fun wx hx => ?_, ?_⟩
  · simp [go_sem, hsub]
  go_big_quiet_on
  go_big_quiet_want
  go_big_quiet_op
  go_big_quiet_on
  go_big_quiet_want
  go_big_quiet_op
  go_big_quiet_on
  go_big_quiet_want
  go_big_quiet_op
  apply Exists.intro
  refine ⟨fun _ _ => ?_, ?_⟩
  · with_reducible exact Eq.refl _
  go_big_quiet_on
  go_big_quiet_want
  go_big_quiet_op
  apply Exists.intro
  refine ⟨fun _ _ => ?_, ?_⟩
  · with_reducible exact Eq.refl _
  go_big_quiet_on
  go_big_quiet_want
  go_big_quiet_op
  refine ⟨.int .i64 (f.feet : Nat), fun wx hx => ?_, ?_⟩
  · have c := D4.out wx hx
    simp [go_sem, c]
  go_big_quiet_on
  go_big_quiet_want
  go_big_quiet_op
  go_big_quiet_on
  go_big_quiet_want
  go_big_quiet_op
  apply Exists.intro
  refine ⟨fun _ _ => ?_, ?_⟩
  · with_reducible exact Eq.refl _
  go_big_quiet_on
  go_big_quiet_want
  go_big_quiet_op
  apply Exists.intro
  refine ⟨fun _ _ => ?_, ?_⟩
  · with_reducible exact Eq.refl _
  go_big_quiet_on
  go_big_quiet_want
  go_big_quiet_op
  refine ⟨.int .u64 (f.salt : Nat), fun wx hx => ?_, ?_⟩
  · have c := D1.out wx hx
    simp [go_sem, c]
  go_big_quiet_on
  go_big_quiet_want
  go_big_quiet_op
  refine ⟨sV 3 (f.recs.length - f.counted) f.salt (footS q f.feet), fun wx hx => ?_, ?_⟩
  · refine (foot_any (f.recs.length - f.counted) q f.feet f.salt (by have := HQ4.out; omega) (by have := HBN.out.feet; omega) _).mono ?_
    rintro e w9 ⟨rfl, hb9⟩
    exact ⟨rfl, hx.trans (hb9.mono hx.size)⟩
  go_big_quiet_on
  go_big_quiet_want
  go_big_quiet_op
  refine ⟨.bool true, fun wx hx => ?_, ?_⟩
  · simp [go_sem, sV, hK1, hN1, hD1]
  go_big_quiet_on
  go_big_quiet_want
  go_big_quiet_op
  apply Exists.intro
  refine ⟨fun _ _ => ?_, ?_⟩
  · with_reducible exact Eq.refl _
  go_big_quiet_on
  refine wpQuiet_nil ?_
  intro wq hq
  have HQ := hid (HB.out.trans (hq.mono HB.out.size))
  clear hq
  go_wp2
  go_ret
  exact ⟨rfl, HQ.out⟩

set_option maxRecDepth 100000 in
set_option maxHeartbeats 4000000 in
theorem foot_f_ok (h : FB p v f w) (hb : Bnd f) (hb0 : f.begun = true) (K N : Nat) (hK : K = 3) (d : Bs) (hf : f.feet ≠ 0) (hp : f.pages ≤ 4096) (ha : f.above ≤ f.pages) (hN : N = f.recs.length - f.counted) (hD : d = footL f.pages f.feet) :
    Calls Tryz.prog 80 #[ptr p, sV K N f.salt (bs d)] w fun e w' => e = .returned (.bool true) ∧ Took p v w (f.shut f.salt f.pages) w' := by
  have hf1 : ((f.feet : Int) == 0) = false := by simp; omega
  have hq4 : f.pages < 4294967296 := by have := hb.pages; omega
  obtain ⟨q, hqe⟩ : ∃ q, f.pages = q := ⟨_, rfl⟩
  rw [hqe] at hp hq4 ha hD
  rw [hqe]
  have hp1 : ¬ (4096 : Int) < (q : Int) := by omega
  have hK1 : ((K : Int) == 3) = true := by simp; omega
  have hN1 : ((N : Int) == ((f.recs.length - f.counted : Nat) : Int)) = true := by simp; omega
  have hsub : wrap64 ((f.recs.length : Int) - (f.counted : Int)) = ((f.recs.length - f.counted : Nat) : Int) := by have h1 := hb.counted; have h2 := hb.recs; rw [Num.wrap_i]; omega
  have hD1 : ((bs d).toList == (footS q f.feet).toList) = true := by rw [foot_toList]; exact decide_eq_true hD
  obtain ⟨ao, cap, hv, -⟩ := row_shape h.row
  subst hv
  obtain ⟨w1, hw1e⟩ : ∃ x, w.alloc (.cells #[.int .i64 (K : Nat), .int .i64 (N : Nat), .int .u64 (f.salt : Nat), .string (bs d)] tSe) = x := ⟨_, rfl⟩
  have B0 : Below w.heap.size w w1 := by rw [← hw1e]; exact (Below.refl _ _).alloc (Nat.le_refl _) _
  have hq : w1.heap[w.heap.size]? = some (.cells #[.int .i64 (K : Nat), .int .i64 (N : Nat), .int .u64 (f.salt : Nat), .string (bs d)] tSe (0, 0)) := by rw [← hw1e]; exact blk_new w _
  have hF1 := h.on B0
  have c5 : w1.cell? ⟨p, 5, none⟩ = some (.int .i64 (q : Nat)) := (blk_cell hF1.box 5).trans (by rw [← hqe]; rfl)
  have c4 : w1.cell? ⟨p, 4, none⟩ = some (.int .i64 (f.feet : Nat)) := blk_cell hF1.box 4
  have C1 : ∀ wx, Below w1.heap.size w1 wx → wx.cell? ⟨p, 1, none⟩ = some (.int .u64 (f.salt : Nat)) := fun wx hx => blk_cell (hF1.on hx).box 1
  have C2 : ∀ wx, Below w1.heap.size w1 wx → wx.cell? ⟨p, 2, none⟩ = some (.slice ao f.recs.length cap) := fun wx hx => blk_cell (hF1.on hx).box 2
  have C3 : ∀ wx, Below w1.heap.size w1 wx → wx.cell? ⟨p, 3, none⟩ = some (.int .i64 (f.above : Nat)) := fun wx hx => blk_cell (hF1.on hx).box 3
  have C4 : ∀ wx, Below w1.heap.size w1 wx → wx.cell? ⟨p, 4, none⟩ = some (.int .i64 (f.feet : Nat)) := fun wx hx => blk_cell (hF1.on hx).box 4
  have C6 : ∀ wx, Below w1.heap.size w1 wx → wx.cell? ⟨p, 6, none⟩ = some (.int .i64 (f.counted : Nat)) := fun wx hx => blk_cell (hF1.on hx).box 6
  have S0 : ∀ wx, Below w1.heap.size w1 wx → wx.heap[w.heap.size]? = some (.cells #[.int .i64 (K : Nat), .int .i64 (N : Nat), .int .u64 (f.salt : Nat), .string (bs d)] tSe (0, 0)) := fun wx hx => (hx.block _ (lt_of_block hq)).trans hq
  have D1 := hid C1
  have D2 := hid C2
  have D3 := hid C3
  have D4 := hid C4
  have D6 := hid C6
  have DS := hid S0
  have HE := hid hw1e
  have HB := hid B0
  have HF := hid hF1
  have HBN := hid hb
  have HQ4 := hid hq4
  have HA := hid ha
  clear C1 C2 C3 C4 C6 S0 hF1 h hw1e B0 hq hf hp hb hq4 hK ha hN hD
  have HB0 := hid hb0
  clear hb0
  unfold sV
  go_enter Tryz.func80, Tryz.ntmps80
  go_upto_region 1 with fail
  rw [HE.out]
  go_wp2_with fail
  refine wp_region_quiet_in (fun wx => Below w1.heap.size w1 wx) (by kernel_rfl) (by kernel_rfl) (Below.refl _ w1).drew ?_
  go_big_quiet_want
  go_big_quiet_op
  go_big_quiet_on
  go_big_quiet_want
  go_big_quiet_op
  refine ⟨.bool false, fun wx hx => ?_, ?_⟩
  · simp [go_sem, hp1]
  go_big_quiet_on
  go_big_quiet_want
  go_big_quiet_op
  go_big_quiet_on
  go_big_quiet_want
  go_big_quiet_op
  go_big_quiet_on
  go_big_quiet_want
  go_big_quiet_op
  go_big_quiet_on
  go_big_quiet_want
  go_big_quiet_op
  apply Exists.intro
  refine ⟨fun _ _ => ?_, ?_⟩
  · with_reducible exact Eq.refl _
  go_big_quiet_on
  go_big_quiet_want
  go_big_quiet_op
  apply Exists.intro
  refine ⟨fun _ _ => ?_, ?_⟩
  · with_reducible exact Eq.refl _
  go_big_quiet_on
  go_big_quiet_want
  go_big_quiet_op
  refine ⟨.int .i64 (f.above : Nat), fun wx hx => ?_, ?_⟩
  · have c := D3.out wx hx
    simp [go_sem, c]
  go_big_quiet_on
  go_big_quiet_want
  go_big_quiet_op
  refine ⟨.bool false, fun wx hx => ?_, ?_⟩
  · (simp [go_sem]; exact HA.out)
  go_big_quiet_on
  go_big_quiet_want
  go_big_quiet_op
  apply Exists.intro
  refine ⟨fun _ _ => ?_, ?_⟩
  · with_reducible exact Eq.refl _
  go_big_quiet_on
  go_big_quiet_want
  go_big_quiet_op
  go_big_quiet_on
  go_big_quiet_want
  go_big_quiet_op
  refine ⟨.agg #[.int .i64 (K : Nat), .int .i64 (N : Nat), .int .u64 (f.salt : Nat), .string (bs d)], fun wx hx => ?_, ?_⟩
  · simp [go_sem, blk_cell (DS.out wx hx)]
  go_big_quiet_on
  go_big_quiet_want
  go_big_quiet_op
  go_big_quiet_on
  go_big_quiet_want
  go_big_quiet_op
  apply Exists.intro
  refine ⟨fun _ _ => ?_, ?_⟩
  · with_reducible exact Eq.refl _
  go_big_quiet_on
  go_big_quiet_want
  go_big_quiet_op
  apply Exists.intro
  refine ⟨fun _ _ => ?_, ?_⟩
  · with_reducible exact Eq.refl _
  go_big_quiet_on
  go_big_quiet_want
  go_big_quiet_op
  refine ⟨.slice ao f.recs.length cap, fun wx hx => ?_, ?_⟩
  · have c := D2.out wx hx
    simp [go_sem, c]
  go_big_quiet_on
  go_big_quiet_want
  go_big_quiet_op
  refine ⟨.int .i64 (f.recs.length : Nat), fun wx hx => ?_, ?_⟩
  · simp [go_sem]
  go_big_quiet_on
  go_big_quiet_want
  go_big_quiet_op
  go_big_quiet_on
  go_big_quiet_want
  go_big_quiet_op
  apply Exists.intro
  refine ⟨fun _ _ => ?_, ?_⟩
  · with_reducible exact Eq.refl _
  go_big_quiet_on
  go_big_quiet_want
  go_big_quiet_op
  apply Exists.intro
  refine ⟨fun _ _ => ?_, ?_⟩
  · with_reducible exact Eq.refl _
  go_big_quiet_on
  go_big_quiet_want
  go_big_quiet_op
  refine ⟨.int .i64 (f.counted : Nat), fun wx hx => ?_, ?_⟩
  · have c := D6.out wx hx
    simp [go_sem, c]
  go_big_quiet_on
  go_big_quiet_want
  go_big_quiet_op
  refine ⟨.int .i64 ((f.recs.length - f.counted : Nat) : Int), fun wx hx => ?_, ?_⟩
  · simp [go_sem, hsub]
  go_big_quiet_on
  go_big_quiet_want
  go_big_quiet_op
  go_big_quiet_on
  go_big_quiet_want
  go_big_quiet_op
  go_big_quiet_on
  go_big_quiet_want
  go_big_quiet_op
  apply Exists.intro
  refine ⟨fun _ _ => ?_, ?_⟩
  · with_reducible exact Eq.refl _
  go_big_quiet_on
  go_big_quiet_want
  go_big_quiet_op
  apply Exists.intro
  refine ⟨fun _ _ => ?_, ?_⟩
  · with_reducible exact Eq.refl _
  go_big_quiet_on
  go_big_quiet_want
  go_big_quiet_op
  refine ⟨.int .i64 (f.feet : Nat), fun wx hx => ?_, ?_⟩
  · have c := D4.out wx hx
    simp [go_sem, c]
  go_big_quiet_on
  go_big_quiet_want
  go_big_quiet_op
  go_big_quiet_on
  go_big_quiet_want
  go_big_quiet_op
  apply Exists.intro
  refine ⟨fun _ _ => ?_, ?_⟩
  · with_reducible exact Eq.refl _
  go_big_quiet_on
  go_big_quiet_want
  go_big_quiet_op
  apply Exists.intro
  refine ⟨fun _ _ => ?_, ?_⟩
  · with_reducible exact Eq.refl _
  go_big_quiet_on
  go_big_quiet_want
  go_big_quiet_op
  refine ⟨.int .u64 (f.salt : Nat), fun wx hx => ?_, ?_⟩
  · have c := D1.out wx hx
    simp [go_sem, c]
  go_big_quiet_on
  go_big_quiet_want
  go_big_quiet_op
  refine ⟨sV 3 (f.recs.length - f.counted) f.salt (footS q f.feet), fun wx hx => ?_, ?_⟩
  · refine (foot_any (f.recs.length - f.counted) q f.feet f.salt (by have := HQ4.out; omega) (by have := HBN.out.feet; omega) _).mono ?_
    rintro e w9 ⟨rfl, hb9⟩
    exact ⟨rfl, hx.trans (hb9.mono hx.size)⟩
  go_big_quiet_on
  go_big_quiet_want
  go_big_quiet_op
  refine ⟨.bool false, fun wx hx => ?_, ?_⟩
  · simp [go_sem, sV, hK1, hN1, hD1]
  go_big_quiet_on
  go_big_quiet_want
  go_big_quiet_op
  apply Exists.intro
  refine ⟨fun _ _ => ?_, ?_⟩
  · with_reducible exact Eq.refl _
  go_big_quiet_on
  refine wpQuiet_nil ?_
  intro wq hq
  have HQ := hid (HF.out.on hq)
  have HC := hid ((Chg.of_below (F := fT p (.slice ao f.recs.length cap)) HB.out).trans (Chg.of_below hq))
  have k5 : wq.cell? ⟨p, 5, none⟩ = some (.int .i64 (f.pages : Nat)) := blk_cell HQ.out.box 5
  have k4 : wq.cell? ⟨p, 4, none⟩ = some (.int .i64 (f.feet : Nat)) := blk_cell HQ.out.box 4
  have g5 : wq.frozen? ⟨p, 5, none⟩ = false := blk_free HQ.out.box 5
  have g4 : wq.frozen? ⟨p, 4, none⟩ = false := blk_free HQ.out.box 4
  have hw1 : wrap64 ((f.feet : Int) + 1) = (f.feet : Int) + 1 := by have := HBN.out.feet; rw [Num.wrap_i]; omega
  obtain ⟨r1, r2⟩ := HQ.out.fed q
  have HR1 := hid r1
  have HR2 := hid r2
  clear hq r1 r2
  go_upto_region 8 with fail
  generalize (wq.setCell ⟨p, 5, none⟩ (.int .i64 (q : Nat))).setCell ⟨p, 4, none⟩ (.int .i64 ((f.feet : Int) + 1)) = w5 at *
  have k2 : w5.cell? ⟨p, 2, none⟩ = some (.slice ao f.recs.length cap) := blk_cell HR1.out.box 2
  have k6 : w5.cell? ⟨p, 6, none⟩ = some (.int .i64 (f.counted : Nat)) := blk_cell HR1.out.box 6
  have g6 : w5.frozen? ⟨p, 6, none⟩ = false := blk_free HR1.out.box 6
  obtain ⟨r1, r2⟩ := HR1.out.counts
  have HY := hid r1
  have HT := hid ((HC.out.trans (HR2.out.mono (fun k _ e => (Or.inl e : fT p (.slice ao f.recs.length cap) k)))).trans (r2.mono (fun k _ e => (Or.inl e : fT p (.slice ao f.recs.length cap) k))))
  clear r1 r2 k5 k4 g5 g4
  go_wp2
  go_ret
  refine ⟨rfl, _, ?_, HT.out, fun k hk => Or.inl hk⟩
  have := HY.out
  unfold Fnd.shut
  rw [HB0.out] at this
  exact this

set_option maxRecDepth 100000 in
set_option maxHeartbeats 4000000 in
theorem foot_z_gt (h : FB p v f w) (hb : Bnd f) (K N : Nat) (d : Bs) (hd : d.length = 232) (hf : f.feet = 0) (hp : 4096 < (Seal.numAt d 0 4)) :
    Calls Tryz.prog 80 #[ptr p, sV K N f.salt (bs d)] w fun e w' => e = .returned (.bool false) ∧ Below w.heap.size w w' := by
  have hf1 : ((f.feet : Int) == 0) = true := by simp; omega
  have hpo := pagesOf_any K N f.salt d hd
  have hq4 := head_lt d
  generalize Seal.numAt d 0 4 = q at *
  have HP1 : Hid (4096 < q) := hid hp
  obtain ⟨ao, cap, hv, -⟩ := row_shape h.row
  subst hv
  obtain ⟨w1, hw1e⟩ : ∃ x, w.alloc (.cells #[.int .i64 (K : Nat), .int .i64 (N : Nat), .int .u64 (f.salt : Nat), .string (bs d)] tSe) = x := ⟨_, rfl⟩
  have B0 : Below w.heap.size w w1 := by rw [← hw1e]; exact (Below.refl _ _).alloc (Nat.le_refl _) _
  have hq : w1.heap[w.heap.size]? = some (.cells #[.int .i64 (K : Nat), .int .i64 (N : Nat), .int .u64 (f.salt : Nat), .string (bs d)] tSe (0, 0)) := by rw [← hw1e]; exact blk_new w _
  have hF1 := h.on B0
  have c5 : w1.cell? ⟨p, 5, none⟩ = some (.int .i64 (f.pages : Nat)) := blk_cell hF1.box 5
  have s0 : w1.cell? ⟨w.heap.size, 0, none⟩ = some (.int .i64 (K : Nat)) := blk_cell hq 0
  have s1 : w1.cell? ⟨w.heap.size, 1, none⟩ = some (.int .i64 (N : Nat)) := blk_cell hq 1
  have s2 : w1.cell? ⟨w.heap.size, 2, none⟩ = some (.int .u64 (f.salt : Nat)) := blk_cell hq 2
  have s3 : w1.cell? ⟨w.heap.size, 3, none⟩ = some (.string (bs d)) := blk_cell hq 3
  have HPO := hid hpo
  have c4 : w1.cell? ⟨p, 4, none⟩ = some (.int .i64 (f.feet : Nat)) := blk_cell hF1.box 4
  have C1 : ∀ wx, Below w1.heap.size w1 wx → wx.cell? ⟨p, 1, none⟩ = some (.int .u64 (f.salt : Nat)) := fun wx hx => blk_cell (hF1.on hx).box 1
  have C2 : ∀ wx, Below w1.heap.size w1 wx → wx.cell? ⟨p, 2, none⟩ = some (.slice ao f.recs.length cap) := fun wx hx => blk_cell (hF1.on hx).box 2
  have C3 : ∀ wx, Below w1.heap.size w1 wx → wx.cell? ⟨p, 3, none⟩ = some (.int .i64 (f.above : Nat)) := fun wx hx => blk_cell (hF1.on hx).box 3
  have C4 : ∀ wx, Below w1.heap.size w1 wx → wx.cell? ⟨p, 4, none⟩ = some (.int .i64 (f.feet : Nat)) := fun wx hx => blk_cell (hF1.on hx).box 4
  have C6 : ∀ wx, Below w1.heap.size w1 wx → wx.cell? ⟨p, 6, none⟩ = some (.int .i64 (f.counted : Nat)) := fun wx hx => blk_cell (hF1.on hx).box 6
  have S0 : ∀ wx, Below w1.heap.size w1 wx → wx.heap[w.heap.size]? = some (.cells #[.int .i64 (K : Nat), .int .i64 (N : Nat), .int .u64 (f.salt : Nat), .string (bs d)] tSe (0, 0)) := fun wx hx => (hx.block _ (lt_of_block hq)).trans hq
  have D1 := hid C1
  have D2 := hid C2
  have D3 := hid C3
  have D4 := hid C4
  have D6 := hid C6
  have DS := hid S0
  have HE := hid hw1e
  have HB := hid B0
  have HF := hid hF1
  have HBN := hid hb
  have HQ4 := hid hq4
  clear C1 C2 C3 C4 C6 S0 hF1 h hw1e B0 hq hf hp hb hq4 hd hpo
  unfold sV
  go_enter Tryz.func80, Tryz.ntmps80
  go_upto_region 1 with fail
  rw [HE.out]
  go_wp2_with fail
  refine (HPO.out _).mono ?_
  rintro e w2 ⟨rfl, hb2⟩
  have HB2 := hid hb2
  clear hb2 s0 s1 s2 s3
  go_wp2_with fail
  refine wp_region_quiet_in (fun wx => Below w1.heap.size w1 wx) (by kernel_rfl) (by kernel_rfl) (HB2.out).drew ?_
  go_big_quiet_want
  go_big_quiet_op
  go_big_quiet_on
  go_big_quiet_want
  go_big_quiet_op
  refine ⟨.bool true, fun wx hx => ?_, ?_⟩
  · (simp [go_sem]; have := HP1.out; omega)
  go_big_quiet_on
  go_big_quiet_want
  go_big_quiet_op
  go_big_quiet_on
  go_big_quiet_skip
  go_big_quiet_skip
  go_big_quiet_skip
  go_big_quiet_skip
  go_big_quiet_skip
  go_big_quiet_skip
  go_big_quiet_want
  go_big_quiet_op
  apply Exists.intro
  refine ⟨fun _ _ => ?_, ?_⟩
  · with_reducible exact Eq.refl _
  go_big_quiet_on
  go_big_quiet_want
  go_big_quiet_op
  go_big_quiet_on
  go_big_quiet_skip
  go_big_quiet_skip
  go_big_quiet_skip
  go_big_quiet_skip
  go_big_quiet_skip
  go_big_quiet_skip
  go_big_quiet_skip
  go_big_quiet_skip
  go_big_quiet_skip
  go_big_quiet_skip
  go_big_quiet_skip
  go_big_quiet_skip
  go_big_quiet_skip
  go_big_quiet_skip
  go_big_quiet_skip
  go_big_quiet_skip
  go_big_quiet_skip
  go_big_quiet_skip
  go_big_quiet_skip
  go_big_quiet_skip
  go_big_quiet_skip
  go_big_quiet_skip
  go_big_quiet_want
  go_big_quiet_op
  apply Exists.intro
  refine ⟨fun _ _ => ?_, ?_⟩
  · with_reducible exact Eq.refl _
  go_big_quiet_on
  refine wpQuiet_nil ?_
  intro wq hq
  have HQ := hid (HB.out.trans (hq.mono HB.out.size))
  clear hq
  go_wp2
  go_ret
  exact ⟨rfl, HQ.out⟩

set_option maxRecDepth 100000 in
set_option maxHeartbeats 4000000 in
theorem foot_z_below (h : FB p v f w) (hb : Bnd f) (K N : Nat) (d : Bs) (hd : d.length = 232) (hf : f.feet = 0) (hp : (Seal.numAt d 0 4) ≤ 4096) (ha : (Seal.numAt d 0 4) < f.above) :
    Calls Tryz.prog 80 #[ptr p, sV K N f.salt (bs d)] w fun e w' => e = .returned (.bool false) ∧ Below w.heap.size w w' := by
  have hf1 : ((f.feet : Int) == 0) = true := by simp; omega
  have hpo := pagesOf_any K N f.salt d hd
  have hq4 := head_lt d
  generalize Seal.numAt d 0 4 = q at *
  have hp1 : ¬ (4096 : Int) < (q : Int) := by omega
  obtain ⟨ao, cap, hv, -⟩ := row_shape h.row
  subst hv
  obtain ⟨w1, hw1e⟩ : ∃ x, w.alloc (.cells #[.int .i64 (K : Nat), .int .i64 (N : Nat), .int .u64 (f.salt : Nat), .string (bs d)] tSe) = x := ⟨_, rfl⟩
  have B0 : Below w.heap.size w w1 := by rw [← hw1e]; exact (Below.refl _ _).alloc (Nat.le_refl _) _
  have hq : w1.heap[w.heap.size]? = some (.cells #[.int .i64 (K : Nat), .int .i64 (N : Nat), .int .u64 (f.salt : Nat), .string (bs d)] tSe (0, 0)) := by rw [← hw1e]; exact blk_new w _
  have hF1 := h.on B0
  have c5 : w1.cell? ⟨p, 5, none⟩ = some (.int .i64 (f.pages : Nat)) := blk_cell hF1.box 5
  have s0 : w1.cell? ⟨w.heap.size, 0, none⟩ = some (.int .i64 (K : Nat)) := blk_cell hq 0
  have s1 : w1.cell? ⟨w.heap.size, 1, none⟩ = some (.int .i64 (N : Nat)) := blk_cell hq 1
  have s2 : w1.cell? ⟨w.heap.size, 2, none⟩ = some (.int .u64 (f.salt : Nat)) := blk_cell hq 2
  have s3 : w1.cell? ⟨w.heap.size, 3, none⟩ = some (.string (bs d)) := blk_cell hq 3
  have HPO := hid hpo
  have c4 : w1.cell? ⟨p, 4, none⟩ = some (.int .i64 (f.feet : Nat)) := blk_cell hF1.box 4
  have C1 : ∀ wx, Below w1.heap.size w1 wx → wx.cell? ⟨p, 1, none⟩ = some (.int .u64 (f.salt : Nat)) := fun wx hx => blk_cell (hF1.on hx).box 1
  have C2 : ∀ wx, Below w1.heap.size w1 wx → wx.cell? ⟨p, 2, none⟩ = some (.slice ao f.recs.length cap) := fun wx hx => blk_cell (hF1.on hx).box 2
  have C3 : ∀ wx, Below w1.heap.size w1 wx → wx.cell? ⟨p, 3, none⟩ = some (.int .i64 (f.above : Nat)) := fun wx hx => blk_cell (hF1.on hx).box 3
  have C4 : ∀ wx, Below w1.heap.size w1 wx → wx.cell? ⟨p, 4, none⟩ = some (.int .i64 (f.feet : Nat)) := fun wx hx => blk_cell (hF1.on hx).box 4
  have C6 : ∀ wx, Below w1.heap.size w1 wx → wx.cell? ⟨p, 6, none⟩ = some (.int .i64 (f.counted : Nat)) := fun wx hx => blk_cell (hF1.on hx).box 6
  have S0 : ∀ wx, Below w1.heap.size w1 wx → wx.heap[w.heap.size]? = some (.cells #[.int .i64 (K : Nat), .int .i64 (N : Nat), .int .u64 (f.salt : Nat), .string (bs d)] tSe (0, 0)) := fun wx hx => (hx.block _ (lt_of_block hq)).trans hq
  have D1 := hid C1
  have D2 := hid C2
  have D3 := hid C3
  have D4 := hid C4
  have D6 := hid C6
  have DS := hid S0
  have HE := hid hw1e
  have HB := hid B0
  have HF := hid hF1
  have HBN := hid hb
  have HQ4 := hid hq4
  have HA := hid ha
  clear C1 C2 C3 C4 C6 S0 hF1 h hw1e B0 hq hf hp hb hq4 hd ha hpo
  unfold sV
  go_enter Tryz.func80, Tryz.ntmps80
  go_upto_region 1 with fail
  rw [HE.out]
  go_wp2_with fail
  refine (HPO.out _).mono ?_
  rintro e w2 ⟨rfl, hb2⟩
  have HB2 := hid hb2
  clear hb2 s0 s1 s2 s3
  go_wp2_with fail
  refine wp_region_quiet_in (fun wx => Below w1.heap.size w1 wx) (by kernel_rfl) (by kernel_rfl) (HB2.out).drew ?_
  go_big_quiet_want
  go_big_quiet_op
  go_big_quiet_on
  go_big_quiet_want
  go_big_quiet_op
  refine ⟨.bool false, fun wx hx => ?_, ?_⟩
  · simp [go_sem, hp1]
  go_big_quiet_on
  go_big_quiet_want
  go_big_quiet_op
  go_big_quiet_on
  go_big_quiet_want
  go_big_quiet_op
  go_big_quiet_on
  go_big_quiet_want
  go_big_quiet_op
  go_big_quiet_on
  go_big_quiet_want
  go_big_quiet_op
  apply Exists.intro
  refine ⟨fun _ _ => ?_, ?_⟩
  · with_reducible exact Eq.refl _
  go_big_quiet_on
  go_big_quiet_want
  go_big_quiet_op
  apply Exists.intro
  refine ⟨fun _ _ => ?_, ?_⟩
  · with_reducible exact Eq.refl _
  go_big_quiet_on
  go_big_quiet_want
  go_big_quiet_op
  refine ⟨.int .i64 (f.above : Nat), fun wx hx => ?_, ?_⟩
  · have c := D3.out wx hx
    simp [go_sem, c]
  go_big_quiet_on
  go_big_quiet_want
  go_big_quiet_op
  refine ⟨.bool true, fun wx hx => ?_, ?_⟩
  · (simp [go_sem]; exact HA.out)
  go_big_quiet_on
  go_big_quiet_want
  go_big_quiet_op
  apply Exists.intro
  refine ⟨fun _ _ => ?_, ?_⟩
  · with_reducible exact Eq.refl _
  go_big_quiet_on
  go_big_quiet_want
  go_big_quiet_op
  go_big_quiet_on
  go_big_quiet_skip
  go_big_quiet_skip
  go_big_quiet_skip
  go_big_quiet_skip
  go_big_quiet_skip
  go_big_quiet_skip
  go_big_quiet_skip
  go_big_quiet_skip
  go_big_quiet_skip
  go_big_quiet_skip
  go_big_quiet_skip
  go_big_quiet_skip
  go_big_quiet_skip
  go_big_quiet_skip
  go_big_quiet_skip
  go_big_quiet_skip
  go_big_quiet_skip
  go_big_quiet_skip
  go_big_quiet_skip
  go_big_quiet_skip
  go_big_quiet_skip
  go_big_quiet_skip
  go_big_quiet_want
  go_big_quiet_op
  apply Exists.intro
  refine ⟨fun _ _ => ?_, ?_⟩
  · with_reducible exact Eq.refl _
  go_big_quiet_on
  refine wpQuiet_nil ?_
  intro wq hq
  have HQ := hid (HB.out.trans (hq.mono HB.out.size))
  clear hq
  go_wp2
  go_ret
  exact ⟨rfl, HQ.out⟩

set_option maxRecDepth 100000 in
set_option maxHeartbeats 4000000 in
theorem foot_z_n (h : FB p v f w) (hb : Bnd f) (K N : Nat) (hK : K = 3) (d : Bs) (hd : d.length = 232) (hf : f.feet = 0) (hp : (Seal.numAt d 0 4) ≤ 4096) (ha : f.above ≤ (Seal.numAt d 0 4)) (hN : ¬ N = f.recs.length - f.counted) :
    Calls Tryz.prog 80 #[ptr p, sV K N f.salt (bs d)] w fun e w' => e = .returned (.bool false) ∧ Below w.heap.size w w' := by
  have hf1 : ((f.feet : Int) == 0) = true := by simp; omega
  have hpo := pagesOf_any K N f.salt d hd
  have hq4 := head_lt d
  generalize Seal.numAt d 0 4 = q at *
  have hp1 : ¬ (4096 : Int) < (q : Int) := by omega
  have hK1 : ((K : Int) == 3) = true := by simp; omega
  have hN1 : ((N : Int) == ((f.recs.length - f.counted : Nat) : Int)) = false := by simp; omega
  have hsub : wrap64 ((f.recs.length : Int) - (f.counted : Int)) = ((f.recs.length - f.counted : Nat) : Int) := by have h1 := hb.counted; have h2 := hb.recs; rw [Num.wrap_i]; omega
  obtain ⟨ao, cap, hv, -⟩ := row_shape h.row
  subst hv
  obtain ⟨w1, hw1e⟩ : ∃ x, w.alloc (.cells #[.int .i64 (K : Nat), .int .i64 (N : Nat), .int .u64 (f.salt : Nat), .string (bs d)] tSe) = x := ⟨_, rfl⟩
  have B0 : Below w.heap.size w w1 := by rw [← hw1e]; exact (Below.refl _ _).alloc (Nat.le_refl _) _
  have hq : w1.heap[w.heap.size]? = some (.cells #[.int .i64 (K : Nat), .int .i64 (N : Nat), .int .u64 (f.salt : Nat), .string (bs d)] tSe (0, 0)) := by rw [← hw1e]; exact blk_new w _
  have hF1 := h.on B0
  have c5 : w1.cell? ⟨p, 5, none⟩ = some (.int .i64 (f.pages : Nat)) := blk_cell hF1.box 5
  have s0 : w1.cell? ⟨w.heap.size, 0, none⟩ = some (.int .i64 (K : Nat)) := blk_cell hq 0
  have s1 : w1.cell? ⟨w.heap.size, 1, none⟩ = some (.int .i64 (N : Nat)) := blk_cell hq 1
  have s2 : w1.cell? ⟨w.heap.size, 2, none⟩ = some (.int .u64 (f.salt : Nat)) := blk_cell hq 2
  have s3 : w1.cell? ⟨w.heap.size, 3, none⟩ = some (.string (bs d)) := blk_cell hq 3
  have HPO := hid hpo
  have c4 : w1.cell? ⟨p, 4, none⟩ = some (.int .i64 (f.feet : Nat)) := blk_cell hF1.box 4
  have C1 : ∀ wx, Below w1.heap.size w1 wx → wx.cell? ⟨p, 1, none⟩ = some (.int .u64 (f.salt : Nat)) := fun wx hx => blk_cell (hF1.on hx).box 1
  have C2 : ∀ wx, Below w1.heap.size w1 wx → wx.cell? ⟨p, 2, none⟩ = some (.slice ao f.recs.length cap) := fun wx hx => blk_cell (hF1.on hx).box 2
  have C3 : ∀ wx, Below w1.heap.size w1 wx → wx.cell? ⟨p, 3, none⟩ = some (.int .i64 (f.above : Nat)) := fun wx hx => blk_cell (hF1.on hx).box 3
  have C4 : ∀ wx, Below w1.heap.size w1 wx → wx.cell? ⟨p, 4, none⟩ = some (.int .i64 (f.feet : Nat)) := fun wx hx => blk_cell (hF1.on hx).box 4
  have C6 : ∀ wx, Below w1.heap.size w1 wx → wx.cell? ⟨p, 6, none⟩ = some (.int .i64 (f.counted : Nat)) := fun wx hx => blk_cell (hF1.on hx).box 6
  have S0 : ∀ wx, Below w1.heap.size w1 wx → wx.heap[w.heap.size]? = some (.cells #[.int .i64 (K : Nat), .int .i64 (N : Nat), .int .u64 (f.salt : Nat), .string (bs d)] tSe (0, 0)) := fun wx hx => (hx.block _ (lt_of_block hq)).trans hq
  have D1 := hid C1
  have D2 := hid C2
  have D3 := hid C3
  have D4 := hid C4
  have D6 := hid C6
  have DS := hid S0
  have HE := hid hw1e
  have HB := hid B0
  have HF := hid hF1
  have HBN := hid hb
  have HQ4 := hid hq4
  have HA := hid ha
  clear C1 C2 C3 C4 C6 S0 hF1 h hw1e B0 hq hf hp hb hq4 hK hd ha hN hpo
  unfold sV
  go_enter Tryz.func80, Tryz.ntmps80
  go_upto_region 1 with fail
  rw [HE.out]
  go_wp2_with fail
  refine (HPO.out _).mono ?_
  rintro e w2 ⟨rfl, hb2⟩
  have HB2 := hid hb2
  clear hb2 s0 s1 s2 s3
  go_wp2_with fail
  refine wp_region_quiet_in (fun wx => Below w1.heap.size w1 wx) (by kernel_rfl) (by kernel_rfl) (HB2.out).drew ?_
  go_big_quiet_want
  go_big_quiet_op
  go_big_quiet_on
  go_big_quiet_want
  go_big_quiet_op
  refine ⟨.bool false, fun wx hx => ?_, ?_⟩
  · simp [go_sem, hp1]
  go_big_quiet_on
  go_big_quiet_want
  go_big_quiet_op
  go_big_quiet_on
  go_big_quiet_want
  go_big_quiet_op
  go_big_quiet_on
  go_big_quiet_want
  go_big_quiet_op
  go_big_quiet_on
  go_big_quiet_want
  go_big_quiet_op
  apply Exists.intro
  refine ⟨fun _ _ => ?_, ?_⟩
  · with_reducible exact Eq.refl _
  go_big_quiet_on
  go_big_quiet_want
  go_big_quiet_op
  apply Exists.intro
  refine ⟨fun _ _ => ?_, ?_⟩
  · with_reducible exact Eq.refl _
  go_big_quiet_on
  go_big_quiet_want
  go_big_quiet_op
  refine ⟨.int .i64 (f.above : Nat), fun wx hx => ?_, ?_⟩
  · have c := D3.out wx hx
    simp [go_sem, c]
  go_big_quiet_on
  go_big_quiet_want
  go_big_quiet_op
  refine ⟨.bool false, fun wx hx => ?_, ?_⟩
  · (simp [go_sem]; exact HA.out)
  go_big_quiet_on
  go_big_quiet_want
  go_big_quiet_op
  apply Exists.intro
  refine ⟨fun _ _ => ?_, ?_⟩
  · with_reducible exact Eq.refl _
  go_big_quiet_on
  go_big_quiet_want
  go_big_quiet_op
  go_big_quiet_on
  go_big_quiet_want
  go_big_quiet_op
  refine ⟨.agg #[.int .i64 (K : Nat), .int .i64 (N : Nat), .int .u64 (f.salt : Nat), .string (bs d)], fun wx hx => ?_, ?_⟩
  · simp [go_sem, blk_cell (DS.out wx hx)]
  go_big_quiet_on
  go_big_quiet_want
  go_big_quiet_op
  go_big_quiet_on
  go_big_quiet_want
  go_big_quiet_op
  apply Exists.intro
  refine ⟨fun _ _ => ?_, ?_⟩
  · with_reducible exact Eq.refl _
  go_big_quiet_on
  go_big_quiet_want
  go_big_quiet_op
  apply Exists.intro
  refine ⟨fun _ _ => ?_, ?_⟩
  · with_reducible exact Eq.refl _
  go_big_quiet_on
  go_big_quiet_want
  go_big_quiet_op
  refine ⟨.slice ao f.recs.length cap, fun wx hx => ?_, ?_⟩
  · have c := D2.out wx hx
    simp [go_sem, c]
  go_big_quiet_on
  go_big_quiet_want
  go_big_quiet_op
  refine ⟨.int .i64 (f.recs.length : Nat), fun wx hx => ?_, ?_⟩
  · simp [go_sem]
  go_big_quiet_on
  go_big_quiet_want
  go_big_quiet_op
  go_big_quiet_on
  go_big_quiet_want
  go_big_quiet_op
  apply Exists.intro
  refine ⟨fun _ _ => ?_, ?_⟩
  · with_reducible exact Eq.refl _
  go_big_quiet_on
  go_big_quiet_want
  go_big_quiet_op
  apply Exists.intro
  refine ⟨fun _ _ => ?_, ?_⟩
  · with_reducible exact Eq.refl _
  go_big_quiet_on
  go_big_quiet_want
  go_big_quiet_op
  refine ⟨.int .i64 (f.counted : Nat), fun wx hx => ?_, ?_⟩
  · have c := D6.out wx hx
    simp [go_sem, c]
  go_big_quiet_on
  go_big_quiet_want
  go_big_quiet_op
  refine ⟨.int .i64 ((f.recs.length - f.counted : Nat) : Int), fun wx hx => ?_, ?_⟩
  · simp [go_sem, hsub]
  go_big_quiet_on
  go_big_quiet_want
  go_big_quiet_op
  go_big_quiet_on
  go_big_quiet_want
  go_big_quiet_op
  go_big_quiet_on
  go_big_quiet_want
  go_big_quiet_op
  apply Exists.intro
  refine ⟨fun _ _ => ?_, ?_⟩
  · with_reducible exact Eq.refl _
  go_big_quiet_on
  go_big_quiet_want
  go_big_quiet_op
  apply Exists.intro
  refine ⟨fun _ _ => ?_, ?_⟩
  · with_reducible exact Eq.refl _
  go_big_quiet_on
  go_big_quiet_want
  go_big_quiet_op
  refine ⟨.int .i64 (f.feet : Nat), fun wx hx => ?_, ?_⟩
  · have c := D4.out wx hx
    simp [go_sem, c]
  go_big_quiet_on
  go_big_quiet_want
  go_big_quiet_op
  go_big_quiet_on
  go_big_quiet_want
  go_big_quiet_op
  apply Exists.intro
  refine ⟨fun _ _ => ?_, ?_⟩
  · with_reducible exact Eq.refl _
  go_big_quiet_on
  go_big_quiet_want
  go_big_quiet_op
  apply Exists.intro
  refine ⟨fun _ _ => ?_, ?_⟩
  · with_reducible exact Eq.refl _
  go_big_quiet_on
  go_big_quiet_want
  go_big_quiet_op
  refine ⟨.int .u64 (f.salt : Nat), fun wx hx => ?_, ?_⟩
  · have c := D1.out wx hx
    simp [go_sem, c]
  go_big_quiet_on
  go_big_quiet_want
  go_big_quiet_op
  refine ⟨sV 3 (f.recs.length - f.counted) f.salt (footS q f.feet), fun wx hx => ?_, ?_⟩
  · refine (foot_any (f.recs.length - f.counted) q f.feet f.salt (by have := HQ4.out; omega) (by have := HBN.out.feet; omega) _).mono ?_
    rintro e w9 ⟨rfl, hb9⟩
    exact ⟨rfl, hx.trans (hb9.mono hx.size)⟩
  go_big_quiet_on
  go_big_quiet_want
  go_big_quiet_op
  refine ⟨.bool true, fun wx hx => ?_, ?_⟩
  · simp [go_sem, sV, hK1, hN1]
  go_big_quiet_on
  go_big_quiet_want
  go_big_quiet_op
  apply Exists.intro
  refine ⟨fun _ _ => ?_, ?_⟩
  · with_reducible exact Eq.refl _
  go_big_quiet_on
  refine wpQuiet_nil ?_
  intro wq hq
  have HQ := hid (HB.out.trans (hq.mono HB.out.size))
  clear hq
  go_wp2
  go_ret
  exact ⟨rfl, HQ.out⟩

set_option maxRecDepth 100000 in
set_option maxHeartbeats 4000000 in
theorem foot_z_d (h : FB p v f w) (hb : Bnd f) (K N : Nat) (hK : K = 3) (d : Bs) (hd : d.length = 232) (hf : f.feet = 0) (hp : (Seal.numAt d 0 4) ≤ 4096) (ha : f.above ≤ (Seal.numAt d 0 4)) (hN : N = f.recs.length - f.counted) (hD : ¬ d = footL (Seal.numAt d 0 4) f.feet) :
    Calls Tryz.prog 80 #[ptr p, sV K N f.salt (bs d)] w fun e w' => e = .returned (.bool false) ∧ Below w.heap.size w w' := by
  have hf1 : ((f.feet : Int) == 0) = true := by simp; omega
  have hpo := pagesOf_any K N f.salt d hd
  have hq4 := head_lt d
  generalize Seal.numAt d 0 4 = q at *
  have hp1 : ¬ (4096 : Int) < (q : Int) := by omega
  have hK1 : ((K : Int) == 3) = true := by simp; omega
  have hN1 : ((N : Int) == ((f.recs.length - f.counted : Nat) : Int)) = true := by simp; omega
  have hsub : wrap64 ((f.recs.length : Int) - (f.counted : Int)) = ((f.recs.length - f.counted : Nat) : Int) := by have h1 := hb.counted; have h2 := hb.recs; rw [Num.wrap_i]; omega
  have hD1 : ((bs d).toList == (footS q f.feet).toList) = false := by rw [foot_toList]; exact decide_eq_false hD
  obtain ⟨ao, cap, hv, -⟩ := row_shape h.row
  subst hv
  obtain ⟨w1, hw1e⟩ : ∃ x, w.alloc (.cells #[.int .i64 (K : Nat), .int .i64 (N : Nat), .int .u64 (f.salt : Nat), .string (bs d)] tSe) = x := ⟨_, rfl⟩
  have B0 : Below w.heap.size w w1 := by rw [← hw1e]; exact (Below.refl _ _).alloc (Nat.le_refl _) _
  have hq : w1.heap[w.heap.size]? = some (.cells #[.int .i64 (K : Nat), .int .i64 (N : Nat), .int .u64 (f.salt : Nat), .string (bs d)] tSe (0, 0)) := by rw [← hw1e]; exact blk_new w _
  have hF1 := h.on B0
  have c5 : w1.cell? ⟨p, 5, none⟩ = some (.int .i64 (f.pages : Nat)) := blk_cell hF1.box 5
  have s0 : w1.cell? ⟨w.heap.size, 0, none⟩ = some (.int .i64 (K : Nat)) := blk_cell hq 0
  have s1 : w1.cell? ⟨w.heap.size, 1, none⟩ = some (.int .i64 (N : Nat)) := blk_cell hq 1
  have s2 : w1.cell? ⟨w.heap.size, 2, none⟩ = some (.int .u64 (f.salt : Nat)) := blk_cell hq 2
  have s3 : w1.cell? ⟨w.heap.size, 3, none⟩ = some (.string (bs d)) := blk_cell hq 3
  have HPO := hid hpo
  have c4 : w1.cell? ⟨p, 4, none⟩ = some (.int .i64 (f.feet : Nat)) := blk_cell hF1.box 4
  have C1 : ∀ wx, Below w1.heap.size w1 wx → wx.cell? ⟨p, 1, none⟩ = some (.int .u64 (f.salt : Nat)) := fun wx hx => blk_cell (hF1.on hx).box 1
  have C2 : ∀ wx, Below w1.heap.size w1 wx → wx.cell? ⟨p, 2, none⟩ = some (.slice ao f.recs.length cap) := fun wx hx => blk_cell (hF1.on hx).box 2
  have C3 : ∀ wx, Below w1.heap.size w1 wx → wx.cell? ⟨p, 3, none⟩ = some (.int .i64 (f.above : Nat)) := fun wx hx => blk_cell (hF1.on hx).box 3
  have C4 : ∀ wx, Below w1.heap.size w1 wx → wx.cell? ⟨p, 4, none⟩ = some (.int .i64 (f.feet : Nat)) := fun wx hx => blk_cell (hF1.on hx).box 4
  have C6 : ∀ wx, Below w1.heap.size w1 wx → wx.cell? ⟨p, 6, none⟩ = some (.int .i64 (f.counted : Nat)) := fun wx hx => blk_cell (hF1.on hx).box 6
  have S0 : ∀ wx, Below w1.heap.size w1 wx → wx.heap[w.heap.size]? = some (.cells #[.int .i64 (K : Nat), .int .i64 (N : Nat), .int .u64 (f.salt : Nat), .string (bs d)] tSe (0, 0)) := fun wx hx => (hx.block _ (lt_of_block hq)).trans hq
  have D1 := hid C1
  have D2 := hid C2
  have D3 := hid C3
  have D4 := hid C4
  have D6 := hid C6
  have DS := hid S0
  have HE := hid hw1e
  have HB := hid B0
  have HF := hid hF1
  have HBN := hid hb
  have HQ4 := hid hq4
  have HA := hid ha
  clear C1 C2 C3 C4 C6 S0 hF1 h hw1e B0 hq hf hp hb hq4 hK hd ha hN hD hpo
  unfold sV
  go_enter Tryz.func80, Tryz.ntmps80
  go_upto_region 1 with fail
  rw [HE.out]
  go_wp2_with fail
  refine (HPO.out _).mono ?_
  rintro e w2 ⟨rfl, hb2⟩
  have HB2 := hid hb2
  clear hb2 s0 s1 s2 s3
  go_wp2_with fail
  refine wp_region_quiet_in (fun wx => Below w1.heap.size w1 wx) (by kernel_rfl) (by kernel_rfl) (HB2.out).drew ?_
  go_big_quiet_want
  go_big_quiet_op
  go_big_quiet_on
  go_big_quiet_want
  go_big_quiet_op
  refine ⟨.bool false, fun wx hx => ?_, ?_⟩
  · simp [go_sem, hp1]
  go_big_quiet_on
  go_big_quiet_want
  go_big_quiet_op
  go_big_quiet_on
  go_big_quiet_want
  go_big_quiet_op
  go_big_quiet_on
  go_big_quiet_want
  go_big_quiet_op
  go_big_quiet_on
  go_big_quiet_want
  go_big_quiet_op
  apply Exists.intro
  refine ⟨fun _ _ => ?_, ?_⟩
  · with_reducible exact Eq.refl _
  go_big_quiet_on
  go_big_quiet_want
  go_big_quiet_op
  apply Exists.intro
  refine ⟨fun _ _ => ?_, ?_⟩
  · with_reducible exact Eq.refl _
  go_big_quiet_on
  go_big_quiet_want
  go_big_quiet_op
  refine ⟨.int .i64 (f.above : Nat), fun wx hx => ?_, ?_⟩
  · have c := D3.out wx hx
    simp [go_sem, c]
  go_big_quiet_on
  go_big_quiet_want
  go_big_quiet_op
  refine ⟨.bool false, fun wx hx => ?_, ?_⟩
  · (simp [go_sem]; exact HA.out)
  go_big_quiet_on
  go_big_quiet_want
  go_big_quiet_op
  apply Exists.intro
  refine ⟨fun _ _ => ?_, ?_⟩
  · with_reducible exact Eq.refl _
  go_big_quiet_on
  go_big_quiet_want
  go_big_quiet_op
  go_big_quiet_on
  go_big_quiet_want
  go_big_quiet_op
  refine ⟨.agg #[.int .i64 (K : Nat), .int .i64 (N : Nat), .int .u64 (f.salt : Nat), .string (bs d)], fun wx hx => ?_, ?_⟩
  · simp [go_sem, blk_cell (DS.out wx hx)]
  go_big_quiet_on
  go_big_quiet_want
  go_big_quiet_op
  go_big_quiet_on
  go_big_quiet_want
  go_big_quiet_op
  apply Exists.intro
  refine ⟨fun _ _ => ?_, ?_⟩
  · with_reducible exact Eq.refl _
  go_big_quiet_on
  go_big_quiet_want
  go_big_quiet_op
  apply Exists.intro
  refine ⟨fun _ _ => ?_, ?_⟩
  · with_reducible exact Eq.refl _
  go_big_quiet_on
  go_big_quiet_want
  go_big_quiet_op
  refine ⟨.slice ao f.recs.length cap, fun wx hx => ?_, ?_⟩
  · have c := D2.out wx hx
    simp [go_sem, c]
  go_big_quiet_on
  go_big_quiet_want
  go_big_quiet_op
  refine ⟨.int .i64 (f.recs.length : Nat), fun wx hx => ?_, ?_⟩
  · simp [go_sem]
  go_big_quiet_on
  go_big_quiet_want
  go_big_quiet_op
  go_big_quiet_on
  go_big_quiet_want
  go_big_quiet_op
  apply Exists.intro
  refine ⟨fun _ _ => ?_, ?_⟩
  · with_reducible exact Eq.refl _
  go_big_quiet_on
  go_big_quiet_want
  go_big_quiet_op
  apply Exists.intro
  refine ⟨fun _ _ => ?_, ?_⟩
  · with_reducible exact Eq.refl _
  go_big_quiet_on
  go_big_quiet_want
  go_big_quiet_op
  refine ⟨.int .i64 (f.counted : Nat), fun wx hx => ?_, ?_⟩
  · have c := D6.out wx hx
    simp [go_sem, c]
  go_big_quiet_on
  go_big_quiet_want
  go_big_quiet_op
  refine ⟨.int .i64 ((f.recs.length - f.counted : Nat) : Int), fun wx hx => ?_, ?_⟩
  · simp [go_sem, hsub]
  go_big_quiet_on
  go_big_quiet_want
  go_big_quiet_op
  go_big_quiet_on
  go_big_quiet_want
  go_big_quiet_op
  go_big_quiet_on
  go_big_quiet_want
  go_big_quiet_op
  apply Exists.intro
  refine ⟨fun _ _ => ?_, ?_⟩
  · with_reducible exact Eq.refl _
  go_big_quiet_on
  go_big_quiet_want
  go_big_quiet_op
  apply Exists.intro
  refine ⟨fun _ _ => ?_, ?_⟩
  · with_reducible exact Eq.refl _
  go_big_quiet_on
  go_big_quiet_want
  go_big_quiet_op
  refine ⟨.int .i64 (f.feet : Nat), fun wx hx => ?_, ?_⟩
  · have c := D4.out wx hx
    simp [go_sem, c]
  go_big_quiet_on
  go_big_quiet_want
  go_big_quiet_op
  go_big_quiet_on
  go_big_quiet_want
  go_big_quiet_op
  apply Exists.intro
  refine ⟨fun _ _ => ?_, ?_⟩
  · with_reducible exact Eq.refl _
  go_big_quiet_on
  go_big_quiet_want
  go_big_quiet_op
  apply Exists.intro
  refine ⟨fun _ _ => ?_, ?_⟩
  · with_reducible exact Eq.refl _
  go_big_quiet_on
  go_big_quiet_want
  go_big_quiet_op
  refine ⟨.int .u64 (f.salt : Nat), fun wx hx => ?_, ?_⟩
  · have c := D1.out wx hx
    simp [go_sem, c]
  go_big_quiet_on
  go_big_quiet_want
  go_big_quiet_op
  refine ⟨sV 3 (f.recs.length - f.counted) f.salt (footS q f.feet), fun wx hx => ?_, ?_⟩
  · refine (foot_any (f.recs.length - f.counted) q f.feet f.salt (by have := HQ4.out; omega) (by have := HBN.out.feet; omega) _).mono ?_
    rintro e w9 ⟨rfl, hb9⟩
    exact ⟨rfl, hx.trans (hb9.mono hx.size)⟩
  go_big_quiet_on
  go_big_quiet_want
  go_big_quiet_op
  refine ⟨.bool true, fun wx hx => ?_, ?_⟩
  · simp [go_sem, sV, hK1, hN1, hD1]
  go_big_quiet_on
  go_big_quiet_want
  go_big_quiet_op
  apply Exists.intro
  refine ⟨fun _ _ => ?_, ?_⟩
  · with_reducible exact Eq.refl _
  go_big_quiet_on
  refine wpQuiet_nil ?_
  intro wq hq
  have HQ := hid (HB.out.trans (hq.mono HB.out.size))
  clear hq
  go_wp2
  go_ret
  exact ⟨rfl, HQ.out⟩

set_option maxRecDepth 100000 in
set_option maxHeartbeats 4000000 in
theorem foot_z_ok (h : FB p v f w) (hb : Bnd f) (hb0 : f.begun = true) (K N : Nat) (hK : K = 3) (d : Bs) (hd : d.length = 232) (hf : f.feet = 0) (hp : (Seal.numAt d 0 4) ≤ 4096) (ha : f.above ≤ (Seal.numAt d 0 4)) (hN : N = f.recs.length - f.counted) (hD : d = footL (Seal.numAt d 0 4) f.feet) :
    Calls Tryz.prog 80 #[ptr p, sV K N f.salt (bs d)] w fun e w' => e = .returned (.bool true) ∧ Took p v w (f.shut f.salt (Seal.numAt d 0 4)) w' := by
  have hf1 : ((f.feet : Int) == 0) = true := by simp; omega
  have hpo := pagesOf_any K N f.salt d hd
  have hq4 := head_lt d
  generalize Seal.numAt d 0 4 = q at *
  have hp1 : ¬ (4096 : Int) < (q : Int) := by omega
  have hK1 : ((K : Int) == 3) = true := by simp; omega
  have hN1 : ((N : Int) == ((f.recs.length - f.counted : Nat) : Int)) = true := by simp; omega
  have hsub : wrap64 ((f.recs.length : Int) - (f.counted : Int)) = ((f.recs.length - f.counted : Nat) : Int) := by have h1 := hb.counted; have h2 := hb.recs; rw [Num.wrap_i]; omega
  have hD1 : ((bs d).toList == (footS q f.feet).toList) = true := by rw [foot_toList]; exact decide_eq_true hD
  obtain ⟨ao, cap, hv, -⟩ := row_shape h.row
  subst hv
  obtain ⟨w1, hw1e⟩ : ∃ x, w.alloc (.cells #[.int .i64 (K : Nat), .int .i64 (N : Nat), .int .u64 (f.salt : Nat), .string (bs d)] tSe) = x := ⟨_, rfl⟩
  have B0 : Below w.heap.size w w1 := by rw [← hw1e]; exact (Below.refl _ _).alloc (Nat.le_refl _) _
  have hq : w1.heap[w.heap.size]? = some (.cells #[.int .i64 (K : Nat), .int .i64 (N : Nat), .int .u64 (f.salt : Nat), .string (bs d)] tSe (0, 0)) := by rw [← hw1e]; exact blk_new w _
  have hF1 := h.on B0
  have c5 : w1.cell? ⟨p, 5, none⟩ = some (.int .i64 (f.pages : Nat)) := blk_cell hF1.box 5
  have s0 : w1.cell? ⟨w.heap.size, 0, none⟩ = some (.int .i64 (K : Nat)) := blk_cell hq 0
  have s1 : w1.cell? ⟨w.heap.size, 1, none⟩ = some (.int .i64 (N : Nat)) := blk_cell hq 1
  have s2 : w1.cell? ⟨w.heap.size, 2, none⟩ = some (.int .u64 (f.salt : Nat)) := blk_cell hq 2
  have s3 : w1.cell? ⟨w.heap.size, 3, none⟩ = some (.string (bs d)) := blk_cell hq 3
  have HPO := hid hpo
  have c4 : w1.cell? ⟨p, 4, none⟩ = some (.int .i64 (f.feet : Nat)) := blk_cell hF1.box 4
  have C1 : ∀ wx, Below w1.heap.size w1 wx → wx.cell? ⟨p, 1, none⟩ = some (.int .u64 (f.salt : Nat)) := fun wx hx => blk_cell (hF1.on hx).box 1
  have C2 : ∀ wx, Below w1.heap.size w1 wx → wx.cell? ⟨p, 2, none⟩ = some (.slice ao f.recs.length cap) := fun wx hx => blk_cell (hF1.on hx).box 2
  have C3 : ∀ wx, Below w1.heap.size w1 wx → wx.cell? ⟨p, 3, none⟩ = some (.int .i64 (f.above : Nat)) := fun wx hx => blk_cell (hF1.on hx).box 3
  have C4 : ∀ wx, Below w1.heap.size w1 wx → wx.cell? ⟨p, 4, none⟩ = some (.int .i64 (f.feet : Nat)) := fun wx hx => blk_cell (hF1.on hx).box 4
  have C6 : ∀ wx, Below w1.heap.size w1 wx → wx.cell? ⟨p, 6, none⟩ = some (.int .i64 (f.counted : Nat)) := fun wx hx => blk_cell (hF1.on hx).box 6
  have S0 : ∀ wx, Below w1.heap.size w1 wx → wx.heap[w.heap.size]? = some (.cells #[.int .i64 (K : Nat), .int .i64 (N : Nat), .int .u64 (f.salt : Nat), .string (bs d)] tSe (0, 0)) := fun wx hx => (hx.block _ (lt_of_block hq)).trans hq
  have D1 := hid C1
  have D2 := hid C2
  have D3 := hid C3
  have D4 := hid C4
  have D6 := hid C6
  have DS := hid S0
  have HE := hid hw1e
  have HB := hid B0
  have HF := hid hF1
  have HBN := hid hb
  have HQ4 := hid hq4
  have HA := hid ha
  clear C1 C2 C3 C4 C6 S0 hF1 h hw1e B0 hq hf hp hb hq4 hK hd ha hN hD hpo
  have HB0 := hid hb0
  clear hb0
  unfold sV
  go_enter Tryz.func80, Tryz.ntmps80
  go_upto_region 1 with fail
  rw [HE.out]
  go_wp2_with fail
  refine (HPO.out _).mono ?_
  rintro e w2 ⟨rfl, hb2⟩
  have HB2 := hid hb2
  clear hb2 s0 s1 s2 s3
  go_wp2_with fail
  refine wp_region_quiet_in (fun wx => Below w1.heap.size w1 wx) (by kernel_rfl) (by kernel_rfl) (HB2.out).drew ?_
  go_big_quiet_want
  go_big_quiet_op
  go_big_quiet_on
  go_big_quiet_want
  go_big_quiet_op
  refine ⟨.bool false, fun wx hx => ?_, ?_⟩
  · simp [go_sem, hp1]
  go_big_quiet_on
  go_big_quiet_want
  go_big_quiet_op
  go_big_quiet_on
  go_big_quiet_want
  go_big_quiet_op
  go_big_quiet_on
  go_big_quiet_want
  go_big_quiet_op
  go_big_quiet_on
  go_big_quiet_want
  go_big_quiet_op
  apply Exists.intro
  refine ⟨fun _ _ => ?_, ?_⟩
  · with_reducible exact Eq.refl _
  go_big_quiet_on
  go_big_quiet_want
  go_big_quiet_op
  apply Exists.intro
  refine ⟨fun _ _ => ?_, ?_⟩
  · with_reducible exact Eq.refl _
  go_big_quiet_on
  go_big_quiet_want
  go_big_quiet_op
  refine ⟨.int .i64 (f.above : Nat), fun wx hx => ?_, ?_⟩
  · have c := D3.out wx hx
    simp [go_sem, c]
  go_big_quiet_on
  go_big_quiet_want
  go_big_quiet_op
  refine ⟨.bool false, fun wx hx => ?_, ?_⟩
  · (simp [go_sem]; exact HA.out)
  go_big_quiet_on
  go_big_quiet_want
  go_big_quiet_op
  apply Exists.intro
  refine ⟨fun _ _ => ?_, ?_⟩
  · with_reducible exact Eq.refl _
  go_big_quiet_on
  go_big_quiet_want
  go_big_quiet_op
  go_big_quiet_on
  go_big_quiet_want
  go_big_quiet_op
  refine ⟨.agg #[.int .i64 (K : Nat), .int .i64 (N : Nat), .int .u64 (f.salt : Nat), .string (bs d)], fun wx hx => ?_, ?_⟩
  · simp [go_sem, blk_cell (DS.out wx hx)]
  go_big_quiet_on
  go_big_quiet_want
  go_big_quiet_op
  go_big_quiet_on
  go_big_quiet_want
  go_big_quiet_op
  apply Exists.intro
  refine ⟨fun _ _ => ?_, ?_⟩
  · with_reducible exact Eq.refl _
  go_big_quiet_on
  go_big_quiet_want
  go_big_quiet_op
  apply Exists.intro
  refine ⟨fun _ _ => ?_, ?_⟩
  · with_reducible exact Eq.refl _
  go_big_quiet_on
  go_big_quiet_want
  go_big_quiet_op
  refine ⟨.slice ao f.recs.length cap, fun wx hx => ?_, ?_⟩
  · have c := D2.out wx hx
    simp [go_sem, c]
  go_big_quiet_on
  go_big_quiet_want
  go_big_quiet_op
  refine ⟨.int .i64 (f.recs.length : Nat), fun wx hx => ?_, ?_⟩
  · simp [go_sem]
  go_big_quiet_on
  go_big_quiet_want
  go_big_quiet_op
  go_big_quiet_on
  go_big_quiet_want
  go_big_quiet_op
  apply Exists.intro
  refine ⟨fun _ _ => ?_, ?_⟩
  · with_reducible exact Eq.refl _
  go_big_quiet_on
  go_big_quiet_want
  go_big_quiet_op
  apply Exists.intro
  refine ⟨fun _ _ => ?_, ?_⟩
  · with_reducible exact Eq.refl _
  go_big_quiet_on
  go_big_quiet_want
  go_big_quiet_op
  refine ⟨.int .i64 (f.counted : Nat), fun wx hx => ?_, ?_⟩
  · have c := D6.out wx hx
    simp [go_sem, c]
  go_big_quiet_on
  go_big_quiet_want
  go_big_quiet_op
  refine ⟨.int .i64 ((f.recs.length - f.counted : Nat) : Int), fun wx hx => ?_, ?_⟩
  · simp [go_sem, hsub]
  go_big_quiet_on
  go_big_quiet_want
  go_big_quiet_op
  go_big_quiet_on
  go_big_quiet_want
  go_big_quiet_op
  go_big_quiet_on
  go_big_quiet_want
  go_big_quiet_op
  apply Exists.intro
  refine ⟨fun _ _ => ?_, ?_⟩
  · with_reducible exact Eq.refl _
  go_big_quiet_on
  go_big_quiet_want
  go_big_quiet_op
  apply Exists.intro
  refine ⟨fun _ _ => ?_, ?_⟩
  · with_reducible exact Eq.refl _
  go_big_quiet_on
  go_big_quiet_want
  go_big_quiet_op
  refine ⟨.int .i64 (f.feet : Nat), fun wx hx => ?_, ?_⟩
  · have c := D4.out wx hx
    simp [go_sem, c]
  go_big_quiet_on
  go_big_quiet_want
  go_big_quiet_op
  go_big_quiet_on
  go_big_quiet_want
  go_big_quiet_op
  apply Exists.intro
  refine ⟨fun _ _ => ?_, ?_⟩
  · with_reducible exact Eq.refl _
  go_big_quiet_on
  go_big_quiet_want
  go_big_quiet_op
  apply Exists.intro
  refine ⟨fun _ _ => ?_, ?_⟩
  · with_reducible exact Eq.refl _
  go_big_quiet_on
  go_big_quiet_want
  go_big_quiet_op
  refine ⟨.int .u64 (f.salt : Nat), fun wx hx => ?_, ?_⟩
  · have c := D1.out wx hx
    simp [go_sem, c]
  go_big_quiet_on
  go_big_quiet_want
  go_big_quiet_op
  refine ⟨sV 3 (f.recs.length - f.counted) f.salt (footS q f.feet), fun wx hx => ?_, ?_⟩
  · refine (foot_any (f.recs.length - f.counted) q f.feet f.salt (by have := HQ4.out; omega) (by have := HBN.out.feet; omega) _).mono ?_
    rintro e w9 ⟨rfl, hb9⟩
    exact ⟨rfl, hx.trans (hb9.mono hx.size)⟩
  go_big_quiet_on
  go_big_quiet_want
  go_big_quiet_op
  refine ⟨.bool false, fun wx hx => ?_, ?_⟩
  · simp [go_sem, sV, hK1, hN1, hD1]
  go_big_quiet_on
  go_big_quiet_want
  go_big_quiet_op
  apply Exists.intro
  refine ⟨fun _ _ => ?_, ?_⟩
  · with_reducible exact Eq.refl _
  go_big_quiet_on
  refine wpQuiet_nil ?_
  intro wq hq
  have HQ := hid (HF.out.on hq)
  have HC := hid ((Chg.of_below (F := fT p (.slice ao f.recs.length cap)) HB.out).trans (Chg.of_below hq))
  have k5 : wq.cell? ⟨p, 5, none⟩ = some (.int .i64 (f.pages : Nat)) := blk_cell HQ.out.box 5
  have k4 : wq.cell? ⟨p, 4, none⟩ = some (.int .i64 (f.feet : Nat)) := blk_cell HQ.out.box 4
  have g5 : wq.frozen? ⟨p, 5, none⟩ = false := blk_free HQ.out.box 5
  have g4 : wq.frozen? ⟨p, 4, none⟩ = false := blk_free HQ.out.box 4
  have hw1 : wrap64 ((f.feet : Int) + 1) = (f.feet : Int) + 1 := by have := HBN.out.feet; rw [Num.wrap_i]; omega
  obtain ⟨r1, r2⟩ := HQ.out.fed q
  have HR1 := hid r1
  have HR2 := hid r2
  clear hq r1 r2
  go_upto_region 8 with fail
  generalize (wq.setCell ⟨p, 5, none⟩ (.int .i64 (q : Nat))).setCell ⟨p, 4, none⟩ (.int .i64 ((f.feet : Int) + 1)) = w5 at *
  have k2 : w5.cell? ⟨p, 2, none⟩ = some (.slice ao f.recs.length cap) := blk_cell HR1.out.box 2
  have k6 : w5.cell? ⟨p, 6, none⟩ = some (.int .i64 (f.counted : Nat)) := blk_cell HR1.out.box 6
  have g6 : w5.frozen? ⟨p, 6, none⟩ = false := blk_free HR1.out.box 6
  obtain ⟨r1, r2⟩ := HR1.out.counts
  have HY := hid r1
  have HT := hid ((HC.out.trans (HR2.out.mono (fun k _ e => (Or.inl e : fT p (.slice ao f.recs.length cap) k)))).trans (r2.mono (fun k _ e => (Or.inl e : fT p (.slice ao f.recs.length cap) k))))
  clear r1 r2 k5 k4 g5 g4
  go_wp2
  go_ret
  refine ⟨rfl, _, ?_, HT.out, fun k hk => Or.inl hk⟩
  have := HY.out
  unfold Fnd.shut
  rw [HB0.out] at this
  exact this

/-- takeFoot, whatever the sector says. -/
def TakeGives (p : Nat) (v : Value) (w : World) (f : Fnd) (r : Option Fnd) (e : Ending) (w' : World) : Prop :=
  match r with
  | some g => e = .returned (.bool true) ∧ Took p v w g w'
  | none => e = .returned (.bool false) ∧ Took p v w f w'
theorem takeFoot_any (h : FB p v f w) (hb : Bnd f) (hb0 : f.begun = true) (K N : Nat) (hK : K = 3) (d : Bs) (hd : d.length = 232) :
    Calls Tryz.prog 80 #[ptr p, sV K N f.salt (bs d)] w (TakeGives p v w f (if rightNd f N d = false then none else some (f.shut f.salt (footPd f d)))) := by
  have no : ∀ (x : Calls Tryz.prog 80 #[ptr p, sV K N f.salt (bs d)] w fun e w' => e = .returned (.bool false) ∧ Below w.heap.size w w') (hr : rightNd f N d = false), Calls Tryz.prog 80 #[ptr p, sV K N f.salt (bs d)] w (TakeGives p v w f (if rightNd f N d = false then none else some (f.shut f.salt (footPd f d)))) := fun x hr => by
    rw [if_pos hr]
    exact x.mono fun e w' ⟨he, hw⟩ => ⟨he, Took.stay h hw⟩
  by_cases hf : f.feet = 0
  · have eP : footPd f d = Seal.numAt d 0 4 := if_pos hf
    by_cases h1 : Seal.numAt d 0 4 ≤ 4096
    · by_cases h2 : f.above ≤ Seal.numAt d 0 4
      · by_cases h3 : N = f.recs.length - f.counted
        · by_cases h4 : d = footL (Seal.numAt d 0 4) f.feet
          · have hr : rightNd f N d = true := by unfold rightNd; rw [eP, decide_eq_true h1, decide_eq_true h2, decide_eq_true h3, decide_eq_true h4]; rfl
            rw [hr, if_neg (by decide), eP]
            exact foot_z_ok h hb hb0 K N hK d hd hf h1 h2 h3 h4
          · exact no (foot_z_d h hb K N hK d hd hf h1 h2 h3 h4) (by unfold rightNd; rw [eP, decide_eq_false h4, Bool.and_false])
        · exact no (foot_z_n h hb K N hK d hd hf h1 h2 h3) (by unfold rightNd; rw [decide_eq_false h3, Bool.and_false, Bool.false_and])
      · exact no (foot_z_below h hb K N d hd hf h1 (by omega)) (by unfold rightNd; rw [eP, decide_eq_false h2, Bool.and_false, Bool.false_and, Bool.false_and])
    · exact no (foot_z_gt h hb K N d hd hf (by omega)) (by unfold rightNd; rw [eP, decide_eq_false h1, Bool.false_and, Bool.false_and, Bool.false_and])
  · have eP : footPd f d = f.pages := if_neg hf
    by_cases h1 : f.pages ≤ 4096
    · by_cases h2 : f.above ≤ f.pages
      · by_cases h3 : N = f.recs.length - f.counted
        · by_cases h4 : d = footL f.pages f.feet
          · have hr : rightNd f N d = true := by unfold rightNd; rw [eP, decide_eq_true h1, decide_eq_true h2, decide_eq_true h3, decide_eq_true h4]; rfl
            rw [hr, if_neg (by decide), eP]
            exact foot_f_ok h hb hb0 K N hK d hf h1 h2 h3 h4
          · exact no (foot_f_d h hb K N hK d hf h1 h2 h3 h4) (by unfold rightNd; rw [eP, decide_eq_false h4, Bool.and_false])
        · exact no (foot_f_n h hb K N hK d hf h1 h2 h3) (by unfold rightNd; rw [decide_eq_false h3, Bool.and_false, Bool.false_and])
      · exact no (foot_f_below h hb K N d hf h1 (by omega)) (by unfold rightNd; rw [eP, decide_eq_false h2, Bool.and_false, Bool.false_and, Bool.false_and])
    · exact absurd hb.pages h1

end Jo
end Go.Proofs.YtpdpjgeoclilhaaGreat
