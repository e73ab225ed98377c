/-
  Contracts of the project's disk, of what stands in the struct alone: names, room, what is armed, off, counts.
-/
import Derived.Test.YtiomojidfkpagaaDiskMem
namespace Go.Proofs.Ytiomojidfkpagaa
open Go.RowKit
namespace Disk
open Num (hid)

theorem root_cells {w : World} {d m : Nat} {c : Ctl} (h : w.heap[d]? = some (.cells (rootCells m c) tDisk (0, 0))) :
    w.cell? ⟨d, 0, none⟩ = some (.map (some m)) ∧ w.cell? ⟨d, 1, none⟩ = some (.int .i64 c.room) ∧ w.cell? ⟨d, 2, none⟩ = some (.int .i64 c.kind) ∧ w.cell? ⟨d, 3, none⟩ = some (.int .i64 c.at_) ∧
    w.cell? ⟨d, 4, none⟩ = some (.int .i64 c.more) ∧ w.cell? ⟨d, 5, none⟩ = some (.bool c.down) ∧ w.cell? ⟨d, 6, none⟩ = some (.int .i64 c.ops) ∧ w.cell? ⟨d, 7, none⟩ = some (.int .i64 c.life) :=
  ⟨blk_cell h 0, blk_cell h 1, blk_cell h 2, blk_cell h 3, blk_cell h 4, blk_cell h 5, blk_cell h 6, blk_cell h 7⟩
theorem set_more {w : World} {d m : Nat} {c : Ctl} (h : w.heap[d]? = some (.cells (rootCells m c) tDisk (0, 0))) (n : Int) : (w.setCell ⟨d, 4, none⟩ (.int .i64 n)).heap[d]? = some (.cells (rootCells m { c with more := n }) tDisk (0, 0)) := blk_set h 4 _
theorem set_at {w : World} {d m : Nat} {c : Ctl} (h : w.heap[d]? = some (.cells (rootCells m c) tDisk (0, 0))) (n : Int) : (w.setCell ⟨d, 3, none⟩ (.int .i64 n)).heap[d]? = some (.cells (rootCells m { c with at_ := n }) tDisk (0, 0)) := blk_set h 3 _
theorem set_kind {w : World} {d m : Nat} {c : Ctl} (h : w.heap[d]? = some (.cells (rootCells m c) tDisk (0, 0))) (n : Int) : (w.setCell ⟨d, 2, none⟩ (.int .i64 n)).heap[d]? = some (.cells (rootCells m { c with kind := n }) tDisk (0, 0)) := blk_set h 2 _
theorem set_room {w : World} {d m : Nat} {c : Ctl} (h : w.heap[d]? = some (.cells (rootCells m c) tDisk (0, 0))) (n : Int) : (w.setCell ⟨d, 1, none⟩ (.int .i64 n)).heap[d]? = some (.cells (rootCells m { c with room := n }) tDisk (0, 0)) := blk_set h 1 _
theorem set_down {w : World} {d m : Nat} {c : Ctl} (h : w.heap[d]? = some (.cells (rootCells m c) tDisk (0, 0))) (n : Bool) : (w.setCell ⟨d, 5, none⟩ (.bool n)).heap[d]? = some (.cells (rootCells m { c with down := n }) tDisk (0, 0)) := blk_set h 5 _
theorem set_ops {w : World} {d m : Nat} {c : Ctl} (h : w.heap[d]? = some (.cells (rootCells m c) tDisk (0, 0))) (n : Int) : (w.setCell ⟨d, 6, none⟩ (.int .i64 n)).heap[d]? = some (.cells (rootCells m { c with ops := n }) tDisk (0, 0)) := blk_set h 6 _
theorem set_life {w : World} {d m : Nat} {c : Ctl} (h : w.heap[d]? = some (.cells (rootCells m c) tDisk (0, 0))) (n : Int) : (w.setCell ⟨d, 7, none⟩ (.int .i64 n)).heap[d]? = some (.cells (rootCells m { c with life := n }) tDisk (0, 0)) := blk_set h 7 _

theorem ret_b {a b : Bool} (h : a = b) : Ending.returned (.bool a) = .returned (.bool b) := by rw [h]
theorem ret_i {a b : Int} (h : a = b) : Ending.returned (.int .i64 a) = .returned (.int .i64 b) := by rw [h]
def nameOk (s : ByteArray) : Bool := decide (1 ≤ s.size ∧ s.size ≤ 16)

set_option maxRecDepth 100000 in
theorem isName_any (s : ByteArray) (hs : s.size ≤ maxLen) (w : World) : Calls Try.prog 84 #[.string s] w fun e w' => e = .returned (.bool (nameOk s)) ∧ w = w' := by
  replace hs : s.size ≤ 9223372036854775807 := by unfold maxLen at hs; omega
  by_cases h1 : 1 ≤ s.size
  · by_cases h2 : s.size ≤ 16
    · have e : nameOk s = true := by simp [nameOk, h1, h2]
      go_enter Try.func84, Try.ntmps84
      go_wp2
      go_ret
      exact ⟨ret_b (by rw [e]; simp; try omega), rfl⟩
    · have e : nameOk s = false := by simp [nameOk, h2]
      go_enter Try.func84, Try.ntmps84
      go_wp2
      go_ret
      exact ⟨ret_b (by rw [e]; simp; try omega), rfl⟩
  · have e : nameOk s = false := by simp [nameOk, h1]
    go_enter Try.func84, Try.ntmps84
    go_wp2
    go_ret
    exact ⟨rfl, rfl⟩

theorem Chg.root {d : Nat} {a w : World} (h : Chg (· = d) a w) (i : Nat) (u : Value) : Chg (· = d) a (w.setCell ⟨d, i, none⟩ u) := h.setCell (Or.inr rfl) u
/-- A call on the struct alone: what stands in it behind the call. -/
def Turns (m : Nat) (d : Nat) (c : Ctl) (w w' : World) : Prop := w'.heap[d]? = some (.cells (rootCells m c) tDisk (0, 0)) ∧ Chg (· = d) w w'

set_option maxRecDepth 100000 in
theorem next_any (d m : Nat) (c : Ctl) (w : World) (h : w.heap[d]? = some (.cells (rootCells m c) tDisk (0, 0))) (ok : c.Ok) :
    Calls Try.prog 115 #[.pointer (some ⟨d, 2, none⟩)] w fun e w' => e = .returned (.int .i64 c.fault) ∧ Turns m d c.stepped w w' := by
  obtain ⟨-, -, c2, c3, c4, -, -, -⟩ := root_cells h
  have f2 := blk_free h 2
  have f3 := blk_free h 3
  have f4 := blk_free h 4
  obtain ⟨-, ⟨ha0, ha1⟩, ⟨hm0, hm1⟩, hn, hk⟩ := ok
  have HK := hid hk
  have HN := hid hn
  clear hk hn
  obtain ⟨room, kind, at_, more, down, ops, life⟩ := c
  simp only at c2 c3 c4 ha0 ha1 hm0 hm1 HK HN
  have H := hid h
  clear h
  by_cases h0 : at_ = 0
  · subst h0
    go_enter Try.func115, Try.ntmps115
    go_wp2
    go_ret
    exact ⟨rfl, H.out, Chg.refl _ _⟩
  · by_cases h1 : at_ = 1
    · subst h1
      by_cases h2 : 0 < more
      · go_enter Try.func115, Try.ntmps115
        go_wp2
        go_ret
        refine ⟨rfl, ?_, (((Chg.refl _ _).root 3 _).root 4 _).root 3 _⟩
        have := set_at (set_more (set_at H.out 0) (more - 1)) 1
        simpa [Ctl.stepped, h2] using this
      · obtain rfl : more = 0 := by omega
        go_enter Try.func115, Try.ntmps115
        go_wp2
        go_ret
        refine ⟨rfl, ?_, ?_⟩
        · have := set_more (set_at (set_kind (set_at H.out 0) 0) 0) 0
          simpa [Ctl.stepped] using this
        · exact ((((Chg.refl _ _).root 3 _).root 2 _).root 3 _).root 4 _
    · go_enter Try.func115, Try.ntmps115
      go_wp2
      go_ret
      refine ⟨?_, ?_, (Chg.refl _ _).root 3 _⟩
      · simp [Ctl.fault, h1]
      · have := set_at H.out (at_ - 1)
        simpa [Ctl.stepped, h0, h1] using this


theorem turns_room {w : World} {d m : Nat} {c : Ctl} (h : w.heap[d]? = some (.cells (rootCells m c) tDisk (0, 0))) {n k : Int} (e : k = clamp n) : Turns m d { c with room := clamp n } w (w.setCell ⟨d, 1, none⟩ (.int .i64 k)) := by
  subst e
  exact ⟨set_room h _, (Chg.refl _ _).root 1 _⟩
set_option maxRecDepth 100000 in
theorem room_any (d m : Nat) (c : Ctl) (n : Int) (w : World) (h : w.heap[d]? = some (.cells (rootCells m c) tDisk (0, 0))) :
    Calls Try.prog 48 #[ptr d, .int .i64 n] w fun e w' => e = .returned (.tuple #[]) ∧ Turns m d { c with room := clamp n } w w' := by
  obtain ⟨-, c1, -, -, -, -, -, -⟩ := root_cells h
  have f1 := blk_free h 1
  have H := hid h
  clear h
  unfold ptr
  go_enter Try.func48, Try.ntmps48
  go_wp2
  all_goals
    go_end0
    exact ⟨rfl, turns_room H.out (by unfold clamp; omega)⟩

def faultVal (at_ kind more : Int) : Value :=
  .agg (if at_ < 1 then #[.int .i64 0, .int .i64 0, .int .i64 0] else if kind = 1 then #[.int .i64 1, .int .i64 at_, .int .i64 (max more 0)] else if kind = 2 then #[.int .i64 2, .int .i64 at_, .int .i64 0] else #[.int .i64 0, .int .i64 0, .int .i64 0])

theorem fault_ret {a k m x y z : Int} (e : faultVal a k m = .agg #[.int .i64 x, .int .i64 y, .int .i64 z]) : Ending.returned (.agg #[.int .i64 x, .int .i64 y, .int .i64 z]) = .returned (faultVal a k m) := by rw [e]
set_option maxRecDepth 100000 in
theorem newFault_any (a k m : Int) (w : World) :
    Calls Try.prog 96 #[.int .i64 a, .int .i64 k, .int .i64 m] w fun e w' => e = .returned (faultVal a k m) ∧ Below w.heap.size w w' := by
  by_cases h0 : a < 1
  · go_enter Try.func96, Try.ntmps96
    go_wp2
    exact bodyPost_ret (v := .agg #[.int .i64 0, .int .i64 0, .int .i64 0]) (by simp [results, Try.results96, go_sem]) rfl ⟨fault_ret (by unfold faultVal; rw [if_pos (by omega)]), (Below.refl _ _).alloc (Nat.le_refl _) _⟩
  · by_cases h1 : k = 1
    · subst h1
      by_cases h2 : 0 ≤ m
      · have e : max m 0 = m := by omega
        go_enter Try.func96, Try.ntmps96
        go_wp2
        exact bodyPost_ret (v := .agg #[.int .i64 1, .int .i64 a, .int .i64 m]) (by simp [results, Try.results96, go_sem]) rfl ⟨fault_ret (by unfold faultVal; rw [if_neg (by omega), if_pos rfl, Int.max_eq_left (by omega)]), (Below.refl _ _).alloc (Nat.le_refl _) _⟩
      · have e : max m 0 = 0 := by omega
        go_enter Try.func96, Try.ntmps96
        go_wp2
        exact bodyPost_ret (v := .agg #[.int .i64 1, .int .i64 a, .int .i64 0]) (by simp [results, Try.results96, go_sem]) rfl ⟨fault_ret (by unfold faultVal; rw [if_neg (by omega), if_pos rfl, Int.max_eq_right (by omega)]), (Below.refl _ _).alloc (Nat.le_refl _) _⟩
    · by_cases h2 : k = 2
      · subst h2
        go_enter Try.func96, Try.ntmps96
        go_wp2
        exact bodyPost_ret (v := .agg #[.int .i64 2, .int .i64 a, .int .i64 0]) (by simp [results, Try.results96, go_sem]) rfl ⟨fault_ret (by unfold faultVal; rw [if_neg (by omega), if_neg (by omega), if_pos rfl]), (Below.refl _ _).alloc (Nat.le_refl _) _⟩
      · go_enter Try.func96, Try.ntmps96
        go_wp2
        exact bodyPost_ret (v := .agg #[.int .i64 0, .int .i64 0, .int .i64 0]) (by simp [results, Try.results96, go_sem]) rfl ⟨fault_ret (by unfold faultVal; rw [if_neg (by omega), if_neg h1, if_neg h2]), (Below.refl _ _).alloc (Nat.le_refl _) _⟩

/-- 'Arm' writes the three fields. -/
theorem turns_arm {w w1 : World} {d m : Nat} {c : Ctl} (h : w.heap[d]? = some (.cells (rootCells m c) tDisk (0, 0))) (hb : Below w.heap.size w w1) {a k n x y z : Int} (e : faultVal a k n = .agg #[.int .i64 x, .int .i64 y, .int .i64 z]) :
    Turns m d (c.armed a k n) w (((w1.setCell ⟨d, 2, none⟩ (.int .i64 x)).setCell ⟨d, 3, none⟩ (.int .i64 y)).setCell ⟨d, 4, none⟩ (.int .i64 z)) := by
  have hc : Chg (· = d) w w1 := Chg.of_below hb
  have h1 : w1.heap[d]? = some (.cells (rootCells m c) tDisk (0, 0)) := (hb.block d (lt_of_block h)).trans h
  have h2 := set_more (set_at (set_kind h1 x) y) z
  refine ⟨?_, ((hc.root 2 _).root 3 _).root 4 _⟩
  rw [h2]
  unfold faultVal at e
  unfold Ctl.armed
  repeat' split at e
  all_goals
    simp only [Value.agg.injEq, Array.mk.injEq, List.cons.injEq, Value.int.injEq, true_and, and_true] at e
    obtain ⟨rfl, rfl, rfl⟩ := e
    first
      | (rw [if_neg (show ¬ a < 1 by omega)]; simp_all)
      | simp_all

set_option maxRecDepth 100000 in
theorem arm_any (d m : Nat) (c : Ctl) (a k n : Int) (w : World) (h : w.heap[d]? = some (.cells (rootCells m c) tDisk (0, 0))) :
    Calls Try.prog 47 #[ptr d, .int .i64 a, .int .i64 k, .int .i64 n] w fun e w' => e = .returned (.tuple #[]) ∧ Turns m d (c.armed a k n) w w' := by
  obtain ⟨-, -, c2, c3, c4, -, -, -⟩ := root_cells h
  have f2 := blk_free h 2
  have f3 := blk_free h 3
  have f4 := blk_free h 4
  have hlt := lt_of_block h
  have H := hid h
  clear h
  have hv : ∃ x y z, faultVal a k n = .agg #[.int .i64 x, .int .i64 y, .int .i64 z] := by
    unfold faultVal; repeat' split
    all_goals exact ⟨_, _, _, rfl⟩
  obtain ⟨x, y, z, hv⟩ := hv
  unfold ptr
  go_enter Try.func47, Try.ntmps47
  go_wp2_with fail
  refine (newFault_any a k n _).mono ?_
  rintro e w1 ⟨rfl, hb⟩
  have HB := hid hb
  have HV := hid hv
  have d2 := (hb.cell (p := ⟨d, 2, none⟩) hlt).trans c2
  have d3 := (hb.cell (p := ⟨d, 3, none⟩) hlt).trans c3
  have d4 := (hb.cell (p := ⟨d, 4, none⟩) hlt).trans c4
  have g2 := (hb.frozen (p := ⟨d, 2, none⟩) hlt).trans f2
  have g3 := (hb.frozen (p := ⟨d, 3, none⟩) hlt).trans f3
  have g4 := (hb.frozen (p := ⟨d, 4, none⟩) hlt).trans f4
  clear hb
  go_wp2
  go_end0
  exact ⟨rfl, turns_arm H.out HB.out HV.out⟩

set_option maxRecDepth 100000 in
theorem off_any (d m : Nat) (c : Ctl) (w : World) (h : w.heap[d]? = some (.cells (rootCells m c) tDisk (0, 0))) :
    Calls Try.prog 44 #[ptr d] w fun e w' => e = .returned (.tuple #[]) ∧ Turns m d c.offed w w' := by
  obtain ⟨-, -, c2, c3, c4, c5, -, c7⟩ := root_cells h
  have f2 := blk_free h 2
  have f3 := blk_free h 3
  have f4 := blk_free h 4
  have f5 := blk_free h 5
  have f7 := blk_free h 7
  obtain ⟨room, kind, at_, more, down, ops, life⟩ := c
  simp only at c2 c3 c4 c5 c7
  have H := hid h
  clear h
  unfold ptr
  cases down
  · go_enter Try.func44, Try.ntmps44
    go_wp2
    go_end0
    have := set_life (set_down (set_more (set_at (set_kind H.out 0) 0) 0) true) (inc life)
    exact ⟨rfl, this, ((((((Chg.refl _ _).root 2 _).root 3 _).root 4 _).root 5 _).root 7 _)⟩
  · go_enter Try.func44, Try.ntmps44
    go_wp2
    go_end0
    have := set_more (set_at (set_kind H.out 0) 0) 0
    exact ⟨rfl, this, (((Chg.refl _ _).root 2 _).root 3 _).root 4 _⟩

set_option maxRecDepth 100000 in
theorem ops_any (d m : Nat) (c : Ctl) (w : World) (h : w.heap[d]? = some (.cells (rootCells m c) tDisk (0, 0))) :
    Calls Try.prog 14 #[ptr d] w fun e w' => e = .returned (.int .i64 c.ops) ∧ w = w' := by
  obtain ⟨-, -, -, -, -, -, c6, -⟩ := root_cells h
  unfold ptr
  go_enter Try.func14, Try.ntmps14
  go_wp2
  go_ret
  exact ⟨rfl, rfl⟩
set_option maxRecDepth 100000 in
theorem life_any (d m : Nat) (c : Ctl) (w : World) (h : w.heap[d]? = some (.cells (rootCells m c) tDisk (0, 0))) :
    Calls Try.prog 16 #[ptr d] w fun e w' => e = .returned (.int .i64 c.life) ∧ w = w' := by
  obtain ⟨-, -, -, -, -, -, -, c7⟩ := root_cells h
  unfold ptr
  go_enter Try.func16, Try.ntmps16
  go_wp2
  go_ret
  exact ⟨rfl, rfl⟩
set_option maxRecDepth 100000 in
theorem down_any (d m : Nat) (c : Ctl) (w : World) (h : w.heap[d]? = some (.cells (rootCells m c) tDisk (0, 0))) :
    Calls Try.prog 18 #[ptr d] w fun e w' => e = .returned (.bool c.down) ∧ w = w' := by
  obtain ⟨-, -, -, -, -, c5, -, -⟩ := root_cells h
  unfold ptr
  go_enter Try.func18, Try.ntmps18
  go_wp2
  go_ret
  exact ⟨rfl, rfl⟩

end Disk
end Go.Proofs.Ytiomojidfkpagaa
