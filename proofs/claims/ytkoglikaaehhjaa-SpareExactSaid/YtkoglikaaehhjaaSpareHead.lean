/-
  Heads in memory; contracts of takeNew and takeTrunk.
-/
import Derived.Test.YtkoglikaaehhjaaSparePutT
namespace Go.Proofs.Ytkoglikaaehhjaa
open Go.RowKit
namespace Sp
open Num (hid)
open Mem (Bs bs IAt tI tS tIs tSs Chg Row ptr blk_cell blk_free blk_new blk_set blk_other blk_alloc row_kept row_shape row_type)
def hV (h : Hd) : Value := .agg #[.int .i64 h.mode, .int .i64 h.pages, .int .i64 h.trunk, .int .i64 h.spare, .int .i64 h.root, .int .u64 (h.change : Nat)]
abbrev hC (h : Hd) : Array Value := #[.int .i64 h.mode, .int .i64 h.pages, .int .i64 h.trunk, .int .i64 h.spare, .int .i64 h.root, .int .u64 (h.change : Nat)]
abbrev hObj (h : Hd) : Obj := .cells (hC h) tH
/-- A boxed head. -/
def Hb (b : Nat) (h : Hd) (w : World) : Prop := w.heap[b]? = some (.cells (hC h) tH (0, 0))
theorem Hb.lt {b : Nat} {h : Hd} {w : World} (k : Hb b h w) : b < w.heap.size := lt_of_block k
theorem Hb.new (h : Hd) (w : World) : Hb w.heap.size h (w.alloc (hObj h)) := blk_new w _
theorem Hb.on {b : Nat} {h : Hd} {w w' : World} (k : Hb b h w) (hb : Below w.heap.size w w') : Hb b h w' := (hb.block _ (lt_of_block k)).trans k
theorem Hb.at {b : Nat} {h : Hd} {w w' : World} {F : Nat → Prop} (k : Hb b h w) (hc : Chg F w w') (hF : ¬ F b) : Hb b h w' := hc.at k hF
theorem Hb.other {b b' i : Nat} {h : Hd} {w : World} (k : Hb b h w) (hne : b ≠ b') (u : Value) : Hb b h (w.setCell ⟨b', i, none⟩ u) := blk_other k hne u
theorem Hb.cells {b : Nat} {h : Hd} {w : World} (k : Hb b h w) : w.cell? ⟨b, 0, none⟩ = some (.int .i64 h.mode) ∧ w.cell? ⟨b, 1, none⟩ = some (.int .i64 h.pages) ∧ w.cell? ⟨b, 2, none⟩ = some (.int .i64 h.trunk) ∧ w.cell? ⟨b, 3, none⟩ = some (.int .i64 h.spare) ∧ w.cell? ⟨b, 4, none⟩ = some (.int .i64 h.root) ∧ w.cell? ⟨b, 5, none⟩ = some (.int .u64 (h.change : Nat)) :=
  ⟨blk_cell k 0, blk_cell k 1, blk_cell k 2, blk_cell k 3, blk_cell k 4, blk_cell k 5⟩
theorem Hb.free {b : Nat} {h : Hd} {w : World} (k : Hb b h w) : w.frozen? ⟨b, 0, none⟩ = false ∧ w.frozen? ⟨b, 1, none⟩ = false ∧ w.frozen? ⟨b, 2, none⟩ = false ∧ w.frozen? ⟨b, 3, none⟩ = false ∧ w.frozen? ⟨b, 4, none⟩ = false ∧ w.frozen? ⟨b, 5, none⟩ = false :=
  ⟨blk_free k 0, blk_free k 1, blk_free k 2, blk_free k 3, blk_free k 4, blk_free k 5⟩
theorem Hb.pages {b : Nat} {h : Hd} {w : World} (k : Hb b h w) (x : Int) : Hb b { h with pages := x } (w.setCell ⟨b, 1, none⟩ (.int .i64 x)) := blk_set k 1 _
theorem Hb.trunk {b : Nat} {h : Hd} {w : World} (k : Hb b h w) (x : Int) : Hb b { h with trunk := x } (w.setCell ⟨b, 2, none⟩ (.int .i64 x)) := blk_set k 2 _
theorem Hb.spare {b : Nat} {h : Hd} {w : World} (k : Hb b h w) (x : Int) : Hb b { h with spare := x } (w.setCell ⟨b, 3, none⟩ (.int .i64 x)) := blk_set k 3 _
abbrev put6 (w : World) (r : Nat) (h : Hd) : World := (((((w.setCell ⟨r, 0, none⟩ (.int .i64 h.mode)).setCell ⟨r, 1, none⟩ (.int .i64 h.pages)).setCell ⟨r, 2, none⟩ (.int .i64 h.trunk)).setCell ⟨r, 3, none⟩ (.int .i64 h.spare)).setCell ⟨r, 4, none⟩ (.int .i64 h.root)).setCell ⟨r, 5, none⟩ (.int .u64 (h.change : Nat))
theorem Hb.put {b : Nat} {h : Hd} {w : World} (k : Hb b h w) (g : Hd) : Hb b g (put6 w b g) :=
  blk_set (blk_set (blk_set (blk_set (blk_set (blk_set k 0 (.int .i64 g.mode)) 1 (.int .i64 g.pages)) 2 (.int .i64 g.trunk)) 3 (.int .i64 g.spare)) 4 (.int .i64 g.root)) 5 (.int .u64 (g.change : Nat))
abbrev put6z (w : World) (r : Nat) : World := (((((w.setCell ⟨r, 0, none⟩ (.int .i64 0)).setCell ⟨r, 1, none⟩ (.int .i64 0)).setCell ⟨r, 2, none⟩ (.int .i64 0)).setCell ⟨r, 3, none⟩ (.int .i64 0)).setCell ⟨r, 4, none⟩ (.int .i64 0)).setCell ⟨r, 5, none⟩ (.int .u64 0)
theorem Hb.zero {b : Nat} {h : Hd} {w : World} (k : Hb b h w) : Hb b hd0 (put6z w b) := k.put hd0
theorem Hb.zeros {b : Nat} {w : World} (k : Hb b hd0 w) : w.cell? ⟨b, 0, none⟩ = some (.int .i64 0) ∧ w.cell? ⟨b, 1, none⟩ = some (.int .i64 0) ∧ w.cell? ⟨b, 2, none⟩ = some (.int .i64 0) ∧ w.cell? ⟨b, 3, none⟩ = some (.int .i64 0) ∧ w.cell? ⟨b, 4, none⟩ = some (.int .i64 0) ∧ w.cell? ⟨b, 5, none⟩ = some (.int .u64 0) := k.cells
theorem chg_put6z {R : Nat → Prop} {w0 w : World} (h : Chg R w0 w) {r : Nat} (hr : w0.heap.size ≤ r ∨ R r) : Chg R w0 (put6z w r) :=
  (((((h.setCell (by exact hr) _).setCell (by exact hr) _).setCell (by exact hr) _).setCell (by exact hr) _).setCell (by exact hr) _).setCell (by exact hr) _
theorem desk_put6z {Q : Nat → Prop} {w : World} {d b : Nat} {S : St} (h : DeskR Q w d b S) {r : Nat} (hr : ¬ Q r) : DeskR Q (put6z w r) d b S :=
  (((((h.set hr _ _).set hr _ _).set hr _ _).set hr _ _).set hr _ _).set hr _ _
theorem chg_put6 {R : Nat → Prop} {w0 w : World} (h : Chg R w0 w) {r : Nat} (hr : w0.heap.size ≤ r ∨ R r) (g : Hd) : Chg R w0 (put6 w r g) :=
  (((((h.setCell (by exact hr) _).setCell (by exact hr) _).setCell (by exact hr) _).setCell (by exact hr) _).setCell (by exact hr) _).setCell (by exact hr) _
theorem desk_put6 {Q : Nat → Prop} {w : World} {d b : Nat} {S : St} (h : DeskR Q w d b S) {r : Nat} (hr : ¬ Q r) (g : Hd) : DeskR Q (put6 w r g) d b S :=
  (((((h.set hr _ _).set hr _ _).set hr _ _).set hr _ _).set hr _ _).set hr _ _
theorem bel_put6 {B : Nat} {w0 w : World} (h : Below B w0 w) {r : Nat} (hr : B ≤ r) (g : Hd) : Below B w0 (put6 w r g) :=
  bput (bput (bput (bput (bput (bput h hr 0 _) hr 1 _) hr 2 _) hr 3 _) hr 4 _) hr 5 _
def takeV (x : Int × Hd × Int) : Value := .tuple #[.int .i64 x.1, hV x.2.1, .int .i64 x.2.2]
theorem tn_full {h : Hd} (k : 4096 ≤ h.pages) : takeNew h = (0, hd0, 22) := if_pos k
theorem tn_more {h : Hd} (k : ¬ 4096 ≤ h.pages) : takeNew h = (h.pages, { h with pages := h.pages + 1 }, 0) := if_neg k
theorem two_heads (w : World) (h g : Hd) : Hb w.heap.size h ((w.alloc (hObj h)).alloc (hObj g)) ∧ Hb (w.heap.size + 1) g ((w.alloc (hObj h)).alloc (hObj g)) ∧ Below w.heap.size w ((w.alloc (hObj h)).alloc (hObj g)) := by
  have e1 : (w.alloc (hObj h)).heap.size = w.heap.size + 1 := by simp
  have H2 := Hb.new g (w.alloc (hObj h))
  rw [e1] at H2
  exact ⟨(Hb.new h w).on ((Below.refl _ _).alloc (Nat.le_refl _) _), H2, ((Below.refl w.heap.size w).alloc (Nat.le_refl _) _).alloc (by simp) _⟩
theorem Hb.drew {b : Nat} {h : Hd} {w : World} (k : Hb b h w) : Hb b h w.drew := k
set_option maxRecDepth 100000 in
set_option maxHeartbeats 1000000 in
theorem takenew_any (h : Hd) (hf : Fit h) (w : World) :
    Calls Try.prog 33 #[hV h] w fun e w' => e = .returned (takeV (takeNew h)) ∧ Below w.heap.size w w' := by
  have HT := hid (two_heads w)
  obtain ⟨mode, pages, trunk, spare, root, change⟩ := h
  by_cases hp : 4096 ≤ pages
  · rw [tn_full hp]
    unfold hV
    clear hf
    go_enter Try.func33, Try.ntmps33
    go_wp2
    obtain ⟨-, g1, g2⟩ := HT.out ⟨mode, pages, trunk, spare, root, change⟩ hd0
    obtain ⟨x0, x1, x2, x3, x4, x5⟩ := g1.cells
    refine @bodyPost_ret Try.prog Try.f33 (fun e w' => e = .returned (takeV (0, hd0, 22)) ∧ Below w.heap.size w w') _ _ (takeV (0, hd0, 22)) ?_ ?_ ?_
    · simp [results, takeV, hV, hd0, go_sem]
    · rfl
    · exact ⟨rfl, g2⟩
  · rw [tn_more hp]
    unfold Fit at hf
    have hw : wrap64 (pages + 1) = pages + 1 := by rw [Num.wrap_i]; simp only at hf; omega
    unfold hV
    clear hf
    go_enter Try.func33, Try.ntmps33
    go_wp2
    go_region
    go_wp2
    obtain ⟨-, g1, g2⟩ := HT.out ⟨mode, pages + 1, trunk, spare, root, change⟩ ⟨mode, pages + 1, trunk, spare, root, change⟩
    refine @bodyPost_ret Try.prog Try.f33 (fun e w' => e = .returned (takeV (pages, ⟨mode, pages + 1, trunk, spare, root, change⟩, 0)) ∧ Below w.heap.size w w') _ _ (takeV (pages, ⟨mode, pages + 1, trunk, spare, root, change⟩, 0)) ?_ ?_ ?_
    · simp [results, takeV, hV, go_sem]
    · rfl
    · exact ⟨rfl, g2.drew⟩
theorem tt_bad {h : Hd} {n : Int} (k : ¬ (decide (h.spare - 1 = 0) = decide (n = 0))) : takeTrunk h n = (0, hd0, 30) := if_pos k
theorem tt_ok {h : Hd} {n : Int} (k : decide (h.spare - 1 = 0) = decide (n = 0)) : takeTrunk h n = (h.trunk, { h with trunk := n, spare := h.spare - 1 }, 0) := if_neg (by simpa using k)
theorem ibeq (a b : Int) : (a == b) = decide (a = b) := by
  rw [Bool.eq_iff_iff, beq_iff_eq, decide_eq_true_eq]
set_option maxRecDepth 100000 in
set_option maxHeartbeats 1000000 in
theorem taketrunk_any (h : Hd) (hf : Fit h) (n : Int) (w : World) :
    Calls Try.prog 35 #[hV h, .int .i64 n] w fun e w' => e = .returned (takeV (takeTrunk h n)) ∧ Below w.heap.size w w' := by
  have HT := hid (two_heads w)
  obtain ⟨mode, pages, trunk, spare, root, change⟩ := h
  unfold Fit at hf
  have hw : wrap64 (spare - 1) = spare - 1 := by rw [Num.wrap_i]; simp only at hf; omega
  by_cases hp : decide (spare - 1 = 0) = decide (n = 0)
  · rw [tt_ok (h := ⟨mode, pages, trunk, spare, root, change⟩) hp]
    have hq : (spare - 1 == 0) = (n == 0) := by rw [ibeq, ibeq]; exact hp
    unfold hV
    clear hf hp
    go_enter Try.func35, Try.ntmps35
    go_wp2
    go_region
    go_wp2
    obtain ⟨-, g1, g2⟩ := HT.out ⟨mode, pages, n, spare - 1, root, change⟩ ⟨mode, pages, n, spare - 1, root, change⟩
    refine @bodyPost_ret Try.prog Try.f35 (fun e w' => e = .returned (takeV (trunk, ⟨mode, pages, n, spare - 1, root, change⟩, 0)) ∧ Below w.heap.size w w') _ _ (takeV (trunk, ⟨mode, pages, n, spare - 1, root, change⟩, 0)) ?_ ?_ ?_
    · simp [results, takeV, hV, go_sem]
    · rfl
    · exact ⟨rfl, g2.drew⟩
  · rw [tt_bad (h := ⟨mode, pages, trunk, spare, root, change⟩) hp]
    have hq : ((spare - 1 == 0) == (n == 0)) = false := by
      rw [ibeq, ibeq]
      by_cases e1 : spare - 1 = 0 <;> by_cases e2 : n = 0 <;> simp_all
    unfold hV
    clear hf hp
    go_enter Try.func35, Try.ntmps35
    go_wp2
    obtain ⟨-, g1, g2⟩ := HT.out ⟨mode, pages, n, spare - 1, root, change⟩ hd0
    refine @bodyPost_ret Try.prog Try.f35 (fun e w' => e = .returned (takeV (0, hd0, 30)) ∧ Below w.heap.size w w') _ _ (takeV (0, hd0, 30)) ?_ ?_ ?_
    · simp [results, takeV, hV, hd0, go_sem]
    · rfl
    · exact ⟨rfl, g2⟩
end Sp
end Go.Proofs.Ytkoglikaaehhjaa
