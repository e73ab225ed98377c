/-
  Put together: SpareDesk, SpareTrunk, SparePutT, SpareHead, SpareTake, SpareFor, SpareGive.
-/
import Derived.Test.YtoifhcmgeackdaaGreatDoorGrpTrSpB
import Derived.Test.YtoifhcmgeackdaaGreatDoorGrpTrSpA
import Derived.Handy
/-
  The statements' store: a desk over a book, whose calls fail when its count is used up; its Get and Put.
-/
namespace Go.Proofs.YtoifhcmgeackdaaGreatDoor
open Go.RowKit
namespace Sp
open Num (hid)
open Mem (Bs bs tI tS tIs tSs Chg Row ptr blk_cell blk_free blk_new blk_set blk_other blk_alloc row_kept row_shape row_type)
/-- Small enough: k calls and pages at most. -/
def Small (k : Nat) (S : St) : Prop := -(k : Int) ≤ S.left ∧ S.left ≤ 1000000 ∧ S.B.length ≤ k
theorem Small.more {k k' : Nat} {S : St} (h : Small k S) (hk : k ≤ k') : Small k' S := by unfold Small at *; omega
variable {R : Nat → Prop} {w w' : World} {d b : Nat} {S : St}
theorem left_wrap {k : Nat} (h : Small k S) (hk : k ≤ 1000000) : wrap64 (S.left - 1) = S.left - 1 := by
  unfold Small at h
  rw [Num.wrap_i]
  omega
theorem get_no {n : Int} (h : S.left = 0) : S.get n = (([], 11), S) := if_pos h
theorem get_yes {n : Int} (h : ¬ S.left = 0) : S.get n = ((getB S.B n, 0), ⟨S.B, S.left - 1⟩) := if_neg h
theorem put_no {n : Int} {x : Bs} (h : S.left = 0) : S.put n x = (11, S) := if_pos h
theorem put_yes {n : Int} {x : Bs} (h : ¬ S.left = 0) : S.put n x = (0, ⟨putB S.B n x, S.left - 1⟩) := if_neg h
end Sp
end Go.Proofs.YtoifhcmgeackdaaGreatDoor

/-
  Contracts of the project's trunkAt and putTrunk.
-/
namespace Go.Proofs.YtoifhcmgeackdaaGreatDoor
open Go.RowKit
namespace Sp
open Num (hid)
open Mem (Bs bs IAt tI tS tIs tSs Chg Row ptr blk_cell blk_free blk_new blk_set blk_other blk_alloc row_kept row_shape row_type)
/-- What was of R, and what is made from w1 on. -/
def Since (R : Nat → Prop) (w w1 : World) : Nat → Prop := fun k => (R k ∧ k < w.heap.size) ∨ w1.heap.size ≤ k
theorem Since.new {R : Nat → Prop} {w w1 : World} : ∀ k, w1.heap.size ≤ k → Since R w w1 k := fun _ h => Or.inr h
theorem Since.old {R : Nat → Prop} {w w1 : World} (hR : ∀ k, w.heap.size ≤ k → R k) (hz : w.heap.size ≤ w1.heap.size) : ∀ k, Since R w w1 k → R k := by
  rintro k (h | h)
  · exact h.1
  · exact hR k (Nat.le_trans hz h)
theorem Since.no {R : Nat → Prop} {w w1 : World} {k : Nat} (h1 : w.heap.size ≤ k) (h2 : k < w1.heap.size) : ¬ Since R w w1 k := by
  rintro (h | h)
  · omega
  · omega
variable {R : Nat → Prop} {w : World} {d b : Nat} {S : St}
theorem tat_get {S : St} {n : Int} (h : ¬ (S.get n).1.2 = 0) : trunkAt S n = ((noT, (S.get n).1.2), (S.get n).2) := if_pos h
theorem tat_bad {S : St} {n : Int} (h : (S.get n).1.2 = 0) (h2 : ¬ (decT (S.get n).1.1).2 = 0) : trunkAt S n = ((noT, 30), (S.get n).2) := by unfold trunkAt; rw [if_neg (by simpa using h), if_pos h2]
theorem tat_ok {S : St} {n : Int} (h : (S.get n).1.2 = 0) (h2 : (decT (S.get n).1.1).2 = 0) : trunkAt S n = (((decT (S.get n).1.1).1, 0), (S.get n).2) := by unfold trunkAt; rw [if_neg (by simpa using h), if_neg (by simpa using h2)]
end Sp
end Go.Proofs.YtoifhcmgeackdaaGreatDoor

/-
  Contracts of the project's putTrunk and trunkFor.
-/
namespace Go.Proofs.YtoifhcmgeackdaaGreatDoor
open Go.RowKit
namespace Sp
open Num (hid)
open Mem (Bs bs IAt tI tS tIs tSs Chg Row ptr blk_cell blk_free blk_new blk_set blk_other blk_alloc row_kept row_shape row_type wpList_append_run)
variable {R : Nat → Prop} {w : World} {d b : Nat} {S : St}
theorem ptr_bad {t : Tr} {n : Int} (h : okT t = false) : putTrunk S n t = (1, S) := by unfold putTrunk; rw [h]; rfl
theorem ptr_ok {t : Tr} {n : Int} (h : okT t = true) : putTrunk S n t = S.put n (pageT t) := by unfold putTrunk; rw [if_pos h]
end Sp
end Go.Proofs.YtoifhcmgeackdaaGreatDoor

/-
  Heads in memory; contracts of takeNew and takeTrunk.
-/
namespace Go.Proofs.YtoifhcmgeackdaaGreatDoor
open Go.RowKit
namespace Sp
open Num (hid)
open Mem (Bs bs IAt tI tS tIs tSs Chg Row ptr blk_cell blk_free blk_new blk_set blk_other blk_alloc row_kept row_shape row_type)
def hV (h : Hd) : Value := .agg #[.int .i64 h.mode, .int .i64 h.pages, .int .i64 h.trunk, .int .i64 h.spare, .int .i64 h.root, .int .u64 (h.change : Nat)]
abbrev hC (h : Hd) : Array Value := #[.int .i64 h.mode, .int .i64 h.pages, .int .i64 h.trunk, .int .i64 h.spare, .int .i64 h.root, .int .u64 (h.change : Nat)]
abbrev hObj (h : Hd) : Obj := .cells (hC h) tH
/-- A boxed head. -/
def Hb (b : Nat) (h : Hd) (w : World) : Prop := w.heap[b]? = some (.cells (hC h) tH (0, 0))
theorem Hb.lt {b : Nat} {h : Hd} {w : World} (k : Hb b h w) : b < w.heap.size := lt_of_block k
theorem Hb.new (h : Hd) (w : World) : Hb w.heap.size h (w.alloc (hObj h)) := blk_new w _
theorem Hb.on {b : Nat} {h : Hd} {w w' : World} (k : Hb b h w) (hb : Below w.heap.size w w') : Hb b h w' := (hb.block _ (lt_of_block k)).trans k
theorem Hb.at {b : Nat} {h : Hd} {w w' : World} {F : Nat → Prop} (k : Hb b h w) (hc : Chg F w w') (hF : ¬ F b) : Hb b h w' := hc.at k hF
theorem Hb.other {b b' i : Nat} {h : Hd} {w : World} (k : Hb b h w) (hne : b ≠ b') (u : Value) : Hb b h (w.setCell ⟨b', i, none⟩ u) := blk_other k hne u
theorem Hb.cells {b : Nat} {h : Hd} {w : World} (k : Hb b h w) : w.cell? ⟨b, 0, none⟩ = some (.int .i64 h.mode) ∧ w.cell? ⟨b, 1, none⟩ = some (.int .i64 h.pages) ∧ w.cell? ⟨b, 2, none⟩ = some (.int .i64 h.trunk) ∧ w.cell? ⟨b, 3, none⟩ = some (.int .i64 h.spare) ∧ w.cell? ⟨b, 4, none⟩ = some (.int .i64 h.root) ∧ w.cell? ⟨b, 5, none⟩ = some (.int .u64 (h.change : Nat)) :=
  ⟨blk_cell k 0, blk_cell k 1, blk_cell k 2, blk_cell k 3, blk_cell k 4, blk_cell k 5⟩
theorem Hb.free {b : Nat} {h : Hd} {w : World} (k : Hb b h w) : w.frozen? ⟨b, 0, none⟩ = false ∧ w.frozen? ⟨b, 1, none⟩ = false ∧ w.frozen? ⟨b, 2, none⟩ = false ∧ w.frozen? ⟨b, 3, none⟩ = false ∧ w.frozen? ⟨b, 4, none⟩ = false ∧ w.frozen? ⟨b, 5, none⟩ = false :=
  ⟨blk_free k 0, blk_free k 1, blk_free k 2, blk_free k 3, blk_free k 4, blk_free k 5⟩
theorem Hb.pages {b : Nat} {h : Hd} {w : World} (k : Hb b h w) (x : Int) : Hb b { h with pages := x } (w.setCell ⟨b, 1, none⟩ (.int .i64 x)) := blk_set k 1 _
theorem Hb.trunk {b : Nat} {h : Hd} {w : World} (k : Hb b h w) (x : Int) : Hb b { h with trunk := x } (w.setCell ⟨b, 2, none⟩ (.int .i64 x)) := blk_set k 2 _
theorem Hb.spare {b : Nat} {h : Hd} {w : World} (k : Hb b h w) (x : Int) : Hb b { h with spare := x } (w.setCell ⟨b, 3, none⟩ (.int .i64 x)) := blk_set k 3 _
abbrev put6 (w : World) (r : Nat) (h : Hd) : World := (((((w.setCell ⟨r, 0, none⟩ (.int .i64 h.mode)).setCell ⟨r, 1, none⟩ (.int .i64 h.pages)).setCell ⟨r, 2, none⟩ (.int .i64 h.trunk)).setCell ⟨r, 3, none⟩ (.int .i64 h.spare)).setCell ⟨r, 4, none⟩ (.int .i64 h.root)).setCell ⟨r, 5, none⟩ (.int .u64 (h.change : Nat))
theorem Hb.put {b : Nat} {h : Hd} {w : World} (k : Hb b h w) (g : Hd) : Hb b g (put6 w b g) :=
  blk_set (blk_set (blk_set (blk_set (blk_set (blk_set k 0 (.int .i64 g.mode)) 1 (.int .i64 g.pages)) 2 (.int .i64 g.trunk)) 3 (.int .i64 g.spare)) 4 (.int .i64 g.root)) 5 (.int .u64 (g.change : Nat))
abbrev put6z (w : World) (r : Nat) : World := (((((w.setCell ⟨r, 0, none⟩ (.int .i64 0)).setCell ⟨r, 1, none⟩ (.int .i64 0)).setCell ⟨r, 2, none⟩ (.int .i64 0)).setCell ⟨r, 3, none⟩ (.int .i64 0)).setCell ⟨r, 4, none⟩ (.int .i64 0)).setCell ⟨r, 5, none⟩ (.int .u64 0)
theorem Hb.zero {b : Nat} {h : Hd} {w : World} (k : Hb b h w) : Hb b hd0 (put6z w b) := k.put hd0
theorem Hb.zeros {b : Nat} {w : World} (k : Hb b hd0 w) : w.cell? ⟨b, 0, none⟩ = some (.int .i64 0) ∧ w.cell? ⟨b, 1, none⟩ = some (.int .i64 0) ∧ w.cell? ⟨b, 2, none⟩ = some (.int .i64 0) ∧ w.cell? ⟨b, 3, none⟩ = some (.int .i64 0) ∧ w.cell? ⟨b, 4, none⟩ = some (.int .i64 0) ∧ w.cell? ⟨b, 5, none⟩ = some (.int .u64 0) := k.cells
theorem chg_put6z {R : Nat → Prop} {w0 w : World} (h : Chg R w0 w) {r : Nat} (hr : w0.heap.size ≤ r ∨ R r) : Chg R w0 (put6z w r) :=
  (((((h.setCell (by exact hr) _).setCell (by exact hr) _).setCell (by exact hr) _).setCell (by exact hr) _).setCell (by exact hr) _).setCell (by exact hr) _
theorem chg_put6 {R : Nat → Prop} {w0 w : World} (h : Chg R w0 w) {r : Nat} (hr : w0.heap.size ≤ r ∨ R r) (g : Hd) : Chg R w0 (put6 w r g) :=
  (((((h.setCell (by exact hr) _).setCell (by exact hr) _).setCell (by exact hr) _).setCell (by exact hr) _).setCell (by exact hr) _).setCell (by exact hr) _
theorem bel_put6 {B : Nat} {w0 w : World} (h : Below B w0 w) {r : Nat} (hr : B ≤ r) (g : Hd) : Below B w0 (put6 w r g) :=
  bput (bput (bput (bput (bput (bput h hr 0 _) hr 1 _) hr 2 _) hr 3 _) hr 4 _) hr 5 _
def takeV (x : Int × Hd × Int) : Value := .tuple #[.int .i64 x.1, hV x.2.1, .int .i64 x.2.2]
theorem tn_full {h : Hd} (k : 4096 ≤ h.pages) : takeNew h = (0, hd0, 22) := if_pos k
theorem tn_more {h : Hd} (k : ¬ 4096 ≤ h.pages) : takeNew h = (h.pages, { h with pages := h.pages + 1 }, 0) := if_neg k
theorem two_heads (w : World) (h g : Hd) : Hb w.heap.size h ((w.alloc (hObj h)).alloc (hObj g)) ∧ Hb (w.heap.size + 1) g ((w.alloc (hObj h)).alloc (hObj g)) ∧ Below w.heap.size w ((w.alloc (hObj h)).alloc (hObj g)) := by
  have e1 : (w.alloc (hObj h)).heap.size = w.heap.size + 1 := by simp
  have H2 := Hb.new g (w.alloc (hObj h))
  rw [e1] at H2
  exact ⟨(Hb.new h w).on ((Below.refl _ _).alloc (Nat.le_refl _) _), H2, ((Below.refl w.heap.size w).alloc (Nat.le_refl _) _).alloc (by simp) _⟩
theorem Hb.drew {b : Nat} {h : Hd} {w : World} (k : Hb b h w) : Hb b h w.drew := k
set_option maxRecDepth 100000 in
set_option maxHeartbeats 1000000 in
theorem takenew_any (h : Hd) (hf : Fit h) (w : World) :
    Calls Tryz.prog 68 #[hV h] w fun e w' => e = .returned (takeV (takeNew h)) ∧ Below w.heap.size w w' := by
  have HT := hid (two_heads w)
  obtain ⟨mode, pages, trunk, spare, root, change⟩ := h
  by_cases hp : 4096 ≤ pages
  · rw [tn_full hp]
    unfold hV
    clear hf
    go_enter Tryz.func68, Tryz.ntmps68
    go_wp2
    obtain ⟨-, g1, g2⟩ := HT.out ⟨mode, pages, trunk, spare, root, change⟩ hd0
    obtain ⟨x0, x1, x2, x3, x4, x5⟩ := g1.cells
    refine @bodyPost_ret Tryz.prog Tryz.f68 (fun e w' => e = .returned (takeV (0, hd0, 22)) ∧ Below w.heap.size w w') _ _ (takeV (0, hd0, 22)) ?_ ?_ ?_
    · simp [results, takeV, hV, hd0, go_sem]
    · rfl
    · exact ⟨rfl, g2⟩
  · rw [tn_more hp]
    unfold Fit at hf
    have hw : wrap64 (pages + 1) = pages + 1 := by rw [Num.wrap_i]; simp only at hf; omega
    unfold hV
    clear hf
    go_enter Tryz.func68, Tryz.ntmps68
    go_wp2
    go_region
    go_wp2
    obtain ⟨-, g1, g2⟩ := HT.out ⟨mode, pages + 1, trunk, spare, root, change⟩ ⟨mode, pages + 1, trunk, spare, root, change⟩
    refine @bodyPost_ret Tryz.prog Tryz.f68 (fun e w' => e = .returned (takeV (pages, ⟨mode, pages + 1, trunk, spare, root, change⟩, 0)) ∧ Below w.heap.size w w') _ _ (takeV (pages, ⟨mode, pages + 1, trunk, spare, root, change⟩, 0)) ?_ ?_ ?_
    · simp [results, takeV, hV, go_sem]
    · rfl
    · exact ⟨rfl, g2.drew⟩
theorem tt_bad {h : Hd} {n : Int} (k : ¬ (decide (h.spare - 1 = 0) = decide (n = 0))) : takeTrunk h n = (0, hd0, 30) := if_pos k
theorem tt_ok {h : Hd} {n : Int} (k : decide (h.spare - 1 = 0) = decide (n = 0)) : takeTrunk h n = (h.trunk, { h with trunk := n, spare := h.spare - 1 }, 0) := if_neg (by simpa using k)
theorem ibeq (a b : Int) : (a == b) = decide (a = b) := by
  rw [Bool.eq_iff_iff, beq_iff_eq, decide_eq_true_eq]
set_option maxRecDepth 100000 in
set_option maxHeartbeats 1000000 in
theorem taketrunk_any (h : Hd) (hf : Fit h) (n : Int) (w : World) :
    Calls Tryz.prog 70 #[hV h, .int .i64 n] w fun e w' => e = .returned (takeV (takeTrunk h n)) ∧ Below w.heap.size w w' := by
  have HT := hid (two_heads w)
  obtain ⟨mode, pages, trunk, spare, root, change⟩ := h
  unfold Fit at hf
  have hw : wrap64 (spare - 1) = spare - 1 := by rw [Num.wrap_i]; simp only at hf; omega
  by_cases hp : decide (spare - 1 = 0) = decide (n = 0)
  · rw [tt_ok (h := ⟨mode, pages, trunk, spare, root, change⟩) hp]
    have hq : (spare - 1 == 0) = (n == 0) := by rw [ibeq, ibeq]; exact hp
    unfold hV
    clear hf hp
    go_enter Tryz.func70, Tryz.ntmps70
    go_wp2
    go_region
    go_wp2
    obtain ⟨-, g1, g2⟩ := HT.out ⟨mode, pages, n, spare - 1, root, change⟩ ⟨mode, pages, n, spare - 1, root, change⟩
    refine @bodyPost_ret Tryz.prog Tryz.f70 (fun e w' => e = .returned (takeV (trunk, ⟨mode, pages, n, spare - 1, root, change⟩, 0)) ∧ Below w.heap.size w w') _ _ (takeV (trunk, ⟨mode, pages, n, spare - 1, root, change⟩, 0)) ?_ ?_ ?_
    · simp [results, takeV, hV, go_sem]
    · rfl
    · exact ⟨rfl, g2.drew⟩
  · rw [tt_bad (h := ⟨mode, pages, trunk, spare, root, change⟩) hp]
    have hq : ((spare - 1 == 0) == (n == 0)) = false := by
      rw [ibeq, ibeq]
      by_cases e1 : spare - 1 = 0 <;> by_cases e2 : n = 0 <;> simp_all
    unfold hV
    clear hf hp
    go_enter Tryz.func70, Tryz.ntmps70
    go_wp2
    obtain ⟨-, g1, g2⟩ := HT.out ⟨mode, pages, n, spare - 1, root, change⟩ hd0
    refine @bodyPost_ret Tryz.prog Tryz.f70 (fun e w' => e = .returned (takeV (0, hd0, 30)) ∧ Below w.heap.size w w') _ _ (takeV (0, hd0, 30)) ?_ ?_ ?_
    · simp [results, takeV, hV, hd0, go_sem]
    · rfl
    · exact ⟨rfl, g2⟩
end Sp
end Go.Proofs.YtoifhcmgeackdaaGreatDoor

/-
  Contract of the project's Take.
-/
namespace Go.Proofs.YtoifhcmgeackdaaGreatDoor
open Go.RowKit
namespace Sp
open Num (hid)
open Mem (Bs bs IAt tI tS tIs tSs Chg Row ptr blk_cell blk_free blk_new blk_set blk_other blk_alloc row_kept row_shape row_type)
variable {R : Nat → Prop} {w : World} {d b : Nat} {S : St}
theorem tk_new {h : Hd} (k : h.spare = 0) : takeM h S = (takeNew h, S) := if_pos k
theorem tk_old {h : Hd} (k : ¬ h.spare = 0) : takeM h S = takeOf h (trunkAt S h.trunk) := if_neg k
theorem to_err {h : Hd} {T : Tr} {e : Int} {S1 : St} (k : ¬ e = 0) : takeOf h ((T, e), S1) = ((0, hd0, e), S1) := if_pos k
theorem to_bad {h : Hd} {T : Tr} {S1 : St} (k : badT h T = true) : takeOf h ((T, 0), S1) = ((0, hd0, 30), S1) := by unfold takeOf; rw [if_neg (fun e => e rfl), if_pos k]
theorem to_none {h : Hd} {T : Tr} {S1 : St} (k : badT h T = false) (k2 : T.list.length = 0) : takeOf h ((T, 0), S1) = (takeTrunk h T.next, S1) := by unfold takeOf; rw [if_neg (fun e => e rfl), if_neg (by simpa using k), if_pos k2]
theorem to_some {h : Hd} {T : Tr} {S1 : St} (k : badT h T = false) (k2 : ¬ T.list.length = 0) : takeOf h ((T, 0), S1) = if (putTrunk S1 h.trunk ⟨T.next, T.list.dropLast⟩).1 ≠ 0 then ((0, hd0, (putTrunk S1 h.trunk ⟨T.next, T.list.dropLast⟩).1), (putTrunk S1 h.trunk ⟨T.next, T.list.dropLast⟩).2)
  else ((T.list.getLastD 0, { h with spare := h.spare - 1 }, 0), (putTrunk S1 h.trunk ⟨T.next, T.list.dropLast⟩).2) := by unfold takeOf; rw [if_neg (fun e => e rfl), if_neg (by simpa using k), if_neg k2]
theorem last_at {l : List Int} {m : Nat} (h : l.length = m + 1) : l.getLastD 0 = l[m]'(by omega) := by
  have e : l.length - 1 = m := by omega
  rw [List.getLastD_eq_getLast?, List.getLast?_eq_getElem?, e, List.getElem?_eq_getElem (by omega)]
  rfl
theorem last_take {l : List Int} {m : Nat} (h : l.length = m + 1) : l.dropLast = l.take m := by rw [List.dropLast_eq_take, h, Nat.add_sub_cancel]
theorem bad_next {h : Hd} {T : Tr} (k : h.pages ≤ T.next) : badT h T = true := by unfold badT; rw [decide_eq_true k]; rfl
theorem bad_none {h : Hd} {T : Tr} (k : ¬ h.pages ≤ T.next) (k2 : T.list.length = 0) : badT h T = false := by unfold badT; rw [decide_eq_false k, decide_eq_false (by omega)]; rfl
theorem bad_last {h : Hd} {T : Tr} {m : Nat} (k : ¬ h.pages ≤ T.next) (k2 : T.list.length = m + 1) : badT h T = decide (h.pages ≤ T.list[m]'(by omega)) := by unfold badT; rw [decide_eq_false k, decide_eq_true (by omega), last_at k2]; rfl
/-- The boxes of a head that came, and of the answer's. -/
abbrev zObj : Obj := .cells #[.int .i64 0, .int .i64 0, .int .i64 0, .int .i64 0, .int .i64 0, .int .u64 0] tH
theorem small_get {c : Nat} {S : St} (h : Small c S) (n : Int) : Small (c + 1) (S.get n).2 := by
  unfold St.get
  unfold Small at *
  split
  · simp only; omega
  · simp only; omega
theorem small_put {c : Nat} {S : St} (h : Small c S) (n : Int) (x : Bs) : Small (c + 1) (S.put n x).2 := by
  unfold St.put
  have := put_len n x S.B
  unfold Small at *
  split
  · simp only; omega
  · simp only; omega
theorem small_tat {c : Nat} {S : St} (h : Small c S) (n : Int) : Small (c + 1) (trunkAt S n).2 := by
  have := small_get h n
  unfold trunkAt
  split
  · exact this
  · split
    · exact this
    · exact this
theorem small_ptr {c : Nat} {S : St} (h : Small c S) (n : Int) (t : Tr) : Small (c + 1) (putTrunk S n t).2 := by
  unfold putTrunk
  split
  · exact small_put h n _
  · exact h.more (Nat.le_succ _)
abbrev tkW (w7 : World) (a : Nat) (hd : Hd) (s : Int) : World := (((((((w7.setCell ⟨a, 3, none⟩ (.int .i64 s)).setCell ⟨a + 1, 0, none⟩ (.int .i64 hd.mode)).setCell ⟨a + 1, 1, none⟩ (.int .i64 hd.pages)).setCell ⟨a + 1, 2, none⟩ (.int .i64 hd.trunk)).setCell ⟨a + 1, 3, none⟩ (.int .i64 s)).setCell ⟨a + 1, 4, none⟩ (.int .i64 hd.root)).setCell ⟨a + 1, 5, none⟩ (.int .u64 (hd.change : Nat))).drew
theorem tat_okT (S : St) (n : Int) (h : (trunkAt S n).1.2 = 0) : okT (trunkAt S n).1.1 = true := by
  unfold trunkAt at h ⊢
  split at h
  · rename_i h1; exact absurd h h1
  · rename_i h1
    rw [if_neg h1]
    split at h
    · cases h
    · rename_i h2
      rw [if_neg h2]
      exact (dec_ok (by simpa using h2)).1
end Sp
end Go.Proofs.YtoifhcmgeackdaaGreatDoor

/-
  Contract of the project's trunkFor.
-/
namespace Go.Proofs.YtoifhcmgeackdaaGreatDoor
open Go.RowKit
namespace Sp
open Num (hid)
open Mem (Bs bs IAt tI tS tIs tSs Chg Row ptr blk_cell blk_free blk_new blk_set blk_other blk_alloc row_kept row_shape row_type wpList_append_run)
variable {R : Nat → Prop} {w : World} {d b : Nat} {S : St}
theorem Lrow.drew {N : Nat} {lv : Value} {l : List Int} {w : World} (h : Lrow N lv l w) : Lrow N lv l w.drew := h.on (Below.refl _ _).drew
theorem tf_none {h : Hd} {n : Int} (k : h.trunk = 0) : trunkFor h S n = ((n, ⟨h.trunk, []⟩, 0), S) := by rw [k]; exact if_pos k
theorem tf_of {h : Hd} {n : Int} (k : ¬ h.trunk = 0) {T : Tr} {e : Int} {S1 : St} (k2 : trunkAt S h.trunk = ((T, e), S1)) : trunkFor h S n = if e ≠ 0 then ((0, noT, e), S1) else if T.list.length < 50 then ((h.trunk, ⟨T.next, T.list ++ [n]⟩, 0), S1) else ((n, ⟨h.trunk, []⟩, 0), S1) := by
  unfold trunkFor
  rw [if_neg k, k2]
end Sp
end Go.Proofs.YtoifhcmgeackdaaGreatDoor

/-
  Contract of the project's Give.
-/
namespace Go.Proofs.YtoifhcmgeackdaaGreatDoor
open Go.RowKit
namespace Sp
open Num (hid)
open Mem (Bs bs IAt tI tS tIs tSs Chg Row ptr blk_cell blk_free blk_new blk_set blk_other blk_alloc row_kept row_shape row_type)
variable {R : Nat → Prop} {w : World} {d b : Nat} {S : St}
def giveV (x : Hd × Int) : Value := .tuple #[hV x.1, .int .i64 x.2]
theorem gv_arg {h : Hd} {n : Int} (k : n < 1 ∨ h.pages ≤ n) : giveM h S n = ((hd0, 1), S) := if_pos k
theorem gv_full {h : Hd} {n : Int} (k : ¬ (n < 1 ∨ h.pages ≤ n)) (k2 : h.pages - 1 ≤ h.spare) : giveM h S n = ((hd0, 30), S) := by unfold giveM; rw [if_neg k, if_pos k2]
theorem gv_of {h : Hd} {n : Int} (k : ¬ (n < 1 ∨ h.pages ≤ n)) (k2 : ¬ h.pages - 1 ≤ h.spare) {x : (Int × Tr × Int) × St} (k3 : trunkFor h S n = x) : giveM h S n = giveOf h x := by unfold giveM; rw [if_neg k, if_neg k2, k3]
theorem go_err {h : Hd} {a : Int} {T : Tr} {e : Int} {S1 : St} (k : ¬ e = 0) : giveOf h ((a, T, e), S1) = ((hd0, e), S1) := if_pos k
theorem go_ok {h : Hd} {a : Int} {T : Tr} {S1 : St} {e2 : Int} {S2 : St} (k : putTrunk S1 a T = (e2, S2)) : giveOf h ((a, T, 0), S1) = if e2 ≠ 0 then ((hd0, e2), S2) else (({ h with trunk := a, spare := h.spare + 1 }, 0), S2) := by
  unfold giveOf
  rw [if_neg (fun e => e rfl)]
  simp only [k]
theorem tf_len (h : Hd) (S : St) (n : Int) : (trunkFor h S n).1.2.1.list.length ≤ 51 ∧ ∀ c, Small c S → Small (c + 1) (trunkFor h S n).2 := by
  by_cases h0 : h.trunk = 0
  · rw [tf_none h0]
    exact ⟨Nat.zero_le _, fun c hc => hc.more (Nat.le_succ _)⟩
  · obtain ⟨⟨⟨T, e⟩, S1⟩, hX⟩ : ∃ x, trunkAt S h.trunk = x := ⟨_, rfl⟩
    have hs := fun c (hc : Small c S) => small_tat hc h.trunk
    rw [hX] at hs
    rw [tf_of h0 hX]
    split
    · exact ⟨Nat.zero_le _, hs⟩
    · split
      · rename_i h1 h2
        refine ⟨?_, hs⟩
        show (T.list ++ [n]).length ≤ 51
        rw [List.length_append, List.length_singleton]
        omega
      · exact ⟨Nat.zero_le _, hs⟩
abbrev gvW (w7 : World) (a : Nat) (hd : Hd) (t s : Int) : World := (((((((w7.setCell ⟨a, 2, none⟩ (.int .i64 t)).setCell ⟨a, 3, none⟩ (.int .i64 s)).setCell ⟨a + 1, 0, none⟩ (.int .i64 hd.mode)).setCell ⟨a + 1, 1, none⟩ (.int .i64 hd.pages)).setCell ⟨a + 1, 2, none⟩ (.int .i64 t)).setCell ⟨a + 1, 3, none⟩ (.int .i64 s)).setCell ⟨a + 1, 4, none⟩ (.int .i64 hd.root)).setCell ⟨a + 1, 5, none⟩ (.int .u64 (hd.change : Nat))
end Sp
end Go.Proofs.YtoifhcmgeackdaaGreatDoor
