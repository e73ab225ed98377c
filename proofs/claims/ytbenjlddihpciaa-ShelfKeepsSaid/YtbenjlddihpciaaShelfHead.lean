/-
  The shelf's pages: contracts of the project's takeNew and takeTrunk.
-/
import Derived.Test.YtbenjlddihpciaaShelfPutT
import Derived.Test.YtbenjlddihpciaaSpareHead
namespace Go.Proofs.Ytbenjlddihpciaa
open Go.RowKit
namespace Sh
open Sp
open Num (hid)
open Mem (Bs bs IAt tI tS tIs tSs Chg Row ptr blk_cell blk_free blk_new blk_set blk_other blk_alloc row_kept row_shape row_type)
theorem desk_put6z {Q : Nat → Prop} {w : World} {d b : Nat} {S : St} (h : DeskR Q w d b S) {r : Nat} (hr : ¬ Q r) : DeskR Q (put6z w r) d b S :=
  (((((h.set hr _ _).set hr _ _).set hr _ _).set hr _ _).set hr _ _).set hr _ _
theorem desk_put6 {Q : Nat → Prop} {w : World} {d b : Nat} {S : St} (h : DeskR Q w d b S) {r : Nat} (hr : ¬ Q r) (g : Hd) : DeskR Q (put6 w r g) d b S :=
  (((((h.set hr _ _).set hr _ _).set hr _ _).set hr _ _).set hr _ _).set hr _ _
set_option maxRecDepth 100000 in
set_option maxHeartbeats 1000000 in
theorem takenew_any (h : Hd) (hf : Fit h) (w : World) :
    Calls Try.prog 50 #[hV h] w fun e w' => e = .returned (takeV (takeNew h)) ∧ Below w.heap.size w w' := by
  have HT := hid (two_heads w)
  obtain ⟨mode, pages, trunk, spare, root, change⟩ := h
  by_cases hp : 4096 ≤ pages
  · rw [tn_full hp]
    unfold hV
    clear hf
    go_enter Try.func50, Try.ntmps50
    go_wp2
    obtain ⟨-, g1, g2⟩ := HT.out ⟨mode, pages, trunk, spare, root, change⟩ hd0
    obtain ⟨x0, x1, x2, x3, x4, x5⟩ := g1.cells
    refine @bodyPost_ret Try.prog Try.f50 (fun e w' => e = .returned (takeV (0, hd0, 22)) ∧ Below w.heap.size w w') _ _ (takeV (0, hd0, 22)) ?_ ?_ ?_
    · simp [results, takeV, hV, hd0, go_sem]
    · rfl
    · exact ⟨rfl, g2⟩
  · rw [tn_more hp]
    unfold Fit at hf
    have hw : wrap64 (pages + 1) = pages + 1 := by rw [Num.wrap_i]; simp only at hf; omega
    unfold hV
    clear hf
    go_enter Try.func50, Try.ntmps50
    go_wp2
    go_region
    go_wp2
    obtain ⟨-, g1, g2⟩ := HT.out ⟨mode, pages + 1, trunk, spare, root, change⟩ ⟨mode, pages + 1, trunk, spare, root, change⟩
    refine @bodyPost_ret Try.prog Try.f50 (fun e w' => e = .returned (takeV (pages, ⟨mode, pages + 1, trunk, spare, root, change⟩, 0)) ∧ Below w.heap.size w w') _ _ (takeV (pages, ⟨mode, pages + 1, trunk, spare, root, change⟩, 0)) ?_ ?_ ?_
    · simp [results, takeV, hV, go_sem]
    · rfl
    · exact ⟨rfl, g2.drew⟩
set_option maxRecDepth 100000 in
set_option maxHeartbeats 1000000 in
theorem taketrunk_any (h : Hd) (hf : Fit h) (n : Int) (w : World) :
    Calls Try.prog 52 #[hV h, .int .i64 n] w fun e w' => e = .returned (takeV (takeTrunk h n)) ∧ Below w.heap.size w w' := by
  have HT := hid (two_heads w)
  obtain ⟨mode, pages, trunk, spare, root, change⟩ := h
  unfold Fit at hf
  have hw : wrap64 (spare - 1) = spare - 1 := by rw [Num.wrap_i]; simp only at hf; omega
  by_cases hp : decide (spare - 1 = 0) = decide (n = 0)
  · rw [tt_ok (h := ⟨mode, pages, trunk, spare, root, change⟩) hp]
    have hq : (spare - 1 == 0) = (n == 0) := by rw [ibeq, ibeq]; exact hp
    unfold hV
    clear hf hp
    go_enter Try.func52, Try.ntmps52
    go_wp2
    go_region
    go_wp2
    obtain ⟨-, g1, g2⟩ := HT.out ⟨mode, pages, n, spare - 1, root, change⟩ ⟨mode, pages, n, spare - 1, root, change⟩
    refine @bodyPost_ret Try.prog Try.f52 (fun e w' => e = .returned (takeV (trunk, ⟨mode, pages, n, spare - 1, root, change⟩, 0)) ∧ Below w.heap.size w w') _ _ (takeV (trunk, ⟨mode, pages, n, spare - 1, root, change⟩, 0)) ?_ ?_ ?_
    · simp [results, takeV, hV, go_sem]
    · rfl
    · exact ⟨rfl, g2.drew⟩
  · rw [tt_bad (h := ⟨mode, pages, trunk, spare, root, change⟩) hp]
    have hq : ((spare - 1 == 0) == (n == 0)) = false := by
      rw [ibeq, ibeq]
      by_cases e1 : spare - 1 = 0 <;> by_cases e2 : n = 0 <;> simp_all
    unfold hV
    clear hf hp
    go_enter Try.func52, Try.ntmps52
    go_wp2
    obtain ⟨-, g1, g2⟩ := HT.out ⟨mode, pages, n, spare - 1, root, change⟩ hd0
    refine @bodyPost_ret Try.prog Try.f52 (fun e w' => e = .returned (takeV (0, hd0, 30)) ∧ Below w.heap.size w w') _ _ (takeV (0, hd0, 30)) ?_ ?_ ?_
    · simp [results, takeV, hV, hd0, go_sem]
    · rfl
    · exact ⟨rfl, g2⟩
end Sh
end Go.Proofs.Ytbenjlddihpciaa
