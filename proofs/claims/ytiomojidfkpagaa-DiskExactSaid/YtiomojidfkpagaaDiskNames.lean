/-
  Contract of the project's disk: its names, rising.
-/
import Derived.Test.YtiomojidfkpagaaDiskLook
import Derived.Test.YtiomojidfkpagaaDiskShelf
import Derived.Shelf.SlIter.Nil
import Derived.Shelf.SortM.Plain
import Derived.Shelf.SortM.SortNone
namespace Go.Proofs.Ytiomojidfkpagaa
open Go.RowKit Go.Maps Go.Sort Go.Shelf
namespace Disk
open Num (hid bcells)


theorem before_lt : ∀ {a b : List UInt8}, bytesBefore a b = true → a < b
  | [], [], h => by cases h
  | [], _ :: _, _ => List.nil_lt_cons _ _
  | _ :: _, [], h => by cases h
  | x :: r, y :: s, h => by
    have h' : (decide (x < y) || (x == y && bytesBefore r s)) = true := h
    rw [List.cons_lt_cons_iff]
    simp only [Bool.or_eq_true, decide_eq_true_eq, Bool.and_eq_true, beq_iff_eq] at h'
    exact h'.imp_right fun h => ⟨h.1, before_lt h.2⟩

theorem sorted_names {L : Ents} (h : Rises L) {ss : List (List UInt8)} (hp : ss.Perm (L.map (·.1))) : ss.mergeSort (fun x y => decide (x ≤ y)) = L.map (·.1) := by
  refine List.Perm.eq_of_pairwise (le := fun a b => decide (a ≤ b) = true) ?_ ?_ ?_ ((List.mergeSort_perm _ _).trans hp)
  · intro a b _ _ h1 h2
    simp only [decide_eq_true_eq] at h1 h2
    exact List.le_antisymm h1 h2
  · refine List.pairwise_mergeSort ?_ ?_ _
    · intro a b c h1 h2
      simp only [decide_eq_true_eq] at h1 h2 ⊢
      exact List.le_trans h1 h2
    · intro a b
      simp only [Bool.or_eq_true, decide_eq_true_eq]
      exact List.le_total a b
  · rw [List.pairwise_map]
    refine h.imp fun {a b} hab => ?_
    simp only [decide_eq_true_eq]
    exact List.le_of_lt (before_lt hab)

/-- slices.Sort's two contracts at this dump, at the fence that asks nothing. -/
theorem sortsD (m : Nat) : AnyZ.SortsIn Try.prog Try.sortedD_ren Fence.wide m :=
  ⟨fun blk off cap ss W hH hblk hsz => callsIn_wide.2 (AnyM.slices_Sort_string Try.sortD blk off cap ss W hH hblk hsz),
   fun p cap W => callsIn_wide.2 (AnyM.slices_Sort_string_none Try.sortD p cap W)⟩

set_option maxRecDepth 100000 in
set_option maxHeartbeats 1000000 in
theorem names_any (tag : Nat → Tag) (w : World) (d m : Nat) (c : Ctl) (L : Ents) (D : DiskAt tag w d m c L) :
    Calls Try.prog 24 #[ptr d] w fun e w' => ∃ v, e = .returned v ∧ w'.ownsRow w.heap.size tStr 1 v L.length ((L.map (·.1)).map encStr) ∧ RowKit.Below w.heap.size w w' := by
  obtain ⟨c0, -, -, -, -, -, -, -⟩ := root_cells D.root.blk
  have hown : w.ownsMap Try.prog tStr RP m L.length (datum L) := D.owns
  have hfew := D.few
  have hmax : Maps.size (datum L) ≤ maxLen := by rw [datum_size]; unfold maxLen; omega
  have hbytes : Maps.size (datum L) * 16 ≤ 140737488355328 := by rw [datum_size]; omega
  have hris := D.owns.rises
  refine (callsIn_wide (n := 6)).1 ?_
  have hbl := hown.lt
  have hseq : SeqGives Fence.wide 2 Try.prog 109 #[.pointer (some ⟨w.heap.size, 0, none⟩)] encStr (fun ss => ss.Perm (strKeys (datum L))) (Maps.size (datum L)) (w.alloc (.cells #[.map (some m)] tMap)) :=
    AnyZ.keys_gives (ρ := Try.keysD_ren) { Try.keysD with } Fence.wide _ trivial rfl (by omega) w.heap.size m L.length (datum L) _ (by simp) (by simp) (by
      obtain ⟨es, clock, hb, Ft, hs, hD⟩ := hown
      exact ⟨es, clock, (Below.heap_alloc _ _ m hbl).trans hb, Ft, hs, hD⟩)
  have cK : ∀ mb W, CallsIn Fence.wide 5 Try.prog 67 #[.map mb] W fun e w' => e = .returned (.func (.func 109) #[] #[.pointer (some ⟨W.heap.size, 0, none⟩)]) ∧ w' = W.alloc (.cells #[.map mb] tMap) := fun mb W => AnyZ.keys_in Try.keysD Fence.wide 5 trivial rfl mb W
  have cS := AnyZ.sorted_in Try.sortedD Fence.wide 5 trivial trivial trivial trivial rfl (by omega) (sortsD _) (enters_of Try.func108 (by kernel_rfl) rfl) 109 #[.pointer (some ⟨w.heap.size, 0, none⟩)] trivial (enters_of Try.func109 (by kernel_rfl) rfl) _ _ hmax hbytes _ hseq
  change CallsIn _ _ Try.prog 66 _ _ _ at cS
  have hfK : Fence.wide.fn 67 := trivial
  have hfS : Fence.wide.fn 66 := trivial
  have HD := hid D
  have HO := hid hown
  have HRIS := hid hris
  clear D hown hris hmax hbytes
  refine callsIn_of_wp Try.func24 rfl trivial ?_ rfl
  simp only [Try.ntmps24, List.size_toArray, List.length_cons, List.length_nil, Nat.reduceAdd, Nat.reduceSub, Array.replicate_succ, Array.replicate_zero, List.push_toArray, List.append_toArray, List.nil_append, List.cons_append]
  gi_wp2_with (first
    | (gi_at_call 67; refine (cK _ _).mono ?_; rintro e w' ⟨rfl, rfl⟩)
    | (gi_at_call 66; refine cS.mono ?_; rintro e w' ⟨v, ss, rfl, hS, hrow, hnil, hb⟩))
  go_ret
  have hk : strKeys (datum L) = L.map (·.1) := by
    unfold datum strKeys
    simp only [List.map_map]
    rfl
  rw [hk] at hS
  have hl : ss.length = L.length := by rw [hS.length_eq, List.length_map]
  rw [sorted_names HRIS.out hS, hl] at hrow
  exact ⟨v, rfl, ownsRow_base_a hrow (by simp), ((RowKit.Below.refl _ w).alloc (Nat.le_refl _) _).trans (hb.mono (by simp))⟩

end Disk
end Go.Proofs.Ytiomojidfkpagaa
