/-
  Pages sorted by their numbers: the library's SortFunc over a row of the call's own.
-/
import Derived.Test.YthciofgkdfideaaCachePut
import Derived.Test.YthciofgkdfideaaCacheSortL
import Derived.Shelf.SlSortCmp.NoneTotal
namespace Go.Proofs.Ythciofgkdfideaa
open Go.RowKit
namespace Ca
open Mem (Bs bs tI tS Chg Row ptr blk_cell blk_free blk_new blk_set blk_other blk_alloc)
open Go.Sort Go.Lib
def cmpP (x y : Pg) : Int := Lib.compareInt x.1 y.1
theorem lt_cmp (x y : Pg) : ltOf cmpP x y = decide (x.1 < y.1) := by
  unfold ltOf cmpP Lib.compareInt
  by_cases h : x.1 < y.1
  · simp [h]
  · by_cases h2 : x.1 > y.1 <;> simp [h, h2]
theorem swo_cmp : SWO (ltOf cmpP) := by
  refine ⟨fun x => ?_, fun x y z h1 h2 => ?_, fun x y z h1 h2 => ?_⟩
  · rw [lt_cmp]; simp
  · rw [lt_cmp, decide_eq_true_eq] at *; omega
  · rw [lt_cmp, decide_eq_false_iff_not] at *; omega
/-! ### cells -/
theorem flat_two (l : List Pg) : (flatK pV 2 l.toArray).toList = l.flatMap pV := by
  refine List.ext_getElem ?_ (fun j h1 h2 => ?_)
  · rw [Array.length_toList, size_flatK, List.size_toArray, List.length_flatMap]
    rw [show (l.map fun a => (pV a).length) = l.map (fun _ => 2) from rfl, List.map_const', List.sum_replicate_nat]
  · have hj : j < l.length * 2 := by simpa using h1
    have e := Mem.flat_at pV_len l (j / 2) (by omega) (j % 2) (by omega)
    have h3 : j / 2 < l.length := by omega
    rw [show j / 2 * 2 + j % 2 = j by omega] at e
    rw [Array.getElem_toList, ← getElem!_pos (flatK pV 2 l.toArray) j (by simpa using h1), get_flatK _ _ _ _ (by simpa using hj)]
    have e2 : l.toArray[j / 2]! = l[j / 2] := by rw [getElem!_pos l.toArray (j / 2) (by simpa using h3)]; simp
    rw [e2]
    rw [List.getElem?_eq_getElem h2] at e
    have h4 : j % 2 < (pV l[j / 2]).length := by rw [pV_len]; omega
    rw [List.getElem?_eq_getElem h4] at e
    rw [getElem!_pos (pV l[j / 2]) (j % 2) h4]
    exact (Option.some.inj e).symm
theorem holds_row {w : World} {g cap : Nat} {l : List Pg} (h : w.ownsRow 0 tP 2 (.slice (some ⟨g, 0, none⟩) l.length cap) l.length (l.flatMap pV)) : HoldsK pV 2 w g 0 l.toArray := by
  intro j hj
  have hj2 : j < l.length * 2 := by simpa using hj
  have hc := h.cellAt j (by omega)
  obtain ⟨cur, hb⟩ := Mem.row_type h (g := g) rfl
  refine ⟨?_, by simp [World.frozen?, hb]⟩
  rw [Nat.zero_add, hc, getElem!_pos (flatK pV 2 l.toArray) j hj, ← flat_two, Array.getElem?_toList, Array.getElem?_eq_getElem hj]
  rfl
theorem row_sorted {w : World} {g cap n : Nat} {os : Array Obj} {l t : List Pg} (h : w.ownsRow 0 tP 2 (.slice (some ⟨g, 0, none⟩) l.length cap) l.length (l.flatMap pV)) (hl : t.length = l.length) :
    (sortWorldK pV 2 w g 0 n t.toArray os).ownsRow 0 tP 2 (.slice (some ⟨g, 0, none⟩) l.length cap) l.length (t.flatMap pV) ∧ Chg (fun k => k = g) w (sortWorldK pV 2 w g 0 n t.toArray os) := by
  have hlen : (t.flatMap pV).length = l.length * 2 := by rw [← flat_two, Array.length_toList, size_flatK, List.size_toArray, hl]
  rcases h.2 with ⟨h0, -⟩ | ⟨g', cap', cur, hv, hg, hb, h1, h2, h3, h4⟩
  · cases h0
  · cases hv
    have hlt : g < w.heap.size := lt_of_block hb
    have hh : (sortWorldK pV 2 w g 0 n t.toArray os).heap[g]? = some (.cells (putCells id 0 (flatK pV 2 t.toArray) cur) tP (0, 0)) := by
      unfold sortWorldK putRowK
      rw [heap_grow_old _ _ (by rw [size_putRow]; exact hlt)]
      simp [putRow, mapBlock, Sort.ahead, Array.getElem?_modify, hb, onCells]
    refine ⟨⟨hlen, Or.inr ⟨g, cap, _, rfl, hg, hh, h1, h2, by simp [putCells, h3], ?_⟩⟩, ⟨rfl, rfl, rfl, ?_, fun k hk hne => ?_⟩⟩
    · rw [← flat_two]
      have hfs : (flatK pV 2 t.toArray).size = l.length * 2 := by rw [size_flatK, List.size_toArray, hl]
      apply List.ext_getElem?
      intro j
      by_cases hj : j < l.length * 2
      · have hjc : j < cur.size := by have := Nat.mul_le_mul_right 2 h1; omega
        rw [List.getElem?_take_of_lt hj, Array.getElem?_toList, Array.getElem?_toList]
        have e2 : (flatK pV 2 t.toArray)[j]? = some ((flatK pV 2 t.toArray)[j]!) := by
          rw [Array.getElem?_eq_getElem (by omega), getElem!_pos (flatK pV 2 t.toArray) j (by omega)]
        rw [e2]
        simp [putCells, hfs, hj, hjc]
      · rw [List.getElem?_eq_none (by rw [List.length_take]; omega), List.getElem?_eq_none (by rw [Array.length_toList, hfs]; omega)]
    · unfold sortWorldK putRowK
      rw [size_grow, size_putRow]
      exact Nat.le_add_right _ _
    · unfold sortWorldK putRowK
      rw [heap_grow_old _ _ (by rw [size_putRow]; exact hk)]
      have : g ≠ k := fun e => hne e.symm
      simp [putRow, mapBlock, Sort.ahead, Array.getElem?_modify, this]
/-! ### the sort -/
set_option maxRecDepth 100000 in
set_option maxHeartbeats 1000000 in
theorem closure_any (x y : Pg) (W : World) : Calls Try.prog 31 #[.agg #[.int .i64 x.1, .string (bs x.2)], .agg #[.int .i64 y.1, .string (bs y.2)]] W fun e w' => e = .returned (.int .i64 (cmpP x y)) ∧ ∃ q os', w' = grow (W.drewN q) os' := by
  have hcon := fun W' => AnyG.cmp_Compare_int Try.cmpInt x.1 y.1 W'
  have HC := Num.hid (show ∀ W', Calls Try.prog 32 #[.int .i64 x.1, .int .i64 y.1] W' _ from hcon)
  clear hcon
  unfold cmpP
  generalize Lib.compareInt x.1 y.1 = r at HC ⊢
  go_enter Try.func31, Try.ntmps31
  go_wp2_with fail
  refine (HC.out _).mono ?_
  rintro e w' ⟨rfl, rfl⟩
  go_wp2
  go_ret
  exact ⟨rfl, 0, _, by rw [alloc_eq_grow, alloc_eq_grow, grow_grow]; rfl⟩
theorem perm_list {d : Array Pg} {l : List Pg} (h : PermIn 0 l.toArray.size l.toArray d) : d.toList.Perm l := by
  obtain ⟨hsz, -, hp⟩ := h
  have e1 : (d.extract 0 l.toArray.size).toList = d.toList := by rw [← hsz]; simp
  have e2 : (l.toArray.extract 0 l.toArray.size).toList = l := by simp
  rw [e1, e2] at hp
  exact hp
theorem rise_of {d : Array Pg} {l : List Pg} (hp : d.toList.Perm l) (hs : SortedIn (ltOf cmpP) 0 l.length d) (hn : (l.map Prod.fst).Nodup) : Rise d.toList := by
  have hnd : (d.toList.map Prod.fst).Nodup := (hp.map Prod.fst).nodup_iff.2 hn
  have hsz : d.size = l.length := by have := hp.length_eq; simpa using this
  refine List.pairwise_iff_getElem.2 (fun i j hi hj hij => ?_)
  have hj2 : j < d.size := by simpa using hj
  have h1 := hs i j (Nat.zero_le _) hij (by omega)
  rw [lt_cmp, decide_eq_false_iff_not, getElem!_pos d j hj2, getElem!_pos d i (by omega)] at h1
  have h2 : (d.toList.map Prod.fst)[i]'(by rw [List.length_map]; exact hi) ≠ (d.toList.map Prod.fst)[j]'(by rw [List.length_map]; exact hj) := List.pairwise_iff_getElem.1 hnd i j (by rw [List.length_map]; exact hi) (by rw [List.length_map]; exact hj) hij
  simp only [List.getElem_map, Array.getElem_toList] at h2 ⊢
  omega
theorem sort_any {Q : Nat → Prop} {w : World} {v : Value} {l : List Pg} (h : PR Q w v l) (hn : (l.map Prod.fst).Nodup) (hl : l.length ≤ 100000) :
    Calls Try.prog 30 #[v, .func (.func 31) #[] #[]] w fun e w' => e = .returned (.tuple #[]) ∧ ∃ t : List Pg, Rise t ∧ t.Perm l ∧ PR Q w' v t ∧ Chg (fun k => v.ownBlock = some k) w w' := by
  rcases h.1.2 with ⟨rfl, h0⟩ | ⟨g, cap, cur, rfl, hg, hb, h1, h2, h3, h4⟩
  · have hl0 : l = [] := List.length_eq_zero_iff.1 h0
    subst hl0
    refine (show Calls Try.prog 30 _ _ _ from AnyF.slices_SortFunc_none { Try.sortF with } none 0 (.func (.func 31) #[] #[]) w).mono ?_
    rintro e w' ⟨rfl, rfl⟩
    exact ⟨rfl, [], List.Pairwise.nil, List.Perm.refl _, h, Chg.refl _ _⟩
  · have eg : ∀ args w, (callFunc 31 args).run Try.prog w = .ok (.enter 31 args) w := enters_of Try.func31 (by kernel_rfl) rfl
    have hcon := AnyQ.slices_SortFunc Try.sortF 2 Try.isAgg44 Try.sizeOf44 pV pV_len pV_one cmpP swo_cmp 31 #[] g 0 cap l.toArray w eg (fun _ _ _ _ x y => closure_any x y _) (holds_row h.1) (lt_of_block hb) (by rw [List.size_toArray]; omega)
    rw [List.size_toArray] at hcon
    refine (show Calls Try.prog 30 _ _ _ from hcon).mono ?_
    rintro e w' ⟨rfl, d', n, os, hp, hs, rfl⟩
    have hp2 : d'.toList.Perm l := perm_list (by rw [List.size_toArray]; exact hp)
    obtain ⟨k1, k2⟩ := row_sorted (n := n) (os := os) h.1 hp2.length_eq
    rw [Array.toArray_toList] at k1 k2
    have hlen := hp2.length_eq
    refine ⟨rfl, d'.toList, rise_of hp2 hs hn, hp2, ⟨?_, h.2⟩, k2.mono (fun k _ e => by rw [e]; rfl)⟩
    rw [hlen]
    exact k1
end Ca
end Go.Proofs.Ythciofgkdfideaa
