/-
  slices.Insert at a row of api.Cell of the call's own: one element more.
-/
import Derived.Test.YtoifhcmgeackdaaGreatDoorGrpTrTa
import Derived.Shelf.Spec.SlicesInsert
import Derived.Lib.AppendZerosOnto
namespace Go.Proofs.YtoifhcmgeackdaaGreatDoor
open Go.RowKit
namespace Tr
open Num (hid)
open Mem (Chg)
open No (Bs bs C tS tI tC tSs tIs tCs sV iV OwnL infoS infoI infoC)
abbrev zIC : Value := (.agg #[.int .i64 0, .string ⟨#[]⟩, .int .i64 0])
theorem tyC : Tryz.prog.underlying tCs = some (.slice tC) := Tryz.underlying88
theorem szC : (Tryz.prog.info? tC).map (·.size) = some 3 := by
  obtain ⟨i0, hi0, h0, h1, h2⟩ := info_parts No.infoC
  rw [hi0]; simp [h1]
set_option maxRecDepth 100000 in
set_option maxHeartbeats 4000000 in
/-- Behind the last one. -/
theorem insC_end {w : World} {v : Value} {l : List C} {x : C} {vb : Nat} (own : OwnL tC 3 C.vals w 0 v l) (hl : l.length ≤ 900000) (hx : w.heap[vb]? = some (.cells (C.vals x).toArray tC (0, 0))) :
    Calls Tryz.prog 108 #[v, .int .i64 (l.length : Int), .slice (some ⟨vb, 0, none⟩) 1 1] w (InsPost tC 3 C.vals w v l l.length x) := by
  obtain ⟨i0, hi0, h0, h1, h2⟩ := info_parts No.infoC
  obtain ⟨v', w', hr, ho, hc, hw⟩ := Mem.append_from tCs tC i0 _ 3 32 tyC hi0 h0 h1 h2 rfl (by decide) (by decide) own (b := vb) (o := 0) (m := 1) (c := 1) (ys := C.vals x) (by rw [No.vals_len]) (fun j hj => cells_at hx j hj) (No.vals_one x) (by omega)
  have R : Hid (InsPost tC 3 C.vals w v l l.length x (.returned v') w') := hid ⟨v', rfl, by
    rw [List.take_length, List.drop_length]
    refine own_snoc ?_
    exact ho, hw, hc⟩
  obtain ⟨ao, cap, rfl⟩ := own_form own
  have RR : Hid (∀ c, InsPost tC 3 C.vals w (.slice ao l.length c) l l.length x (.returned v') w') := hid (fun c => by
    have h := R.out
    unfold InsPost at h ⊢
    cases ao <;> exact h)
  clear hi0 h0 h1 h2 ho hc hw own hx hl R
  generalize l.length = n at *
  go_enter Tryz.func108, Tryz.ntmps108
  go_wp2_with (at_builtin; refine Mem.wpList_append_run rfl _ _ _ _ rfl _ _ rfl rfl hr ?_)
  all_goals
    go_ret
    exact RR.out _
set_option maxRecDepth 100000 in
set_option maxHeartbeats 4000000 in
/-- Within, and there is room. -/
theorem insC_room {w : World} {g n c i vb : Nat} {cur : Array Value} {xs ys : List Value} (hg : w.heap[g]? = some (.cells cur tC (0, 0))) (hv : w.heap[vb]? = some (.cells ys.toArray tC (0, 0))) (hne : vb ≠ g) (hi : i < n) (hroom : n + 1 ≤ c) (hcm : c ≤ maxLen) (hcs : cur.size = c * 3)
    (hx : cur.toList.take (n * 3) = xs) (hy : ys.length = 3) (h1x : ∀ u ∈ xs, u.oneCell' = true) (h1y : ∀ u ∈ ys, u.oneCell' = true) :
    Calls Tryz.prog 108 #[.slice (some ⟨g, 0, none⟩) n c, .int .i64 i, .slice (some ⟨vb, 0, none⟩) 1 1] w fun e w' =>
      e = .returned (.slice (some ⟨g, 0, none⟩) (n + 1) c) ∧ ∃ cur' : Array Value, w'.heap[g]? = some (.cells cur' tC (0, 0)) ∧ cur'.size = cur.size ∧ cur'.toList.take ((n + 1) * 3) = xs.take (i * 3) ++ ys ++ xs.drop (i * 3) ∧ Chg (· = g) w w' := by
  obtain ⟨R1, hR1⟩ : ∃ R1, R1 = (cur.toList.take ((i + 1) * 3) ++ xs.drop (i * 3) ++ cur.toList.drop ((i + 1) * 3 + (xs.drop (i * 3)).length)).toArray := ⟨_, rfl⟩
  obtain ⟨R2, hR2⟩ : ∃ R2, R2 = (R1.toList.take (i * 3) ++ ys ++ R1.toList.drop (i * 3 + ys.length)).toArray := ⟨_, rfl⟩
  have hxl : xs.length = n * 3 := by rw [← hx, List.length_take, Array.length_toList]; omega
  have hdl : (xs.drop (i * 3)).length = (n - i) * 3 := by rw [List.length_drop, hxl]; omega
  have hlt : g < w.heap.size := lt_of_block hg
  have hcp1 : ∀ ty o1 o2 dl dc sl sc, o1 = (i + 1) * 3 → o2 = i * 3 → dl = n - i → sl = n + 1 - i → (Builtin.copy_ #[tCs, tCs] ty #[.slice (some ⟨g, o1, none⟩) dl dc, .slice (some ⟨g, o2, none⟩) sl sc]).run Tryz.prog w.drew = .ok (goInt ((min sl dl : Nat) : Int)) (w.drew.setRow g R1) := by
    rintro ty o1 o2 dl dc sl sc rfl rfl rfl rfl
    rw [hR1]
    refine run_copyK w.drew _ _ ty tC 3 g _ _ dc _ _ sc cur tC _ tyC szC hg ?_ ?_ ?_ ?_
    · rw [hdl, Nat.min_eq_right (by omega)]
    · intro j u hj
      rw [Addr.add_lit]
      show w.cell? _ = _
      rw [Mem.blk_cell hg]
      rw [List.getElem?_drop, ← hx, List.getElem?_take] at hj
      split at hj
      · simpa using hj
      · cases hj
    · rw [hdl, hcs]; omega
    · exact fun u hu => h1x u (List.mem_of_mem_drop hu)
  have hg1 : (w.drew.setRow g R1).heap[g]? = some (.cells R1 tC (0, 0)) := setRow_heap _ g _ _ _ _ hg
  have hv1 : (w.drew.setRow g R1).heap[vb]? = some (.cells ys.toArray tC (0, 0)) := (setRow_other _ _ _ _ hne).trans hv
  have hR1s : R1.size = cur.size := by rw [hR1, List.size_toArray, List.length_append, List.length_append, hdl, List.length_take, List.length_drop, Array.length_toList, hcs]; omega
  have hcp2 : ∀ (W : World), W.heap = (w.drew.setRow g R1).heap → ∀ ty o1 dl dc, o1 = i * 3 → dl = n + 1 - i → (Builtin.copy_ #[tCs, tCs] ty #[.slice (some ⟨g, o1, none⟩) dl dc, .slice (some ⟨vb, 0, none⟩) 1 1]).run Tryz.prog W = .ok (goInt ((min 1 dl : Nat) : Int)) (W.setRow g R2) := by
    rintro W hW ty o1 dl dc rfl rfl
    rw [hR2]
    refine run_copyK W _ _ ty tC 3 g _ _ dc _ _ 1 R1 tC _ tyC szC (by rw [hW]; exact hg1) ?_ ?_ ?_ h1y
    · rw [hy, Nat.min_eq_left (by omega), Nat.one_mul]
    · intro j u hj
      rw [Addr.add_lit, Nat.zero_add, Mem.blk_cell (by rw [hW]; exact hv1 : W.heap[vb]? = some (.cells ys.toArray tC (0, 0)))]
      simpa using hj
    · rw [hy, hR1s, hcs]; omega
  have hov : ∀ o lb cb, (callFunc 142 #[.slice (some ⟨vb, 0, none⟩) 1 1, .slice (some ⟨g, o, none⟩) lb cb]).run Tryz.prog w = .ok (.value (.bool false)) w := fun o lb cb => by
    obtain ⟨i0, hi0, h0, h1, h2⟩ := info_parts No.infoC
    rw [run_callFunc_extern Tryz.func142 (by kernel_rfl) (by kernel_rfl) (by kernel_rfl) (e := Extern.SlicesOverlaps.overlaps #[tCs, tCs] #[4]) (by kernel_rfl),
      Lib.run_overlaps_apart w tCs 4 tC tyC 3 (fun w => by simp [Go.sizeOf, typeInfo, hi0, h1]) ⟨vb, 0, none⟩ ⟨g, o, none⟩ 1 1 lb cb hne tC tC ys.length cur.size (by simp [World.shape?, hv]) (by simp [World.shape?, hg]) (by rw [hcs]; omega) (by simp [World.frozen?, hv]) (by simp [World.frozen?, hv])]
    rfl
  have FIN : Hid (∀ w', w'.heap = ((w.drew.setRow g R1).setRow g R2).heap → w'.os = w.os → w'.tape = w.tape → w'.output = w.output → ∃ cur' : Array Value, w'.heap[g]? = some (.cells cur' tC (0, 0)) ∧ cur'.size = cur.size ∧ cur'.toList.take ((n + 1) * 3) = xs.take (i * 3) ++ ys ++ xs.drop (i * 3) ∧ Chg (· = g) w w') := hid (by
    intro w' hw h1 h2 h3
    have hR1t : R1.toList.take (i * 3) = xs.take (i * 3) := by
      rw [hR1, List.append_assoc, List.take_append, List.take_take, ← hx, List.take_take, List.length_take, Array.length_toList, hcs]
      rw [show min (i * 3) ((i + 1) * 3) = i * 3 by omega, show min (i * 3) (n * 3) = i * 3 by omega, show i * 3 - min ((i + 1) * 3) (c * 3) = 0 by omega, List.take_zero, List.append_nil]
    have hR1d : R1.toList.drop (i * 3 + ys.length) = xs.drop (i * 3) ++ cur.toList.drop ((i + 1) * 3 + (xs.drop (i * 3)).length) := by
      rw [hR1, List.append_assoc, hy, show i * 3 + 3 = (i + 1) * 3 by omega, List.drop_append, List.length_take, Array.length_toList, hcs, List.drop_of_length_le (by rw [List.length_take, Array.length_toList, hcs]; omega), List.nil_append, show (i + 1) * 3 - min ((i + 1) * 3) (c * 3) = 0 by omega, List.drop_zero]
    refine ⟨R2, by rw [hw]; exact setRow_heap _ g _ _ _ _ hg1, ?_, ?_, ?_⟩
    · rw [hR2, List.size_toArray, List.length_append, List.length_append, List.length_take, List.length_drop, Array.length_toList, hR1s, hy, hcs]; omega
    · rw [hR2, hR1t, hR1d, ← List.append_assoc, List.take_append, List.take_of_length_le (by simp only [List.length_append, List.length_take, hdl, hxl, hy]; omega), show (n + 1) * 3 - (xs.take (i * 3) ++ ys ++ xs.drop (i * 3)).length = 0 by simp only [List.length_append, List.length_take, hdl, hxl, hy]; omega, List.take_zero, List.append_nil]
    · refine ⟨h1, h2, h3, ?_, fun j hj hF => ?_⟩
      · rw [hw, setRow_size, setRow_size]; exact Nat.le_refl _
      · rw [hw, setRow_other _ _ _ _ hF, setRow_other _ _ _ _ hF]; rfl)
  obtain ⟨W1, hW1⟩ : ∃ W1, W1 = w.drew.setRow g R1 := ⟨_, rfl⟩
  have HW1 := hid hW1
  rw [← hW1] at hcp1 hcp2
  have hw1 : IntKind.i64.wrap ((i : Int) + 1) = (i : Int) + 1 := by rw [IntKind.wrap_i64]; unfold maxLen at hcm; omega
  have hw2 : IntKind.i64.wrap ((n : Int) + 1) = (n : Int) + 1 := by rw [IntKind.wrap_i64]; unfold maxLen at hcm; omega
  have hz2 : ¬ ((i : Int) = (n : Int)) := by omega
  have hb1 : (0 : Int) ≤ (i : Int) + 1 := by omega
  have hb2 : ¬ (c = i + 1) := by omega
  have hb4 : ¬ (c = i) := by omega
  have hb5 : (n : Int) + 1 ≤ (c : Int) := by omega
  have hin : i ≤ n := by omega
  have hb3 : (i : Int) ≤ (n : Int) + 1 := by omega
  have htn : ((i : Int) + 1).toNat = i + 1 := by omega
  have hgl : ((n : Int) + 1).toNat = n + 1 := by omega
  clear hR1 hR2 hxl hdl hlt hg1 hv1 hR1s hg hv hx hy h1x h1y hne hcs hcm hW1
  have mixed : Tryz.prog.follows .mixedOrders = true := by kernel_rfl
  go_enter Tryz.func108, Tryz.ntmps108
  go_wp2_with (simp only [hov])
  go_region_law_o (refine Go.Proofs.step_copy_runI rfl _ _ tCs tCs rfl (.slice (some ⟨g, (i + 1) * 3, none⟩) (n + 1 - (i + 1)) (c - (i + 1))) (.slice (some ⟨g, i * 3, none⟩) (n + 1 - i) (c - i)) (by simp [Act.eval, Act.put]) (by simp [Act.eval, Act.put]) (hcp1 _ _ _ _ _ _ _ (by omega) (by omega) (by omega) (by omega)) ?_)
  go_wp2_with (at_builtin; refine Go.Proofs.wpList_copy_runI _ rfl _ _ tCs tCs rfl _ _ rfl rfl (hcp2 _ rfl _ _ _ _ (by omega) (by omega)) ?_)
  go_ret
  exact ⟨rfl, FIN.out _ (by rw [HW1.out]) (by rw [HW1.out]; rfl) (by rw [HW1.out]; rfl) (by rw [HW1.out]; rfl)⟩
set_option maxRecDepth 100000 in
set_option maxHeartbeats 4000000 in
/-- Within, and there is no room: a new row. -/
theorem insC_grow {w : World} {g n c i vb : Nat} {cur : Array Value} {xs ys : List Value} (hg : w.heap[g]? = some (.cells cur tC (0, 0))) (hv : w.heap[vb]? = some (.cells ys.toArray tC (0, 0))) (hi : i < n) (hnc : n ≤ c) (hroom : c < n + 1) (hn : n ≤ 900000)
    (hx : cur.toList.take (n * 3) = xs) (hxl : xs.length = n * 3) (hy : ys.length = 3) (h1x : ∀ u ∈ xs, u.oneCell' = true) (h1y : ∀ u ∈ ys, u.oneCell' = true) :
    Calls Tryz.prog 108 #[.slice (some ⟨g, 0, none⟩) n c, .int .i64 i, .slice (some ⟨vb, 0, none⟩) 1 1] w fun e w' =>
      ∃ (G : Nat) (cur' : Array Value), e = .returned (.slice (some ⟨w.heap.size, 0, none⟩) (n + 1) G) ∧ w'.heap[w.heap.size]? = some (.cells cur' tC (0, 0)) ∧ n + 1 ≤ G ∧ G ≤ maxLen ∧ cur'.size = G * 3 ∧ cur'.toList.take ((n + 1) * 3) = xs.take (i * 3) ++ ys ++ xs.drop (i * 3) ∧ Below w.heap.size w w' := by
  obtain ⟨i0, hi0, hz0, hzs, hzb⟩ := info_parts No.infoC
  have hgw : g < w.heap.size := lt_of_block hg
  have hvw : vb < w.heap.size := lt_of_block hv
  have hik : i + (n + 1 - i) = n + 1 := by omega
  have hkk : (n : Int) + 1 - (i : Int) = ((n + 1 - i : Nat) : Int) := by omega
  have hcell : ∀ j u, xs[j]? = some u → w.cell? ⟨g, j, none⟩ = some u := by
    intro j u hj
    rw [Mem.blk_cell hg]
    rw [← hx, List.getElem?_take] at hj
    split at hj
    · simpa using hj
    · cases hj
  have hold : (Builtin.firstCells i0.size i (.slice (some ⟨g, 0, none⟩) i c)).run Tryz.prog w.drew = .ok (xs.take (i * 3)).toArray w.drew := by
    rw [hzs]
    exact run_firstCells_some w.drew 3 i ⟨g, 0, none⟩ i c (xs.take (i * 3)) (by rw [List.length_take]; omega) (fun j v hj => by
      rw [Addr.add_lit, Nat.zero_add]
      rw [List.getElem?_take] at hj
      split at hj
      · exact hcell j v hj
      · cases hj)
  obtain ⟨G, hG⟩ : ∃ G, G = grownCap w (n + 1) c tC := ⟨_, rfl⟩
  have hGn : n + 1 ≤ G := by rw [hG]; exact grownCap_ge w _ _ _
  have hGm : G ≤ maxLen := by rw [hG]; exact grownCap_le_maxLen w (n + 1) c tC (by unfold maxLen; omega)
  obtain ⟨ROW, hROW⟩ : ∃ ROW : Array Value, ROW = (xs.take (i * 3)).toArray ++ Builtin.zeroCells (zIC).cells (n + 1 - i) ++ Builtin.zeroCells (zIC).cells (G - (n + 1)) := ⟨_, rfl⟩
  have hzc : (zIC).cells.size = 3 := rfl
  have hRs : ROW.size = G * 3 := by
    rw [hROW]
    simp only [Array.size_append, size_zeroCells, hzc, List.size_toArray, List.length_take, hxl]
    omega
  have hrz : ∀ ty, (Builtin.append_ #[tCs, 3] ty #[.slice (some ⟨g, 0, none⟩) i c, .int .i64 ((n : Int) + 1 - (i : Int))]).run Tryz.prog w = .ok (.slice (some ⟨w.heap.size, 0, none⟩) (n + 1) G) (w.drew.alloc (.cells ROW tC)) := fun ty => by
    have h := Lib.run_append_grow_zeros w tCs 3 ty tC i0 _ .i64 .i64 tyC Tryz.underlying3 hi0 hz0 (some ⟨g, 0, none⟩) i c (xs.take (i * 3)) hold (n + 1 - i) (by omega) (by omega) (by omega) (by omega) (by rw [hzb]; omega) (by rw [hzb, hik]; exact growslice_fits hroom (by omega))
    rw [hik, ← hG, ← hROW] at h
    rw [hkk]
    exact h
  obtain ⟨W1, hW1⟩ : ∃ W1, W1 = w.drew.alloc (.cells ROW tC) := ⟨_, rfl⟩
  have HW1 := hid hW1
  rw [← hW1] at hrz
  have hN1 : W1.heap[w.heap.size]? = some (.cells ROW tC (0, 0)) := by rw [hW1]; exact Mem.blk_new w.drew _
  have hB1 : ∀ b, b < w.heap.size → W1.heap[b]? = w.heap[b]? := fun b hb => by rw [hW1]; exact Below.heap_alloc w.drew _ b hb
  obtain ⟨RA, hRA⟩ : ∃ RA, RA = (ROW.toList.take (i * 3) ++ ys ++ ROW.toList.drop (i * 3 + ys.length)).toArray := ⟨_, rfl⟩
  obtain ⟨RB, hRB⟩ : ∃ RB, RB = (RA.toList.take ((i + 1) * 3) ++ xs.drop (i * 3) ++ RA.toList.drop ((i + 1) * 3 + (xs.drop (i * 3)).length)).toArray := ⟨_, rfl⟩
  have hdl : (xs.drop (i * 3)).length = (n - i) * 3 := by rw [List.length_drop, hxl]; omega
  have hRAs : RA.size = G * 3 := by rw [hRA, List.size_toArray, List.length_append, List.length_append, hy, List.length_take, List.length_drop, Array.length_toList, hRs]; omega
  have hRBs : RB.size = G * 3 := by rw [hRB, List.size_toArray, List.length_append, List.length_append, hdl, List.length_take, List.length_drop, Array.length_toList, hRAs]; omega
  have hNA : (W1.setRow w.heap.size RA).heap[w.heap.size]? = some (.cells RA tC (0, 0)) := setRow_heap _ _ _ _ _ _ hN1
  have hcpA : ∀ (W : World), W.heap = W1.heap → ∀ ty o1 dl dc, o1 = i * 3 → dl = n + 1 - i → (Builtin.copy_ #[tCs, tCs] ty #[.slice (some ⟨w.heap.size, o1, none⟩) dl dc, .slice (some ⟨vb, 0, none⟩) 1 1]).run Tryz.prog W = .ok (goInt ((min 1 dl : Nat) : Int)) (W.setRow w.heap.size RA) := by
    rintro W hW ty o1 dl dc rfl rfl
    rw [hRA]
    refine run_copyK W _ _ ty tC 3 w.heap.size _ _ dc _ _ 1 ROW tC _ tyC szC (by rw [hW]; exact hN1) ?_ ?_ ?_ h1y
    · rw [hy, Nat.min_eq_left (by omega), Nat.one_mul]
    · intro j u hj
      rw [Addr.add_lit, Nat.zero_add, Mem.blk_cell (by rw [hW, hB1 _ hvw]; exact hv : W.heap[vb]? = some (.cells ys.toArray tC (0, 0)))]
      simpa using hj
    · rw [hy, hRs]; omega
  have hcpB : ∀ (W : World), W.heap = (W1.setRow w.heap.size RA).heap → ∀ ty o1 o2 dl dc sl sc, o1 = (i + 1) * 3 → o2 = i * 3 → dl = n - i → sl = n - i → (Builtin.copy_ #[tCs, tCs] ty #[.slice (some ⟨w.heap.size, o1, none⟩) dl dc, .slice (some ⟨g, o2, none⟩) sl sc]).run Tryz.prog W = .ok (goInt ((min sl dl : Nat) : Int)) (W.setRow w.heap.size RB) := by
    rintro W hW ty o1 o2 dl dc sl sc rfl rfl rfl rfl
    rw [hRB]
    refine run_copyK W _ _ ty tC 3 w.heap.size _ _ dc _ _ sc RA tC _ tyC szC (by rw [hW]; exact hNA) ?_ ?_ ?_ (fun u hu => h1x u (List.mem_of_mem_drop hu))
    · rw [hdl, Nat.min_self]
    · intro j u hj
      rw [Addr.add_lit, Mem.blk_cell (by rw [hW, setRow_other _ _ _ _ (by omega), hB1 _ hgw]; exact hg : W.heap[g]? = some (.cells cur tC (0, 0))), ← Mem.blk_cell hg]
      rw [List.getElem?_drop] at hj
      exact hcell _ u hj
    · rw [hdl, hRAs]; omega
  have FIN : Hid (∀ w', w'.heap = ((W1.setRow w.heap.size RA).setRow w.heap.size RB).heap → w'.os = w.os → w'.tape = w.tape → w'.output = w.output → w'.heap[w.heap.size]? = some (.cells RB tC (0, 0)) ∧ RB.toList.take ((n + 1) * 3) = xs.take (i * 3) ++ ys ++ xs.drop (i * 3) ∧ Below w.heap.size w w') := hid (by
    intro w' hw h1 h2 h3
    have hRt : ROW.toList.take (i * 3) = xs.take (i * 3) := by
      have e : ROW.toList = xs.take (i * 3) ++ ((Builtin.zeroCells (zIC).cells (n + 1 - i)).toList ++ (Builtin.zeroCells (zIC).cells (G - (n + 1))).toList) := by rw [hROW]; simp
      rw [e, List.take_append, List.take_of_length_le (by simp only [List.length_take]; omega), List.length_take, hxl, show i * 3 - min (i * 3) (n * 3) = 0 by omega, List.take_zero, List.append_nil]
    have hRAt : RA.toList.take ((i + 1) * 3) = xs.take (i * 3) ++ ys := by
      rw [hRA, hRt, List.take_append, List.take_of_length_le (by simp only [List.length_append, List.length_take, hxl, hy]; omega), show (i + 1) * 3 - (xs.take (i * 3) ++ ys).length = 0 by simp only [List.length_append, List.length_take, hxl, hy]; omega, List.take_zero, List.append_nil]
    refine ⟨by rw [hw]; exact setRow_heap _ _ _ _ _ _ hNA, ?_, ⟨h1, h2, h3, ?_, fun j hj => ?_⟩⟩
    · rw [hRB, hRAt, List.take_append, List.take_of_length_le (by simp only [List.length_append, List.length_take, hdl, hxl, hy]; omega), show (n + 1) * 3 - (xs.take (i * 3) ++ ys ++ xs.drop (i * 3)).length = 0 by simp only [List.length_append, List.length_take, hdl, hxl, hy]; omega, List.take_zero, List.append_nil]
    · rw [hw, setRow_size, setRow_size, hW1]; simp
    · rw [hw, setRow_other _ _ _ _ (by omega), setRow_other _ _ _ _ (by omega), hB1 _ hj])
  have HGS := hid (And.intro hGn (And.intro hGm hRBs))
  have hw1 : IntKind.i64.wrap ((i : Int) + 1) = (i : Int) + 1 := by rw [IntKind.wrap_i64]; omega
  have hw2 : IntKind.i64.wrap ((n : Int) + 1) = (n : Int) + 1 := by rw [IntKind.wrap_i64]; omega
  have hz2 : ¬ ((i : Int) = (n : Int)) := by omega
  have hz3 : (c : Int) < (n : Int) + 1 := by omega
  have hb1 : (0 : Int) ≤ (i : Int) + 1 := by omega
  have hGi : ¬ (G = i) := by omega
  have hGim : ¬ (G = i + 1) := by omega
  have hci : ¬ (c = i) := by omega
  have hin : i ≤ n := by omega
  have hb3 : (i : Int) ≤ (n : Int) := by omega
  have htn : ((i : Int) + 1).toNat = i + 1 := by omega
  clear hi0 hz0 hzs hzb hgw hvw hik hkk hcell hold hG hROW hzc hRs hW1 hN1 hB1 hRA hRB hdl hRAs hRBs hNA hg hv hx hxl hy h1x h1y hGm
  have mixed : Tryz.prog.follows .mixedOrders = true := by kernel_rfl
  go_enter Tryz.func108, Tryz.ntmps108
  go_wp2_with (first
    | (at_builtin; refine Mem.wpList_append_run rfl _ _ _ _ rfl _ _ rfl rfl (hrz _) ?_)
    | (at_builtin; refine Go.Proofs.wpList_copy_runI _ rfl _ _ tCs tCs rfl _ _ rfl rfl (hcpA _ rfl _ _ _ _ (by omega) (by omega)) ?_))
  go_region_law_o (refine Go.Proofs.step_copy_runI rfl _ _ tCs tCs rfl (.slice (some ⟨w.heap.size, (i + 1) * 3, none⟩) (n + 1 - (i + 1)) (G - (i + 1))) (.slice (some ⟨g, i * 3, none⟩) (n - i) (c - i)) (by simp [Act.eval, Act.put]) (by simp [Act.eval, Act.put]) (hcpB ((W1.setRow w.heap.size RA).drew) rfl _ _ _ _ _ _ _ (by omega) (by omega) (by omega) (by omega)) ?_)
  go_wp2
  go_ret
  refine (fun f => ⟨G, RB, rfl, f.1, HGS.out.1, HGS.out.2.1, HGS.out.2.2, f.2⟩) (FIN.out _ ?_ ?_ ?_ ?_)
  · rfl
  · rw [HW1.out]; rfl
  · rw [HW1.out]; rfl
  · rw [HW1.out]; rfl
/-- slices.Insert(row, i, x). -/
theorem insC_any {w : World} {v : Value} {l : List C} {i : Nat} {x : C} {vb : Nat} (own : OwnL tC 3 C.vals w 0 v l) (hi : i ≤ l.length) (hl : l.length ≤ 900000) (hx : w.heap[vb]? = some (.cells (C.vals x).toArray tC (0, 0))) (hne : v.ownBlock ≠ some vb) :
    Calls Tryz.prog 108 #[v, .int .i64 (i : Int), .slice (some ⟨vb, 0, none⟩) 1 1] w (InsPost tC 3 C.vals w v l i x) := by
  by_cases he : i = l.length
  · subst he
    exact insC_end own hl hx
  have hlt : i < l.length := by omega
  have hfl : (l.take i ++ x :: l.drop i).flatMap C.vals = (l.flatMap C.vals).take (i * 3) ++ C.vals x ++ (l.flatMap C.vals).drop (i * 3) := by
    rw [List.flatMap_append, List.flatMap_cons, flat_take No.vals_len, flat_drop No.vals_len, List.append_assoc]
  have hll : (l.take i ++ x :: l.drop i).length = l.length + 1 := by simp only [List.length_append, List.length_take, List.length_cons, List.length_drop]; omega
  have h1x : ∀ u ∈ l.flatMap C.vals, u.oneCell' = true := by
    intro u hu
    obtain ⟨a, _, hu⟩ := List.mem_flatMap.1 hu
    exact No.vals_one a u hu
  rcases own.2 with ⟨rfl, h0⟩ | ⟨g, c, cur, rfl, -, hg, hnc, hcm, hcs, htk⟩
  · omega
  by_cases hr : l.length + 1 ≤ c
  · refine (insC_room hg hx (fun e => hne (by rw [e]; rfl)) hlt hr hcm hcs htk (No.vals_len x) h1x (No.vals_one x)).mono ?_
    rintro e w' ⟨rfl, cur', hg', hcs', htk', hc⟩
    refine ⟨_, rfl, ⟨flat_len' No.vals_len _, Or.inr ⟨g, c, cur', by rw [hll], Nat.zero_le _, hg', by rw [hll]; omega, hcm, by rw [hcs', hcs], by rw [hll, htk', hfl]⟩⟩, fun j hj => Or.inl hj, ?_⟩
    refine hc.mono (fun j _ hj => ?_)
    rw [hj]; rfl
  · refine (insC_grow hg hx hlt hnc (by omega) hl htk (flat_len' No.vals_len l) (No.vals_len x) h1x (No.vals_one x)).mono ?_
    rintro e w' ⟨G, cur', rfl, hg', hG1, hG2, hcs', htk', hb⟩
    refine ⟨_, rfl, ⟨flat_len' No.vals_len _, Or.inr ⟨w.heap.size, G, cur', by rw [hll], Nat.zero_le _, hg', by rw [hll]; omega, hG2, hcs', by rw [hll, htk', hfl]⟩⟩, fun j hj => Or.inr (by simp only [Value.ownBlock, Option.some.injEq] at hj; omega), Chg.of_below hb⟩
end Tr
end Go.Proofs.YtoifhcmgeackdaaGreatDoor
