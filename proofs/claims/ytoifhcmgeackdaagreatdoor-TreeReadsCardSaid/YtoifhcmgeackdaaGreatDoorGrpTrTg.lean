/-
  Put together: TreeDelS, TreeDelC.
-/
import Derived.Test.YtoifhcmgeackdaaGreatDoorGrpTrTa
import Derived.Deep.RegionLaw
/-
  slices.Delete at a row of string of the call's own: one element less.
-/
namespace Go.Proofs.YtoifhcmgeackdaaGreatDoor
open Go.RowKit
namespace Tr
open Num (hid)
open Mem (Chg)
open No (Bs bs C tS tI tC tSs tIs tCs sV iV OwnL infoS infoI infoC)
abbrev zDS : Value := (.string ⟨#[]⟩)
theorem tyDS : Tryz.prog.underlying tSs = some (.slice tS) := Tryz.underlying22
set_option maxRecDepth 100000 in
set_option maxHeartbeats 4000000 in
theorem delS_cur {w : World} {g n c i : Nat} {cur : Array Value} {xs : List Value} (hg : w.heap[g]? = some (.cells cur tS (0, 0))) (hi : i < n) (hnc : n ≤ c) (hcm : c ≤ maxLen) (hcs : cur.size = c * 1)
    (hx : cur.toList.take (n * 1) = xs) (h1x : ∀ u ∈ xs, u.oneCell' = true) :
    Calls Tryz.prog 105 #[.slice (some ⟨g, 0, none⟩) n c, .int .i64 i, .int .i64 ((i : Int) + 1)] w fun e w' =>
      e = .returned (.slice (some ⟨g, 0, none⟩) (n - 1) c) ∧ ∃ cur' : Array Value, w'.heap[g]? = some (.cells cur' tS (0, 0)) ∧ cur'.size = cur.size ∧ cur'.toList.take ((n - 1) * 1) = xs.take (i * 1) ++ xs.drop ((i + 1) * 1) ∧ Chg (· = g) w w' := by
  obtain ⟨i0, hi0, hz0, hzs, hzb⟩ := info_parts No.infoS
  have hxl : xs.length = n * 1 := by rw [← hx, List.length_take, Array.length_toList]; omega
  obtain ⟨news, hnews⟩ : ∃ news, news = xs.drop ((i + 1) * 1) := ⟨_, rfl⟩
  have hnl : news.length = (n - (i + 1)) * 1 := by rw [hnews, List.length_drop, hxl]; omega
  obtain ⟨R1, hR1⟩ : ∃ R1, R1 = (cur.toList.take (i * 1) ++ news ++ cur.toList.drop (i * 1 + news.length)).toArray := ⟨_, rfl⟩
  have hR1s : R1.size = cur.size := by rw [hR1, List.size_toArray, List.length_append, List.length_append, hnl, List.length_take, List.length_drop, Array.length_toList, hcs]; omega
  have hr : ∀ ty A m sc, m = n - (i + 1) → (0 < m → A = (⟨g, (i + 1) * 1, none⟩ : Addr)) → (Builtin.append_ #[tSs, tSs] ty #[.slice (some ⟨g, 0, none⟩) i c, .slice (some A) m sc]).run Tryz.prog w.drew = .ok (.slice (some ⟨g, 0, none⟩) (n - 1) c) (w.drew.setRow g R1) := by
    rintro ty A m sc rfl hA
    have h := run_append_room (P := Tryz.prog) (w := w.drew) tSs ty tS i0 tyDS hi0 g i c cur hg A (n - (i + 1)) sc news (by rw [hzs, hnl]) (fun j u hj => by
      have hjl := (List.getElem?_eq_some_iff.1 hj).1
      have hm : 0 < n - (i + 1) := by rw [hnl] at hjl; omega
      rw [hA hm, Addr.add_lit]
      show w.cell? _ = _
      rw [Mem.blk_cell hg]
      rw [hnews, List.getElem?_drop, ← hx, List.getElem?_take] at hj
      split at hj
      · simpa using hj
      · cases hj) (fun u hu => h1x u (by rw [hnews] at hu; exact List.mem_of_mem_drop hu)) (by omega) (by rw [hzs, hnl, hcs]; omega)
    rw [hzs, ← hR1, show i + (n - (i + 1)) = n - 1 by omega] at h
    exact h
  have hg1 : (w.drew.setRow g R1).heap[g]? = some (.cells R1 tS (0, 0)) := setRow_heap _ g _ _ _ _ hg
  obtain ⟨R2, hR2⟩ : ∃ R2, R2 = (R1.toList.take ((n - 1) * 1) ++ (Builtin.zeroCells (zDS).cells 1).toList ++ R1.toList.drop ((n - 1) * 1 + 1 * 1)).toArray := ⟨_, rfl⟩
  have hcl : ∀ (W : World), W.heap = (w.drew.setRow g R1).heap → ∀ ty o ln cp, o = (n - 1) * 1 → ln = 1 → (Builtin.clear_ #[tSs] ty #[.slice (some ⟨g, o, none⟩) ln cp]).run Tryz.prog W = .ok (.tuple #[]) (W.setRow g R2) := by
    rintro W hW ty o ln cp rfl rfl
    rw [hR2]
    exact run_clearK W tSs ty tS (zDS) 1 g _ 1 cp R1 tyDS (by simp [zeroValue, typeInfo, hi0, hz0]) rfl (by intro v hv; simp [Value.cells] at hv; first | (rcases hv with rfl | rfl | rfl <;> rfl) | (subst hv; rfl)) (by rw [hW]; exact hg1) (by rw [hR1s, hcs]; omega) (by decide)
  have FIN : Hid (∀ w', w'.heap = ((w.drew.setRow g R1).setRow g R2).heap → w'.os = w.os → w'.tape = w.tape → w'.output = w.output → ∃ cur' : Array Value, w'.heap[g]? = some (.cells cur' tS (0, 0)) ∧ cur'.size = cur.size ∧ cur'.toList.take ((n - 1) * 1) = xs.take (i * 1) ++ xs.drop ((i + 1) * 1) ∧ Chg (· = g) w w') := hid (by
    intro w' hw h1 h2 h3
    have hzl : (Builtin.zeroCells (zDS).cells 1).toList.length = 1 := by rw [Array.length_toList, size_zeroCells]; rfl
    have hct : cur.toList.take (i * 1) = xs.take (i * 1) := by rw [← hx, List.take_take, show min (i * 1) (n * 1) = i * 1 by omega]
    have hR1t : R1.toList.take ((n - 1) * 1) = xs.take (i * 1) ++ xs.drop ((i + 1) * 1) := by
      rw [hR1, hct, ← hnews, List.take_append, List.take_of_length_le (by simp only [List.length_append, List.length_take, hxl, hnl]; omega), show (n - 1) * 1 - (xs.take (i * 1) ++ news).length = 0 by simp only [List.length_append, List.length_take, hxl, hnl]; omega, List.take_zero, List.append_nil]
    refine ⟨R2, by rw [hw]; exact setRow_heap _ g _ _ _ _ hg1, ?_, ?_, ?_⟩
    · rw [hR2, List.size_toArray, List.length_append, List.length_append, hzl, List.length_take, List.length_drop, Array.length_toList, hR1s, hcs]; omega
    · have hl2 : (xs.take (i * 1) ++ xs.drop ((i + 1) * 1)).length = (n - 1) * 1 := by rw [← hnews]; simp only [List.length_append, List.length_take, hxl, hnl]; omega
      rw [hR2, hR1t, List.append_assoc, List.take_append, List.take_of_length_le (by omega), hl2, Nat.sub_self, List.take_zero, List.append_nil]
    · refine ⟨h1, h2, h3, ?_, fun j hj hF => ?_⟩
      · rw [hw, setRow_size, setRow_size]; exact Nat.le_refl _
      · rw [hw, setRow_other _ _ _ _ hF, setRow_other _ _ _ _ hF]; rfl)
  have hw1 : IntKind.i64.wrap ((i : Int) + 1) = (i : Int) + 1 := by rw [IntKind.wrap_i64]; unfold maxLen at hcm; omega
  have hne : ¬ ((i : Int) = (i : Int) + 1) := by omega
  have hb1 : (0 : Int) ≤ (i : Int) + 1 := by omega
  have hb2 : (i : Int) + 1 ≤ (n : Int) := by omega
  have hb3 : (i : Int) ≤ (i : Int) + 1 := by omega
  have hb4 : (i : Int) ≤ (c : Int) := by omega
  have hb5 : (i : Int) + 1 ≤ (c : Int) := by omega
  have hin : i ≤ n := by omega
  have hic : i ≤ c := by omega
  have hcn : ¬ (c = n - 1) := by omega
  have hcn2 : ¬ (c = i + (n - (i + 1))) := by omega
  have hn1 : n - 1 ≤ n := by omega
  have hn2 : n - (n - 1) = 1 := by omega
  have hjc : i + 1 ≤ c := by omega
  have htn : ((i : Int) + 1).toNat = i + 1 := by omega
  clear hi0 hz0 hzs hzb hxl hnl hR1 hR1s hg1 hR2 hnews hg hx h1x hcs hcm
  have mixed : Tryz.prog.follows .mixedOrders = true := by kernel_rfl
  by_cases hcj : c = i + 1
  · have hnj : n = i + 1 := by omega
    subst hcj
    subst hnj
    go_enter Tryz.func105, Tryz.ntmps105
    go_wp2_with fail
    go_region_law_o (refine Mem.step_append_run rfl _ _ tSs tSs rfl (.slice (some ⟨g, 0, none⟩) i (i + 1)) (.slice (some ⟨g, 0, none⟩) 0 0) (by simp [Act.eval, Act.put]) (by simp [Act.eval, Act.put]) (hr _ _ _ _ (by omega) (fun h => absurd h (by omega))) ?_)
    go_wp2_with (at_builtin; refine wpList_clear_run rfl _ tSs rfl _ rfl (hcl _ rfl _ _ _ _ (by omega) (by omega)) ?_)
    go_ret
    exact ⟨rfl, FIN.out _ rfl rfl rfl rfl⟩
  · go_enter Tryz.func105, Tryz.ntmps105
    go_wp2_with fail
    go_region_law_o (refine Mem.step_append_run rfl _ _ tSs tSs rfl (.slice (some ⟨g, 0, none⟩) i c) (.slice (some ⟨g, (i + 1) * 1, none⟩) (n - (i + 1)) (c - (i + 1))) (by simp [Act.eval, Act.put]) (by simp [Act.eval, Act.put]) (hr _ _ _ _ (by omega) (fun _ => rfl)) ?_)
    go_wp2_with (at_builtin; refine wpList_clear_run rfl _ tSs rfl _ rfl (hcl _ rfl _ _ _ _ (by omega) (by omega)) ?_)
    go_ret
    exact ⟨rfl, FIN.out _ rfl rfl rfl rfl⟩
/-- slices.Delete(row, i, i + 1). -/
theorem delS_any {w : World} {v : Value} {l : List Bs} {i : Nat} (own : OwnL tS 1 sV w 0 v l) (hi : i < l.length) :
    Calls Tryz.prog 105 #[v, .int .i64 (i : Int), .int .i64 ((i : Int) + 1)] w (DelPost tS 1 sV w v l i) := by
  have hfl : (l.take i ++ l.drop (i + 1)).flatMap sV = (l.flatMap sV).take (i * 1) ++ (l.flatMap sV).drop ((i + 1) * 1) := by
    rw [List.flatMap_append, flat_take No.sV_len, flat_drop No.sV_len]
  have hll : (l.take i ++ l.drop (i + 1)).length = l.length - 1 := by simp only [List.length_append, List.length_take, List.length_drop]; omega
  have h1x : ∀ u ∈ l.flatMap sV, u.oneCell' = true := by
    intro u hu
    obtain ⟨a, _, hu⟩ := List.mem_flatMap.1 hu
    exact No.sV_one a u hu
  rcases own.2 with ⟨rfl, h0⟩ | ⟨g, c, cur, rfl, -, hg, hnc, hcm, hcs, htk⟩
  · omega
  refine (delS_cur hg hi hnc hcm hcs htk h1x).mono ?_
  rintro e w' ⟨rfl, cur', hg', hcs', htk', hc⟩
  refine ⟨_, rfl, ⟨flat_len' No.sV_len _, Or.inr ⟨g, c, cur', by rw [hll], Nat.zero_le _, hg', by rw [hll]; omega, hcm, by rw [hcs', hcs], by rw [hll, htk', hfl]⟩⟩, fun j hj => hj, ?_⟩
  refine hc.mono (fun j _ hj => ?_)
  rw [hj]; rfl
end Tr
end Go.Proofs.YtoifhcmgeackdaaGreatDoor

/-
  slices.Delete at a row of api.Cell of the call's own: one element less.
-/
namespace Go.Proofs.YtoifhcmgeackdaaGreatDoor
open Go.RowKit
namespace Tr
open Num (hid)
open Mem (Chg)
open No (Bs bs C tS tI tC tSs tIs tCs sV iV OwnL infoS infoI infoC)
abbrev zDC : Value := (.agg #[.int .i64 0, .string ⟨#[]⟩, .int .i64 0])
theorem tyDC : Tryz.prog.underlying tCs = some (.slice tC) := Tryz.underlying88
set_option maxRecDepth 100000 in
set_option maxHeartbeats 4000000 in
theorem delC_cur {w : World} {g n c i : Nat} {cur : Array Value} {xs : List Value} (hg : w.heap[g]? = some (.cells cur tC (0, 0))) (hi : i < n) (hnc : n ≤ c) (hcm : c ≤ maxLen) (hcs : cur.size = c * 3)
    (hx : cur.toList.take (n * 3) = xs) (h1x : ∀ u ∈ xs, u.oneCell' = true) :
    Calls Tryz.prog 106 #[.slice (some ⟨g, 0, none⟩) n c, .int .i64 i, .int .i64 ((i : Int) + 1)] w fun e w' =>
      e = .returned (.slice (some ⟨g, 0, none⟩) (n - 1) c) ∧ ∃ cur' : Array Value, w'.heap[g]? = some (.cells cur' tC (0, 0)) ∧ cur'.size = cur.size ∧ cur'.toList.take ((n - 1) * 3) = xs.take (i * 3) ++ xs.drop ((i + 1) * 3) ∧ Chg (· = g) w w' := by
  obtain ⟨i0, hi0, hz0, hzs, hzb⟩ := info_parts No.infoC
  have hxl : xs.length = n * 3 := by rw [← hx, List.length_take, Array.length_toList]; omega
  obtain ⟨news, hnews⟩ : ∃ news, news = xs.drop ((i + 1) * 3) := ⟨_, rfl⟩
  have hnl : news.length = (n - (i + 1)) * 3 := by rw [hnews, List.length_drop, hxl]; omega
  obtain ⟨R1, hR1⟩ : ∃ R1, R1 = (cur.toList.take (i * 3) ++ news ++ cur.toList.drop (i * 3 + news.length)).toArray := ⟨_, rfl⟩
  have hR1s : R1.size = cur.size := by rw [hR1, List.size_toArray, List.length_append, List.length_append, hnl, List.length_take, List.length_drop, Array.length_toList, hcs]; omega
  have hr : ∀ ty A m sc, m = n - (i + 1) → (0 < m → A = (⟨g, (i + 1) * 3, none⟩ : Addr)) → (Builtin.append_ #[tCs, tCs] ty #[.slice (some ⟨g, 0, none⟩) i c, .slice (some A) m sc]).run Tryz.prog w.drew = .ok (.slice (some ⟨g, 0, none⟩) (n - 1) c) (w.drew.setRow g R1) := by
    rintro ty A m sc rfl hA
    have h := run_append_room (P := Tryz.prog) (w := w.drew) tCs ty tC i0 tyDC hi0 g i c cur hg A (n - (i + 1)) sc news (by rw [hzs, hnl]) (fun j u hj => by
      have hjl := (List.getElem?_eq_some_iff.1 hj).1
      have hm : 0 < n - (i + 1) := by rw [hnl] at hjl; omega
      rw [hA hm, Addr.add_lit]
      show w.cell? _ = _
      rw [Mem.blk_cell hg]
      rw [hnews, List.getElem?_drop, ← hx, List.getElem?_take] at hj
      split at hj
      · simpa using hj
      · cases hj) (fun u hu => h1x u (by rw [hnews] at hu; exact List.mem_of_mem_drop hu)) (by omega) (by rw [hzs, hnl, hcs]; omega)
    rw [hzs, ← hR1, show i + (n - (i + 1)) = n - 1 by omega] at h
    exact h
  have hg1 : (w.drew.setRow g R1).heap[g]? = some (.cells R1 tC (0, 0)) := setRow_heap _ g _ _ _ _ hg
  obtain ⟨R2, hR2⟩ : ∃ R2, R2 = (R1.toList.take ((n - 1) * 3) ++ (Builtin.zeroCells (zDC).cells 1).toList ++ R1.toList.drop ((n - 1) * 3 + 1 * 3)).toArray := ⟨_, rfl⟩
  have hcl : ∀ (W : World), W.heap = (w.drew.setRow g R1).heap → ∀ ty o ln cp, o = (n - 1) * 3 → ln = 1 → (Builtin.clear_ #[tCs] ty #[.slice (some ⟨g, o, none⟩) ln cp]).run Tryz.prog W = .ok (.tuple #[]) (W.setRow g R2) := by
    rintro W hW ty o ln cp rfl rfl
    rw [hR2]
    exact run_clearK W tCs ty tC (zDC) 3 g _ 1 cp R1 tyDC (by simp [zeroValue, typeInfo, hi0, hz0]) rfl (by intro v hv; simp [Value.cells] at hv; first | (rcases hv with rfl | rfl | rfl <;> rfl) | (subst hv; rfl)) (by rw [hW]; exact hg1) (by rw [hR1s, hcs]; omega) (by decide)
  have FIN : Hid (∀ w', w'.heap = ((w.drew.setRow g R1).setRow g R2).heap → w'.os = w.os → w'.tape = w.tape → w'.output = w.output → ∃ cur' : Array Value, w'.heap[g]? = some (.cells cur' tC (0, 0)) ∧ cur'.size = cur.size ∧ cur'.toList.take ((n - 1) * 3) = xs.take (i * 3) ++ xs.drop ((i + 1) * 3) ∧ Chg (· = g) w w') := hid (by
    intro w' hw h1 h2 h3
    have hzl : (Builtin.zeroCells (zDC).cells 1).toList.length = 3 := by rw [Array.length_toList, size_zeroCells]; rfl
    have hct : cur.toList.take (i * 3) = xs.take (i * 3) := by rw [← hx, List.take_take, show min (i * 3) (n * 3) = i * 3 by omega]
    have hR1t : R1.toList.take ((n - 1) * 3) = xs.take (i * 3) ++ xs.drop ((i + 1) * 3) := by
      rw [hR1, hct, ← hnews, List.take_append, List.take_of_length_le (by simp only [List.length_append, List.length_take, hxl, hnl]; omega), show (n - 1) * 3 - (xs.take (i * 3) ++ news).length = 0 by simp only [List.length_append, List.length_take, hxl, hnl]; omega, List.take_zero, List.append_nil]
    refine ⟨R2, by rw [hw]; exact setRow_heap _ g _ _ _ _ hg1, ?_, ?_, ?_⟩
    · rw [hR2, List.size_toArray, List.length_append, List.length_append, hzl, List.length_take, List.length_drop, Array.length_toList, hR1s, hcs]; omega
    · have hl2 : (xs.take (i * 3) ++ xs.drop ((i + 1) * 3)).length = (n - 1) * 3 := by rw [← hnews]; simp only [List.length_append, List.length_take, hxl, hnl]; omega
      rw [hR2, hR1t, List.append_assoc, List.take_append, List.take_of_length_le (by omega), hl2, Nat.sub_self, List.take_zero, List.append_nil]
    · refine ⟨h1, h2, h3, ?_, fun j hj hF => ?_⟩
      · rw [hw, setRow_size, setRow_size]; exact Nat.le_refl _
      · rw [hw, setRow_other _ _ _ _ hF, setRow_other _ _ _ _ hF]; rfl)
  have hw1 : IntKind.i64.wrap ((i : Int) + 1) = (i : Int) + 1 := by rw [IntKind.wrap_i64]; unfold maxLen at hcm; omega
  have hne : ¬ ((i : Int) = (i : Int) + 1) := by omega
  have hb1 : (0 : Int) ≤ (i : Int) + 1 := by omega
  have hb2 : (i : Int) + 1 ≤ (n : Int) := by omega
  have hb3 : (i : Int) ≤ (i : Int) + 1 := by omega
  have hb4 : (i : Int) ≤ (c : Int) := by omega
  have hb5 : (i : Int) + 1 ≤ (c : Int) := by omega
  have hin : i ≤ n := by omega
  have hic : i ≤ c := by omega
  have hcn : ¬ (c = n - 1) := by omega
  have hcn2 : ¬ (c = i + (n - (i + 1))) := by omega
  have hn1 : n - 1 ≤ n := by omega
  have hn2 : n - (n - 1) = 1 := by omega
  have hjc : i + 1 ≤ c := by omega
  have htn : ((i : Int) + 1).toNat = i + 1 := by omega
  clear hi0 hz0 hzs hzb hxl hnl hR1 hR1s hg1 hR2 hnews hg hx h1x hcs hcm
  have mixed : Tryz.prog.follows .mixedOrders = true := by kernel_rfl
  by_cases hcj : c = i + 1
  · have hnj : n = i + 1 := by omega
    subst hcj
    subst hnj
    go_enter Tryz.func106, Tryz.ntmps106
    go_wp2_with fail
    go_region_law_o (refine Mem.step_append_run rfl _ _ tCs tCs rfl (.slice (some ⟨g, 0, none⟩) i (i + 1)) (.slice (some ⟨g, 0, none⟩) 0 0) (by simp [Act.eval, Act.put]) (by simp [Act.eval, Act.put]) (hr _ _ _ _ (by omega) (fun h => absurd h (by omega))) ?_)
    go_wp2_with (at_builtin; refine wpList_clear_run rfl _ tCs rfl _ rfl (hcl _ rfl _ _ _ _ (by omega) (by omega)) ?_)
    go_ret
    exact ⟨rfl, FIN.out _ rfl rfl rfl rfl⟩
  · go_enter Tryz.func106, Tryz.ntmps106
    go_wp2_with fail
    go_region_law_o (refine Mem.step_append_run rfl _ _ tCs tCs rfl (.slice (some ⟨g, 0, none⟩) i c) (.slice (some ⟨g, (i + 1) * 3, none⟩) (n - (i + 1)) (c - (i + 1))) (by simp [Act.eval, Act.put]) (by simp [Act.eval, Act.put]) (hr _ _ _ _ (by omega) (fun _ => rfl)) ?_)
    go_wp2_with (at_builtin; refine wpList_clear_run rfl _ tCs rfl _ rfl (hcl _ rfl _ _ _ _ (by omega) (by omega)) ?_)
    go_ret
    exact ⟨rfl, FIN.out _ rfl rfl rfl rfl⟩
/-- slices.Delete(row, i, i + 1). -/
theorem delC_any {w : World} {v : Value} {l : List C} {i : Nat} (own : OwnL tC 3 C.vals w 0 v l) (hi : i < l.length) :
    Calls Tryz.prog 106 #[v, .int .i64 (i : Int), .int .i64 ((i : Int) + 1)] w (DelPost tC 3 C.vals w v l i) := by
  have hfl : (l.take i ++ l.drop (i + 1)).flatMap C.vals = (l.flatMap C.vals).take (i * 3) ++ (l.flatMap C.vals).drop ((i + 1) * 3) := by
    rw [List.flatMap_append, flat_take No.vals_len, flat_drop No.vals_len]
  have hll : (l.take i ++ l.drop (i + 1)).length = l.length - 1 := by simp only [List.length_append, List.length_take, List.length_drop]; omega
  have h1x : ∀ u ∈ l.flatMap C.vals, u.oneCell' = true := by
    intro u hu
    obtain ⟨a, _, hu⟩ := List.mem_flatMap.1 hu
    exact No.vals_one a u hu
  rcases own.2 with ⟨rfl, h0⟩ | ⟨g, c, cur, rfl, -, hg, hnc, hcm, hcs, htk⟩
  · omega
  refine (delC_cur hg hi hnc hcm hcs htk h1x).mono ?_
  rintro e w' ⟨rfl, cur', hg', hcs', htk', hc⟩
  refine ⟨_, rfl, ⟨flat_len' No.vals_len _, Or.inr ⟨g, c, cur', by rw [hll], Nat.zero_le _, hg', by rw [hll]; omega, hcm, by rw [hcs', hcs], by rw [hll, htk', hfl]⟩⟩, fun j hj => hj, ?_⟩
  refine hc.mono (fun j _ hj => ?_)
  rw [hj]; rfl
end Tr
end Go.Proofs.YtoifhcmgeackdaaGreatDoor
