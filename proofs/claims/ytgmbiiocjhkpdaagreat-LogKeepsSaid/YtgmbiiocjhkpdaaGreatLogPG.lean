/-
  Contracts of the project's log: Len, Sync, End, Back, Pages.
-/
import Derived.Test.YtgmbiiocjhkpdaaGreatLogPI
namespace Go.Proofs.YtgmbiiocjhkpdaaGreat
open Go.RowKit Go.Shelf
namespace Lo
open Num (hid)
open Disk (Mod Fil Sees Stays size_sees write_sees drop_sees sync_sees cut_sees read_sees)
open Mem (Bs bs tI Chg ptr blk_cell blk_free blk_new blk_set blk_other blk_alloc row_kept row_shape row_type)
variable {O O' : Nat → Prop} {d m j b : Nat} {f f' : Value} {M M' : Mod} {fs fs' : List Fr} {w w' : World}
set_option maxRecDepth 100000 in
theorem len_any (h : PL O d m j b f M fs w) : Calls Tryz.prog 29 #[ptr j] w fun e w' => e = .returned (.int .i64 (fs.length : Nat)) ∧ w = w' := by
  obtain ⟨ao, cap, rfl⟩ := h.shape
  have c1 := h.c1
  clear h
  go_enter Tryz.func29, Tryz.ntmps29
  go_wp2
  go_ret
  exact ⟨rfl, rfl⟩
set_option maxRecDepth 100000 in
set_option maxHeartbeats 1000000 in
theorem sync_any (h : PL O d m j b f M fs w) : Calls Tryz.prog 15 #[ptr j] w fun e w' => e = .returned (.int .i64 (syncM M).1) ∧ PL O d m j b f (syncM M).2 fs w' ∧ Stays O w w' := by
  have hm : syncM M = if M.size ln < 0 then (0, M) else M.sync ln := rfl
  obtain ⟨X, hX⟩ : ∃ X, syncM M = X := ⟨_, rfl⟩
  rw [hX] at hm ⊢
  have c0 := h.c0
  have HS := hid h.size_
  have H := hid h
  clear h hX
  go_enter Tryz.func15, Tryz.ntmps15
  by_cases hs : M.size ln < 0
  · rw [if_pos hs] at hm
    have HM := hid hm
    clear hm
    generalize M.size ln = sz at *
    go_wp2_with fail
    refine HS.out.mono ?_
    rintro e w1 ⟨rfl, rfl⟩
    go_wp2
    go_ret
    rw [HM.out]
    exact ⟨rfl, H.out, Disk.Stays.refl _ _⟩
  · rw [if_neg hs] at hm
    have HM := hid hm
    clear hm
    generalize M.size ln = sz at *
    go_wp2_with fail
    refine HS.out.mono ?_
    rintro e w1 ⟨rfl, rfl⟩
    go_wp2_with fail
    refine H.out.sync_.mono ?_
    rintro e w2 ⟨rfl, h2, hs2⟩
    have H2 := hid (And.intro h2 hs2)
    clear h2 hs2
    go_wp2
    go_ret
    rw [HM.out]
    exact ⟨rfl, H2.out⟩
def Post3 (O : Nat → Prop) (d m j b : Nat) (X : Int × List Fr × Mod) (w : World) (e : Ending) (w' : World) : Prop := e = .returned (.int .i64 X.1) ∧ Left' O d m j b X.2.2 X.2.1 w w'
theorem endP_is (fs : List Fr) (M : Mod) : endP fs M = if M.size ln < 0 then (0, [], M) else if (M.drop ln).1 = 0 then (0, [], (M.drop ln).2) else ((M.drop ln).1, fs, (M.drop ln).2) := by
  unfold endP
  split
  · rfl
  · split
    · rename_i h; rw [h]
    · rfl
set_option maxRecDepth 100000 in
set_option maxHeartbeats 1000000 in
theorem end_any (h : PL O d m j b f M fs w) : Calls Tryz.prog 21 #[ptr j] w (Post3 O d m j b (endP fs M) w) := by
  have hm := endP_is fs M
  obtain ⟨X, hX⟩ : ∃ X, endP fs M = X := ⟨_, rfl⟩
  rw [hX] at hm ⊢
  have c0 := h.c0
  have HS := hid h.size_
  have H := hid h
  clear h hX
  go_enter Tryz.func21, Tryz.ntmps21
  by_cases hs : M.size ln < 0
  · rw [if_pos hs] at hm
    have HM := hid hm
    clear hm
    generalize M.size ln = sz at *
    go_wp2_with fail
    refine HS.out.mono ?_
    rintro e w1 ⟨rfl, rfl⟩
    go_wp2_with fail
    refine (keep_any H.out 0 (Nat.zero_le _)).mono ?_
    rintro e w2 ⟨rfl, hl⟩
    have HEND : Hid (Post3 O d m j b X w (.returned (.int .i64 0)) w2) := hid (by rw [HM.out]; exact ⟨rfl, by rw [List.take_zero] at hl; exact hl⟩)
    clear hl c0
    go_wp2
    go_ret
    exact HEND.out
  · rw [if_neg hs] at hm
    obtain ⟨Y, hY⟩ : ∃ Y, M.drop ln = Y := ⟨_, rfl⟩
    have HD := hid H.out.drop_
    rw [hY] at hm HD
    obtain ⟨r, M2⟩ := Y
    by_cases hr : r = 0
    · subst hr
      have HM : Hid (X = (0, [], M2)) := hid (hm.trans (if_pos rfl))
      clear hm hY
      generalize M.size ln = sz at *
      go_wp2_with fail
      refine HS.out.mono ?_
      rintro e w1 ⟨rfl, rfl⟩
      go_wp2_with fail
      refine HD.out.mono ?_
      rintro e w2 ⟨rfl, h2, hs2⟩
      have H2 := hid (And.intro h2 hs2)
      clear h2 hs2 c0
      go_wp2_with fail
      refine (keep_any H2.out.1 0 (Nat.zero_le _)).mono ?_
      rintro e w3 ⟨rfl, hl⟩
      have HEND : Hid (Post3 O d m j b X w (.returned (.int .i64 0)) w3) := hid (by rw [HM.out]; exact ⟨rfl, by rw [List.take_zero] at hl; exact hl.pre H2.out.2⟩)
      clear hl
      go_wp2
      go_ret
      exact HEND.out
    · have hr1 : (r != 0) = true := by simp [hr]
      have HM : Hid (X = (r, fs, M2)) := hid (hm.trans (if_neg hr))
      clear hm hY hr
      generalize M.size ln = sz at *
      go_wp2_with fail
      refine HS.out.mono ?_
      rintro e w1 ⟨rfl, rfl⟩
      go_wp2_with fail
      refine HD.out.mono ?_
      rintro e w2 ⟨rfl, h2, hs2⟩
      have HEND : Hid (Post3 O d m j b X w (.returned (.int .i64 r)) w2) := hid (by rw [HM.out]; exact ⟨rfl, f, h2, hs2⟩)
      clear h2 hs2 c0
      go_wp2
      go_ret
      exact HEND.out
theorem row_zero {w : World} {base : Nat} {e : TypeId} {k : Nat} {v : Value} {n : Nat} {xs : List Value} (h : w.ownsRow base e k v n xs) : w.ownsRow 0 e k v n xs :=
  ⟨h.1, h.2.imp_right (fun ⟨g, cap, cur, e, _, r⟩ => ⟨g, cap, cur, e, Nat.zero_le _, r⟩)⟩
/-- Behind Pages: a row of numbers of the call's own. -/
structure PG' (w : World) (q : List Nat) (v : Value) (wr : World) : Prop where
  row : wr.ownsRow w.heap.size tI 1 v q.length (q.map fun n : Nat => Value.int .i64 (n : Int))
  bel : Below w.heap.size w wr
set_option maxRecDepth 100000 in
set_option maxHeartbeats 1000000 in
theorem pages_any (h : PL O d m j b f M fs w) : Calls Tryz.prog 32 #[ptr j] w fun e w' => ∃ v, e = .returned v ∧ PG' w (pagesM (fs.map (·.1))) v w' := by
  obtain ⟨c, hc, hm⟩ := h.map
  have hfew := h.few
  have hso := sortedI_any hm (by omega) (pages_sorted (fs.map (·.1))) (pages_mem h.small)
  have HSO := hid hso
  have HKE := hid (keysI_any (some b) w)
  have c2 := h.c2
  clear h hm hso hc
  go_enter Tryz.func32, Tryz.ntmps32
  go_wp2_with fail
  refine HKE.out.mono ?_
  rintro e w1 ⟨rfl, rfl⟩
  go_wp2_with fail
  refine HSO.out.mono ?_
  rintro e w2 ⟨v, rfl, hrow, hb⟩
  have HR := hid (PG'.mk hrow hb)
  obtain ⟨ao, cap, rfl, -⟩ := row_shape (row_zero hrow)
  clear hrow hb
  go_wp2
  go_ret
  exact ⟨_, rfl, HR.out⟩
end Lo
end Go.Proofs.YtgmbiiocjhkpdaaGreat
