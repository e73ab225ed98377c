/-
  Contract of the project's log: trim; Open.
-/
import Derived.Test.YtgmbiiocjhkpdaaGreatLogPO
namespace Go.Proofs.YtgmbiiocjhkpdaaGreat
open Go.RowKit Go.Shelf
namespace Lo
open Num (hid)
open Disk (Mod Fil Sees Stays size_sees write_sees drop_sees sync_sees cut_sees read_sees)
open Mem (Bs bs tI Chg ptr blk_cell blk_free blk_new blk_set blk_other blk_alloc row_kept row_shape row_type)
variable {O O' : Nat → Prop} {d m j b : Nat} {f f' : Value} {M M' : Mod} {fs fs' : List Fr} {w w' : World}
theorem max_pred (st : Nat) : max ((st : Int) - 1) 0 = ((st - 1 : Nat) : Int) := by omega
def TrimPost (O : Nat → Prop) (d m j b : Nat) (X : Int × Mod) (gs : List Fr) (w : World) (e : Ending) (w' : World) : Prop := e = .returned (.int .i64 X.1) ∧ Left' O d m j b X.2 gs w w'
set_option maxRecDepth 100000 in
set_option maxHeartbeats 4000000 in
theorem trim_any (h : PL O d m j b f M fs w) (st : Nat) (hst : st - 1 ≤ fs.length) : Calls Tryz.prog 50 #[ptr j, .int .i64 (st : Nat)] w (TrimPost O d m j b (trimP st M) (fs.take (st - 1)) w) := by
  obtain ⟨X, hX⟩ : ∃ X, trimP st M = X := ⟨_, rfl⟩
  rw [hX]
  have hX' : (if 0 ≤ M.size ln ∧ st = 0 then M.drop ln else if (st : Int) < M.size ln then M.cut ln st else (0, M)) = X := hX
  have HK := hid (keep_any h (st - 1) hst)
  have hmx := max_pred st
  obtain ⟨gs, hgs⟩ : ∃ gs, fs.take (st - 1) = gs := ⟨_, rfl⟩
  rw [hgs] at HK ⊢
  have hmn : (st : Int) ≤ 100000 := by have := h.few; omega
  obtain ⟨q, hq⟩ : ∃ q, st - 1 = q := ⟨_, rfl⟩
  rw [hq] at HK hmx
  clear h hX hgs hst hq
  go_enter Tryz.func50, Tryz.ntmps50
  go_wp2_with fail
  refine HK.out.mono ?_
  rintro e w1 ⟨rfl, f1, h1, hs1⟩
  have H1 := hid h1
  have HS1 := hid hs1
  have HSZ := hid h1.size_
  have c1 := h1.c0
  clear h1 hs1
  by_cases h0 : 0 ≤ M.size ln ∧ st = 0
  · have HX : Hid (X = M.drop ln) := hid (hX'.symm.trans (if_pos h0))
    obtain ⟨h0a, rfl⟩ := h0
    clear hX'
    generalize M.size ln = sz at *
    go_wp2_with fail
    refine HSZ.out.mono ?_
    rintro e w2 ⟨rfl, rfl⟩
    go_wp2_with fail
    refine H1.out.drop_.mono ?_
    rintro e w3 ⟨rfl, h3, hs3⟩
    have HEND : Hid (TrimPost O d m j b X gs w (.returned (.int .i64 (M.drop ln).1)) w3) := hid (by rw [HX.out]; exact ⟨rfl, f1, h3, HS1.out.trans hs3⟩)
    clear h3 hs3 c1
    go_wp2
    go_ret
    exact HEND.out
  · by_cases hc : (st : Int) < M.size ln
    · have HX : Hid (X = M.cut ln st) := hid (hX'.symm.trans ((if_neg h0).trans (if_pos hc)))
      have hst0 : ((st : Int) == 0) = false := by simp; omega
      have hsz0 : 0 ≤ M.size ln := by omega
      clear hX' h0
      generalize M.size ln = sz at *
      go_wp2_with fail
      refine HSZ.out.mono ?_
      rintro e w2 ⟨rfl, rfl⟩
      go_wp2_with fail
      refine (H1.out.cut_ (st : Int)).mono ?_
      rintro e w3 ⟨rfl, h3, hs3⟩
      have HEND : Hid (TrimPost O d m j b X gs w (.returned (.int .i64 (M.cut ln st).1)) w3) := hid (by rw [HX.out]; exact ⟨rfl, f1, h3, HS1.out.trans hs3⟩)
      clear h3 hs3 c1
      go_wp2
      go_ret
      exact HEND.out
    · have HX : Hid (X = (0, M)) := hid (hX'.symm.trans ((if_neg h0).trans (if_neg hc)))
      have HEND : Hid (TrimPost O d m j b X gs w (.returned (.int .i64 0)) w1) := hid (by rw [HX.out]; exact ⟨rfl, f1, H1.out, HS1.out⟩)
      by_cases hsz0 : 0 ≤ M.size ln
      · have hst0 : ((st : Int) == 0) = false := by simp; omega
        clear hX' h0
        generalize M.size ln = sz at *
        go_wp2_with fail
        refine HSZ.out.mono ?_
        rintro e w2 ⟨rfl, rfl⟩
        go_wp2
        go_ret
        exact HEND.out
      · clear hX' h0
        generalize M.size ln = sz at *
        go_wp2_with fail
        refine HSZ.out.mono ?_
        rintro e w2 ⟨rfl, rfl⟩
        go_wp2
        go_ret
        exact HEND.out
theorem readP_len : ∀ (k i : Nat) (fs : List Fr) (st : Nat) (M : Mod), st - 1 ≤ fs.length → (0 < i → i ≤ fs.length + 1) → (i = 0 → fs = []) →
    (readP k i fs st M).2.2.1 - 1 ≤ (readP k i fs st M).2.1.length
  | 0, i, fs, st, M, h, _, _ => h
  | k + 1, i, fs, st, M, h, hi, h0 => by
    rw [readP_succ]
    split
    · exact Nat.zero_le _
    · cases htp : takeP i fs (M.read ln i).1 with
      | none => exact h
      | some g =>
        have h1 : i + 1 ≤ g.1.length + 1 := by
          unfold takeP at htp
          split at htp
          · omega
          · split at htp
            · cases htp
            · split at htp
              · cases htp
              · cases htp
                have := hi (by omega)
                rw [List.length_append]
                show i + 1 ≤ fs.length + 1 + 1
                omega
        have h2 : fs.length ≤ g.1.length := by
          unfold takeP at htp
          split at htp
          · split at htp
            · cases htp; exact Nat.le_refl _
            · cases htp
          · split at htp
            · cases htp
            · split at htp
              · cases htp
              · cases htp; rw [List.length_append]; exact Nat.le_add_right _ _
        refine readP_len k (i + 1) g.1 _ _ ?_ (fun _ => h1) (fun e => by omega)
        split <;> omega
/-- Behind Open: a log, or an error and none. -/
def OpenPost (O : Nat → Prop) (d m : Nat) (X : Int × Option (List Fr) × Mod) (w : World) (e : Ending) (w' : World) : Prop :=
  match X.2.1 with
  | none => X.1 ≠ 0 ∧ e = .returned (.tuple #[.pointer none, .int .i64 X.1]) ∧ Sees O d m X.2.2 w' ∧ Stays O w w'
  | some fs => X.1 = 0 ∧ ∃ j b f, e = .returned (.tuple #[ptr j, .int .i64 0]) ∧ PL O d m j b f X.2.2 fs w' ∧ Stays O w w'
theorem PL.seen (h : PL O d m j b f M fs w) : Sees O d m M w := h.disk.fewer (fun _ hk => Or.inl hk)
theorem open_is (M : Mod) : openP M =
    (let R := readP (M.size ln).toNat 0 [] 0 M
     let T := trimP R.2.2.1 R.2.2.2
     if R.1 ≠ 0 then (R.1, none, R.2.2.2) else if T.1 ≠ 0 then (T.1, none, T.2) else (0, some (R.2.1.take (R.2.2.1 - 1)), T.2)) := rfl
set_option maxRecDepth 100000 in
set_option maxHeartbeats 4000000 in
theorem open_any_ (h : Sees O d m M w) : Calls Tryz.prog 10 #[ptr d] w (OpenPost O d m (openP M) w) := by
  have hmk := run_makeMap (P := Tryz.prog) tMi w
  obtain ⟨hpl, hbl⟩ := PL.new h
  obtain ⟨X, hX⟩ : ∃ X, openP M = X := ⟨_, rfl⟩
  rw [hX]
  rw [open_is] at hX
  have hle := readP_len (M.size ln).toNat 0 [] 0 M (Nat.le_refl _) (fun e => absurd e (by decide)) (fun _ => rfl)
  have hrd := read_any_ hpl
  obtain ⟨R, hR⟩ : ∃ R, readP (M.size ln).toNat 0 [] 0 M = R := ⟨_, rfl⟩
  rw [hR] at hX hle hrd
  obtain ⟨r, gs, st, M1⟩ := R
  simp only at hX hle
  have HRD := hid hrd
  have HBL := hid hbl
  have HLE := hid hle
  clear h hpl hbl hR hle hrd
  by_cases hr : r = 0
  · subst hr
    rw [if_neg (by decide)] at hX
    have HX := hid hX
    clear hX
    go_enter Tryz.func10, Tryz.ntmps10
    go_wp2_with fail
    refine HRD.out.mono ?_
    rintro e w2 ⟨rfl, f2, h2, hs2⟩
    have HTR := hid (trim_any h2 st HLE.out)
    have HS2 := hid ((stays_of HBL.out).trans hs2)
    clear h2 hs2 hmk
    obtain ⟨T, hT⟩ : ∃ T, trimP st M1 = T := ⟨_, rfl⟩
    rw [hT] at HTR HX
    obtain ⟨t, M2⟩ := T
    by_cases ht : t = 0
    · subst ht
      have HX2 : Hid (X = (0, some (gs.take (st - 1)), M2)) := hid (HX.out.symm.trans (if_neg (fun h => h rfl)))
      clear hT HX
      go_wp2_with fail
      refine HTR.out.mono ?_
      rintro e w3 ⟨rfl, f3, h3, hs3⟩
      have HEND : Hid (OpenPost O d m X w (.returned (.tuple #[ptr (w.heap.size + 1), .int .i64 0])) w3) := hid (by rw [HX2.out]; exact ⟨rfl, _, _, f3, rfl, h3, HS2.out.trans hs3⟩)
      clear h3 hs3
      go_wp2
      refine bodyPost_ret (v := .tuple #[ptr (w.heap.size + 1), .int .i64 0]) (by simp [results, go_sem]) rfl ?_
      exact HEND.out
    · have ht1 : (t != 0) = true := by simp [ht]
      have HX2 : Hid (X = (t, none, M2)) := hid (HX.out.symm.trans (if_pos ht))
      have HT := hid ht
      clear hT HX ht
      go_wp2_with fail
      refine HTR.out.mono ?_
      rintro e w3 ⟨rfl, f3, h3, hs3⟩
      have HEND : Hid (OpenPost O d m X w (.returned (.tuple #[.pointer none, .int .i64 t])) w3) := hid (by rw [HX2.out]; exact ⟨HT.out, rfl, h3.seen, HS2.out.trans hs3⟩)
      clear h3 hs3
      go_wp2
      refine bodyPost_ret (v := .tuple #[.pointer none, .int .i64 t]) (by simp [results, go_sem]) rfl ?_
      exact HEND.out
  · have hr1 : (r != 0) = true := by simp [hr]
    have HX2 : Hid (X = (r, none, M1)) := hid (hX.symm.trans (if_pos hr))
    have HR0 := hid hr
    clear hX hr
    go_enter Tryz.func10, Tryz.ntmps10
    go_wp2_with fail
    refine HRD.out.mono ?_
    rintro e w2 ⟨rfl, f2, h2, hs2⟩
    have HEND : Hid (OpenPost O d m X w (.returned (.tuple #[.pointer none, .int .i64 r])) w2) := hid (by rw [HX2.out]; exact ⟨HR0.out, rfl, h2.seen, (stays_of HBL.out).trans hs2⟩)
    clear h2 hs2 hmk
    go_wp2
    refine bodyPost_ret (v := .tuple #[.pointer none, .int .i64 r]) (by simp [results, go_sem]) rfl ?_
    exact HEND.out
end Lo
end Go.Proofs.YtgmbiiocjhkpdaaGreat
