/-
  Get over a shelf of the call's own, whatever stands on its pages.
-/
import Derived.Test.YtoifhcmgeackdaaGreatDoorTreeSmall
namespace Go.Proofs.YtoifhcmgeackdaaGreatDoor
open Go.RowKit
namespace Tr
open Num (hid)
open Mem (Bs bs ptr Chg tI)
open Sp (Hd)
open Sh (ShL St Two Wf Small)
open Ch (pV valM)
open No (N C NOw NAt Nb noN nV nilV decR encR sizeN okN findR fV tN noObj gObj put4 Fit fi isAt)
/-- What Get answers from a page on, so many levels down at most. -/
def getM (f : Ch.Pf) (key : Bs) : Nat → Int → (Bs × Bool) × Int
  | 0, _ => (([], false), 30)
  | k + 1, p => if (loadM f p).2 ≠ 0 then (([], false), (loadM f p).2) else if (loadM f p).1.f = true then leafM f (loadM f p).1 key else getM f key k ((loadM f p).1.ps.getD (wayM (loadM f p).1 key) 0)
/-- What a node that was read is like. -/
structure Read (n : No.N) : Prop where
  ok : okN n = true
  lk : n.ks.length ≤ 232
  sz : (No.encN n).length ≤ 232
theorem load_read {f : Ch.Pf} {p : Int} (h : (loadM f p).2 = 0) : Read (loadM f p).1 ∧ ∃ x, f p = some x ∧ x = No.page (loadM f p).1 := by
  cases hf : f p with
  | none => rw [load_none hf] at h; exact absurd h (by decide)
  | some x =>
    by_cases hd : (decR x).e = 0
    · rw [load_yes hf hd] at h ⊢
      obtain ⟨h1, h2, h3, h4, h5⟩ := No.decR_yes hd
      exact ⟨⟨h1, h4, h2⟩, x, rfl, h3.symm⟩
    · rw [load_bad hf hd] at h; exact absurd h (by decide)
theorem Read.leaf {n : No.N} (r : Read n) (hf : n.f = true) : n.cs.length = n.ks.length ∧ n.ps = [] := by
  rcases (No.okN_ways r.ok).2.2 with ⟨_, h1, h2, _⟩ | ⟨h1, _⟩
  · exact ⟨h1, h2⟩
  · rw [hf] at h1; cases h1
theorem Read.inner {n : No.N} (r : Read n) (hf : n.f = false) : 0 < n.ks.length ∧ n.ps.length = n.ks.length + 1 ∧ n.cs = [] ∧ (∀ (i : Nat) (h : i < n.ps.length), 1 ≤ n.ps[i] ∧ n.ps[i] < 4096) := by
  rcases (No.okN_ways r.ok).2.2 with ⟨h1, _⟩ | ⟨_, h1, h2, h3, h4, _⟩
  · rw [hf] at h1; cases h1
  · exact ⟨h1, h2, h3, fun i h => No.okP_at h4 i h⟩
theorem Read.few {n : No.N} (r : Read n) : n.ks.length ≤ 232 ∧ n.cs.length ≤ 232 ∧ n.ps.length ≤ 233 := by
  have hk := r.lk
  cases hf : n.f with
  | true => have h := r.leaf hf; rw [h.2]; exact ⟨hk, by omega, by simp⟩
  | false => have h := r.inner hf; rw [h.2.2.1]; exact ⟨hk, by simp, by omega⟩
theorem way_le {n : No.N} (key : Bs) : wayM n key ≤ n.ks.length := by
  unfold wayM findR
  split
  · simp only
    split
    · rename_i h
      unfold isAt at h
      simp only [decide_eq_true_eq] at h
      have := (List.getElem?_eq_some_iff.1 h).1
      omega
    · exact No.fi_le _ _
  · simp
theorem wf_page {p : Int} (h : 1 ≤ p ∧ p < 4096) : Wf p := Sh.wf_of (by omega) (by omega)
variable {s d N cnt : Nat} {lim : Int} {h : Hd} {arm : Int} {S : St} {w0 w : World}
set_option maxRecDepth 100000 in
set_option maxHeartbeats 8000000 in
theorem get_any (k : ShL s d N cnt lim h arm S w0 w) (ha : arm < 1) {root : Int} (hr : Wf root) (key : Bs) :
    Calls Tryz.prog 17 #[pV s, .int .i64 root, .string (bs key)] w (GetPost s d N cnt lim h arm S w0 w (getM S.f key 20 root)) := by
  have K := hid k
  have HAM := hid ha
  have e0 : bs [] = ⟨#[]⟩ := rfl
  have HR := hid hr
  clear k ha hr
  go_enter Tryz.func17, Tryz.ntmps17
  go_wp2_with fail
  go_loopw [9, 13] (fun pv lv wr => ∃ (j : Nat) (p : Int), pv = .int .i64 p ∧ lv = .int .i64 (j : Int) ∧ j ≤ 20 ∧ Hid (Wf p) ∧ Hid (Below w.heap.size w wr) ∧ Hid (getM S.f key 20 root = getM S.f key (20 - j) p)) (fun _ lv _ => 20 - (intOf lv).toNat)
  case atStart => exact ⟨0, root, rfl, rfl, Nat.zero_le _, HR, hid (Below.refl _ _), hid rfl⟩
  case round =>
    obtain ⟨j, p, rfl, rfl, hj, HW, HB, HE⟩ := hrel
    by_cases hlt : j < 20
    · have hle : (j : Int) < 20 := by omega
      have hsub : 20 - j = (20 - (j + 1)) + 1 := by omega
      rw [hsub] at HE
      have HSTEP : Hid (getM S.f key ((20 - (j + 1)) + 1) p = if (loadM S.f p).2 ≠ 0 then (([], false), (loadM S.f p).2) else if (loadM S.f p).1.f = true then leafM S.f (loadM S.f p).1 key else getM S.f key (20 - (j + 1)) ((loadM S.f p).1.ps.getD (wayM (loadM S.f p).1 key) 0)) := hid rfl
      have HL := hid (load_any (K.out.kept HB.out) HAM.out HW.out)
      have HRD := hid (load_read (f := S.f) (p := p))
      unfold LoadPost at HL
      generalize loadM S.f p = X at *
      obtain ⟨n, er⟩ := X
      clear hsub
      go_wp2_with fail
      refine HL.out.mono ?_
      rintro e w2 ⟨⟨ks, cs, ps, rfl, ho⟩, hb⟩
      have B2 := hid (HB.out.trans (hb.mono HB.out.size))
      obtain ⟨a1, c1, a2, c2, a3, c3, rfl, rfl, rfl⟩ := No.nat_slices ho.nat
      have B3 := hid (B2.out.alloc B2.out.size (gObj n (.slice a1 n.ks.length c1) (.slice a2 n.cs.length c2) (.slice a3 n.ps.length c3)))
      have N3 := hid (ho.nat.on ((Below.refl w2.heap.size w2).alloc (Nat.le_refl _) (gObj n (.slice a1 n.ks.length c1) (.slice a2 n.cs.length c2) (.slice a3 n.ps.length c3))))
      have hg := Nb.new n.f (.slice a1 n.ks.length c1) (.slice a2 n.cs.length c2) (.slice a3 n.ps.length c3) w2
      have HG := hid hg
      obtain ⟨b0, b1, b2, b3⟩ := hg.cells
      dsimp only [nV]
      clear hb ho hg HL
      by_cases hde : er = 0
      · subst hde
        simp only [ne_eq, not_true_eq_false, if_false] at HSTEP
        obtain ⟨hrd, -⟩ := HRD.out rfl
        have RD := hid hrd
        have hfew := hrd.few
        obtain ⟨fl, fk, fc, fp⟩ := n
        simp only at *
        cases fl with
        | true =>
          simp only [if_true] at HSTEP
          have HV := hid (valuein_any (K.out.kept B3.out) HAM.out key (show fk.length ≤ 1000000 by omega) (show fp.length ≤ 4000 by omega) (fun _ => (hrd.leaf rfl).1) N3.out)
          unfold nV GetPost at HV
          rw [← HSTEP.out, ← HE.out] at HV
          simp only at HV
          obtain ⟨Y, hY⟩ : ∃ Y, Y = getM S.f key 20 root := ⟨_, rfl⟩
          have HYE := hid hY
          rw [← hY] at HV
          clear HSTEP HE HRD hrd hfew hY
          unfold aV at HV
          obtain ⟨⟨v, q⟩, er⟩ := Y
          go_wp2_with fail
          refine HV.out.mono ?_
          rintro e w4 ⟨rfl, k4, c4⟩
          have K4 := hid k4
          have C4 := hid ((Chg.of_below (F := Two s d) B3.out).trans c4)
          clear k4 c4 b0 b1 b2 b3 HV
          go_wp2
          go_ret3
          unfold GetPost
          rw [← HYE.out]
          exact ⟨rfl, K4.out, C4.out⟩
        | false =>
          simp only [Bool.false_eq_true, if_false] at HSTEP
          obtain ⟨i1, i2, i3, i4⟩ := hrd.inner rfl
          simp only at i1 i2 i3 i4
          have hwl := way_le (n := ⟨false, fk, fc, fp⟩) key
          simp only at hwl
          have HY := hid (way_any (w := w2.alloc (gObj ⟨false, fk, fc, fp⟩ (.slice a1 fk.length c1) (.slice a2 fc.length c2) (.slice a3 fp.length c3))) (n := ⟨false, fk, fc, fp⟩) key (by simp only; omega) (by simp only; omega) N3.out)
          have HYW := hid (fun (wx : World) (hx : Below (w2.alloc (gObj ⟨false, fk, fc, fp⟩ (.slice a1 fk.length c1) (.slice a2 fc.length c2) (.slice a3 fp.length c3))).heap.size (w2.alloc (gObj ⟨false, fk, fc, fp⟩ (.slice a1 fk.length c1) (.slice a2 fc.length c2) (.slice a3 fp.length c3))) wx) => way_any (w := wx) (n := ⟨false, fk, fc, fp⟩) key (by simp only; omega) (by simp only; omega) (N3.out.on hx))
          unfold nV at HYW
          simp only at HYW
          obtain ⟨ao, cap, e1, -, -, hcell⟩ := No.IAt.ways1 N3.out.p
          cases e1
          have hwi : wayM ⟨false, fk, fc, fp⟩ key < fp.length := by omega
          obtain ⟨g, o, rfl, hgl, x0⟩ := hcell _ hwi
          have hgd : fp.getD (wayM ⟨false, fk, fc, fp⟩ key) 0 = fp[wayM ⟨false, fk, fc, fp⟩ key] := by rw [List.getD_eq_getElem?_getD, List.getElem?_eq_getElem hwi]; rfl
          have HPG := hid (i4 _ hwi)
          rw [hgd] at HSTEP
          have HX0 := hid x0
          have HGL := hid hgl
          clear hcell hgd x0 hgl hwl i1 i2 i3 i4 HY hfew hrd
          generalize fp[wayM ⟨false, fk, fc, fp⟩ key] = q at *
          generalize wayM ⟨false, fk, fc, fp⟩ key = jw at *
          have HWI := hid hwi
          have hwj : (jw : Int) < (fp.length : Int) := by omega
          go_upto_region 9 with fail
          generalize w2.alloc (.cells #[.bool false, .slice a1 fk.length c1, .slice a2 fc.length c2, .slice (some ⟨g, o, none⟩) fp.length c3] tN) = w3 at *
          refine No.wp_quiet_in (fun wx => Below w3.heap.size w3 wx) (by kernel_rfl) (by kernel_rfl) (Below.refl _ w3).drew ?_
          go_big_quiet_want
          go_big_quiet_op
          apply Exists.intro
          refine ⟨fun _ _ => ?_, ?_⟩
          · with_reducible exact Eq.refl _
          go_big_quiet_on
          go_big_quiet_want
          go_big_quiet_op
          refine ⟨.slice (some ⟨g, o, none⟩) fp.length c3, fun wx hx => ?_, ?_⟩
          · have c := ((HG.out.on hx).cells).2.2.2
            simp [go_sem, c]
          go_big_quiet_on
          go_big_quiet_want
          go_big_quiet_op
          refine ⟨.agg #[.bool false, .slice a1 fk.length c1, .slice a2 fc.length c2, .slice (some ⟨g, o, none⟩) fp.length c3], fun wx hx => ?_, ?_⟩
          · have c := (HG.out.on hx).cells
            simp [go_sem, c]
          go_big_quiet_on
          go_big_quiet_want
          go_big_quiet_op
          go_big_quiet_on
          go_big_quiet_want
          go_big_quiet_op
          refine ⟨.int .i64 (jw : Nat), fun wx hx => ?_, ?_⟩
          · refine (HYW.out wx hx).mono ?_
            rintro e w9 ⟨rfl, hb9⟩
            exact ⟨rfl, hx.trans (hb9.mono hx.size)⟩
          go_big_quiet_on
          go_big_quiet_want
          go_big_quiet_op
          refine ⟨.pointer (some ⟨g, o + jw, none⟩), fun wx hx => ?_, ?_⟩
          · simp [go_sem]
          go_big_quiet_on
          go_big_quiet_want
          go_big_quiet_op
          refine ⟨.int .i64 q, fun wx hx => ?_, ?_⟩
          · have c := (hx.cell (p := ⟨g, o + jw, none⟩) HGL.out).trans HX0.out
            simp [go_sem, c]
          go_big_quiet_on
          go_big_quiet_want
          go_big_quiet_op
          go_big_quiet_on
          refine wpQuiet_nil ?_
          intro wq hq
          have BQ := hid (B3.out.trans (hq.mono B3.out.size))
          clear hq
          go_wp2
          go_roundw
          case rel => exact ⟨j + 1, q, rfl, by go_num, by omega, hid (wf_page HPG.out), BQ, hid (by rw [HE.out, HSTEP.out])⟩
          case measure => simp [intOf]; omega
      · rw [if_pos hde] at HSTEP
        have hne : (er == 0) = false := by simpa using hde
        have hne2 : (er != 0) = true := by simpa using hde
        go_wp2
        go_ret3
        unfold GetPost
        rw [HE.out, HSTEP.out]
        exact ⟨rfl, K.out.kept B3.out, Chg.of_below B3.out⟩
    · have hle : ¬ (j : Int) < 20 := by omega
      have hz : 20 - j = 0 := by omega
      rw [hz] at HE
      go_wp2
      go_ret3
      unfold GetPost
      rw [HE.out]
      exact ⟨rfl, K.out.kept HB.out, Chg.of_below HB.out⟩
end Tr
end Go.Proofs.YtoifhcmgeackdaaGreatDoor
