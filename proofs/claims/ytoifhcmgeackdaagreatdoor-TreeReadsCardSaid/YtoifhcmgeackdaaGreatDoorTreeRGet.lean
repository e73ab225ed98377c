/-
  The reference's Get over its shelf.
-/
import Derived.Test.YtoifhcmgeackdaaGreatDoorTreeGet
import Derived.Test.YtoifhcmgeackdaaGreatDoorNodeRefEnc
import Derived.Test.YtoifhcmgeackdaaGreatDoorGrpTrNoF
import Derived.Test.YtoifhcmgeackdaaGreatDoorGrpTrChD
namespace Go.Proofs.YtoifhcmgeackdaaGreatDoor
open Go.RowKit
namespace Tr
open Num (hid)
open Mem (Bs bs ptr Chg tI)
open Sp (Hd Book)
open Ch (pV valM)
open Rf (RAt pf)
open No (N C NAt Nb noN nV nilV decR encR sizeN okN findR fV tN noObj gObj RFit fi isAt less)
theorem way_iff {n : No.N} (hok : okN n = true) (key : Bs) (i : Nat) (hi : i < n.ks.length) : less key n.ks[i] = decide (wayM n key ≤ i) := by
  have hr := (No.okN_ways hok).2.1
  have hw : wayM n key = fi n.ks key + if isAt n.ks key = true then 1 else 0 := by unfold wayM findR; rw [if_pos hok]
  rw [hw]
  by_cases h1 : i < fi n.ks key
  · have h2 := No.fi_below n.ks key i h1
    have h3 : less key n.ks[i] = false := by
      cases h4 : less key n.ks[i] with
      | false => rfl
      | true => have := No.less_trans h2 h4; rw [No.less_irrefl] at this; cases this
    rw [h3]
    exact (decide_eq_false (by split <;> omega)).symm
  · have hle := No.fi_le n.ks key
    have hfi : fi n.ks key < n.ks.length := by omega
    have h5 := No.fi_at n.ks key hfi
    by_cases h6 : isAt n.ks key = true
    · rw [if_pos h6]
      have h7 : n.ks[fi n.ks key] = key := by
        unfold isAt at h6
        simp only [decide_eq_true_eq] at h6
        exact (List.getElem?_eq_some_iff.1 h6).2
      by_cases h8 : i = fi n.ks key
      · subst h8
        rw [h7, No.less_irrefl]
        exact (decide_eq_false (by omega)).symm
      · have h9 := No.rise_lt hr i (fi n.ks key) hi (by omega)
        rw [h7] at h9
        rw [h9]
        exact (decide_eq_true (by omega)).symm
    · rw [if_neg h6]
      have h7 : n.ks[fi n.ks key] ≠ key := fun e => h6 (by unfold isAt; rw [decide_eq_true_eq, List.getElem?_eq_getElem hfi, e])
      have h8 := No.less_not h5 h7
      by_cases h9 : i = fi n.ks key
      · subst h9
        rw [h8]
        exact (decide_eq_true (by omega)).symm
      · have h10 := No.rise_lt hr i (fi n.ks key) hi (by omega)
        rw [No.less_trans h8 h10]
        exact (decide_eq_true (by omega)).symm
theorem leq_yes {a key : Bs} (h : less key a = false) : Op.bytesLess (No.bs a).toList (bs key).toList = true ∨ (Op.bytesLess (No.bs a).toList (bs key).toList = false ∧ ((No.bs a).toList == (bs key).toList) = true) := by
  rw [No.bs_list, show (bs key).toList = key from No.bs_list key]
  by_cases e : a = key
  · subst e
    exact Or.inr ⟨No.less_irrefl a, by simp⟩
  · exact Or.inl (No.less_not h (fun e2 => e e2.symm))
theorem leq_no {a key : Bs} (h : less key a = true) : Op.bytesLess (No.bs a).toList (bs key).toList = false ∧ ((No.bs a).toList == (bs key).toList) = false := by
  rw [No.bs_list, show (bs key).toList = key from No.bs_list key]
  constructor
  · cases h2 : Op.bytesLess a key with
    | false => rfl
    | true => have := No.less_trans (a := a) (b := key) (c := a) h2 h; rw [No.less_irrefl] at this; cases this
  · simp only [beq_eq_false_iff_ne, ne_eq]
    rintro rfl
    rw [No.less_irrefl] at h
    cases h
theorem bsl (a : Bs) : (bs a).toList = a := No.bs_list a
variable {NN : Nat → Prop} {r b : Nat} {lim : Int} {h : Hd} {B : Book} {w : World}
set_option maxRecDepth 100000 in
set_option maxHeartbeats 8000000 in
theorem rtget_any (A : RAt NN r b lim h B w) (root : Int) (key : Bs) :
    Calls Tryz.prog 18 #[ptr r, .int .i64 root, .string (bs key)] w fun e w' => e = .returned (aV (getM (pf h B) key 20 root)) ∧ Below w.heap.size w w' := by
  have HA := hid A
  have e0 : bs [] = ⟨#[]⟩ := rfl
  clear A
  go_enter Tryz.func18, Tryz.ntmps18
  go_wp2_with fail
  go_loopw [9, 10] (fun pv lv wr => ∃ (j : Nat) (p : Int), pv = .int .i64 p ∧ lv = .int .i64 (j : Int) ∧ j ≤ 20 ∧ Hid (Below w.heap.size w wr) ∧ Hid (getM (pf h B) key 20 root = getM (pf h B) key (20 - j) p)) (fun _ lv _ => 20 - (intOf lv).toNat)
  case atStart => exact ⟨0, root, rfl, rfl, Nat.zero_le _, hid (Below.refl _ _), hid rfl⟩
  case round =>
    obtain ⟨j, p, rfl, rfl, hj, HB, HE⟩ := hrel
    by_cases hlt : j < 20
    · have hle : (j : Int) < 20 := by omega
      have hsub : 20 - j = (20 - (j + 1)) + 1 := by omega
      rw [hsub] at HE
      have HSTEP : Hid (getM (pf h B) key ((20 - (j + 1)) + 1) p = if (loadM (pf h B) p).2 ≠ 0 then (([], false), (loadM (pf h B) p).2) else if (loadM (pf h B) p).1.f = true then leafM (pf h B) (loadM (pf h B) p).1 key else getM (pf h B) key (20 - (j + 1)) ((loadM (pf h B) p).1.ps.getD (wayM (loadM (pf h B) p).1 key) 0)) := hid rfl
      have HG := hid (Rf.rget_any (HA.out.on HB.out) p)
      have HRD := hid (load_read (f := pf h B) (p := p))
      clear hsub
      go_wp2_with fail
      refine HG.out.mono ?_
      rintro e w2 ⟨hx, hb⟩
      have B2 := hid (HB.out.trans (hb.mono HB.out.size))
      clear hb HG
      rcases hx with ⟨hno, rfl⟩ | ⟨x, hx, -, rfl⟩
      · rw [load_none hno] at HSTEP
        simp only at HSTEP
        rw [if_pos (by decide)] at HSTEP
        clear hno HRD
        go_wp2
        go_ret3
        rw [HE.out, HSTEP.out]
        exact ⟨rfl, B2.out⟩
      · have HD := hid (No.rdecode_any x w2)
        rw [No.rdecR_is] at HD
        have HL1 := hid (fun hde => load_yes hx hde)
        have HL2 := hid (fun hde => load_bad hx hde)
        clear hx
        unfold No.DecGives at HD
        go_wp2_with fail
        refine HD.out.mono ?_
        rintro e w3 ⟨⟨ks, cs, ps, rfl, hn⟩, hb⟩
        have B3 := hid (B2.out.trans (hb.mono B2.out.size))
        obtain ⟨a1, c1, a2, c2, a3, c3, rfl, rfl, rfl⟩ := No.nat_slices hn
        have B4 := hid (B3.out.alloc B3.out.size (gObj (decR x).n (.slice a1 (decR x).n.ks.length c1) (.slice a2 (decR x).n.cs.length c2) (.slice a3 (decR x).n.ps.length c3)))
        have N4 := hid (hn.on ((Below.refl w3.heap.size w3).alloc (Nat.le_refl _) (gObj (decR x).n (.slice a1 (decR x).n.ks.length c1) (.slice a2 (decR x).n.cs.length c2) (.slice a3 (decR x).n.ps.length c3))))
        have hg := Nb.new (decR x).n.f (.slice a1 (decR x).n.ks.length c1) (.slice a2 (decR x).n.cs.length c2) (.slice a3 (decR x).n.ps.length c3) w3
        have HGB := hid hg
        obtain ⟨b0, b1, b2, b3⟩ := hg.cells
        dsimp only [nV]
        clear hb hn hg HD
        by_cases hde : (decR x).e = 0
        · have hl := HL1.out hde
          rw [hl] at HSTEP HRD
          simp only [ne_eq, not_true_eq_false, if_false] at HSTEP
          obtain ⟨hrd, -⟩ := HRD.out rfl
          clear hl HL1 HL2 HRD
          simp only at hrd
          have hfew := hrd.few
          generalize decR x = X at *
          obtain ⟨⟨fl, fk, fc, fp⟩, er⟩ := X
          simp only at *
          subst hde
          have RD := hid hrd
          cases fl with
          | true =>
            simp only [if_true] at HSTEP
            have HF := hid (No.rfind_any (.slice a1 fk.length c1) (.slice a2 fc.length c2) (.slice a3 fp.length c3) ⟨true, fk, fc, fp⟩ key ⟨by show fk.length ≤ _; omega, by show fc.length ≤ _; omega, by show fp.length ≤ _; omega⟩ _ N4.out)
            unfold nV fV at HF
            simp only at HF
            have HLF : Hid (leafM (pf h B) ⟨true, fk, fc, fp⟩ key = if (findR ⟨true, fk, fc, fp⟩ key).2 then (((valM (pf h B) (fc.getD (findR ⟨true, fk, fc, fp⟩ key).1 ⟨0, [], 0⟩)).1.1, decide ((valM (pf h B) (fc.getD (findR ⟨true, fk, fc, fp⟩ key).1 ⟨0, [], 0⟩)).2 = 0)), (valM (pf h B) (fc.getD (findR ⟨true, fk, fc, fp⟩ key).1 ⟨0, [], 0⟩)).2) else (([], false), 0)) := hid rfl
            have HX : Hid ((findR ⟨true, fk, fc, fp⟩ key).2 = true → (findR ⟨true, fk, fc, fp⟩ key).1 < fc.length) := hid (by
              intro hx
              have hcl := (RD.out.leaf rfl).1
              simp only at hcl
              unfold findR at hx ⊢
              rw [if_pos RD.out.ok] at hx ⊢
              unfold isAt at hx
              simp only [decide_eq_true_eq] at hx
              rw [hcl]
              exact (List.getElem?_eq_some_iff.1 hx).1)
            generalize findR ⟨true, fk, fc, fp⟩ key = Y at *
            obtain ⟨i, q⟩ := Y
            clear hrd hfew
            cases q with
            | false =>
              simp only [Bool.false_eq_true, if_false] at HLF
              go_wp2_with fail
              refine HF.out.mono ?_
              rintro e w5 ⟨rfl, hb⟩
              have B5 := hid (B4.out.trans (hb.mono B4.out.size))
              clear hb b0 b1 b2 b3
              go_wp2
              go_ret3
              rw [HE.out, HSTEP.out, HLF.out]
              exact ⟨rfl, B5.out⟩
            | true =>
              simp only [if_true] at HLF
              have hi := HX.out rfl
              obtain ⟨ao, cap, e1, -, hcc, hcell⟩ := No.CAt.ways3 N4.out.c
              cases e1
              obtain ⟨g, o, rfl, hgl, x0, x1, x2⟩ := hcell i hi
              have HC := hid (And.intro x0 (And.intro x1 x2))
              have HGL := hid hgl
              have hgd : fc.getD i ⟨0, [], 0⟩ = fc[i] := by rw [List.getD_eq_getElem?_getD, List.getElem?_eq_getElem hi]; rfl
              rw [hgd] at HLF
              generalize fc[i] = c at *
              clear hgd hcell x0 x1 x2 hgl
              have hlei : (i : Int) < (fc.length : Int) := by omega
              go_wp2_with fail
              refine HF.out.mono ?_
              rintro e w5 ⟨rfl, hb⟩
              have B5 := hid (B4.out.trans (hb.mono B4.out.size))
              have hg2 := HGB.out.on hb
              have y0 := (hb.cell (p := ⟨g, o + i * 3, none⟩) HGL.out).trans HC.out.1
              have y1 := (hb.cell (p := ⟨g, o + i * 3 + 1, none⟩) HGL.out).trans HC.out.2.1
              have y2 := (hb.cell (p := ⟨g, o + i * 3 + 2, none⟩) HGL.out).trans HC.out.2.2
              have HV := hid (Rf.rvalue_any (HA.out.on B5.out) c)
              clear hb b0 b1 b2 b3 hcc HF
              obtain ⟨b0, b1, b2, b3⟩ := hg2.cells
              clear hg2
              go_wp2_with fail
              refine HV.out.mono ?_
              rintro e w6 ⟨val, pg, er2, pv, rfl, hb6, -, hv⟩
              rw [← hv] at HLF
              have B6 := hid (B5.out.trans (hb6.mono B5.out.size))
              clear hb6 hv y0 y1 y2 b0 b1 b2 b3 HV
              go_wp2
              go_ret3
              rw [HE.out, HSTEP.out, HLF.out]
              refine ⟨?_, B6.out⟩
              unfold aV
              congr 3
          | false =>
            simp only [Bool.false_eq_true, if_false] at HSTEP
            obtain ⟨i1, i2, i3, i4⟩ := hrd.inner rfl
            simp only at i1 i2 i3 i4
            have hwl := way_le (n := ⟨false, fk, fc, fp⟩) key
            simp only at hwl
            have HWI := hid (fun i hi => way_iff (n := ⟨false, fk, fc, fp⟩) RD.out.ok key i hi)
            simp only at HWI
            have hwi : wayM ⟨false, fk, fc, fp⟩ key < fp.length := by omega
            have hsm : wayM ⟨false, fk, fc, fp⟩ key ≤ 232 := Nat.le_trans hwl hfew.1
            have hgd : fp.getD (wayM ⟨false, fk, fc, fp⟩ key) 0 = fp[wayM ⟨false, fk, fc, fp⟩ key] := by rw [List.getD_eq_getElem?_getD, List.getElem?_eq_getElem hwi]; rfl
            rw [hgd] at HSTEP
            obtain ⟨ao, cap, e1, -, -, hcell⟩ := No.IAt.ways1 N4.out.p
            cases e1
            obtain ⟨g, o, rfl, hgl, x0⟩ := hcell _ hwi
            obtain ⟨aok, capk, e2, -, -, hcellk⟩ := No.SAt.ways1 N4.out.k
            cases e2
            have HK := hid hcellk
            have HX0 := hid x0
            have HGL := hid hgl
            have hwj : (wayM ⟨false, fk, fc, fp⟩ key : Int) < (fp.length : Int) := by omega
            generalize fp[wayM ⟨false, fk, fc, fp⟩ key] = q at *
            generalize wayM ⟨false, fk, fc, fp⟩ key = jw at *
            clear hcell hgd x0 hgl i1 i3 i4 hcellk hrd hfew hwi
            have HLT := hid (And.intro (hid hwl) (And.intro hwj i2))
            clear hwl hwj i2
            go_wp2_with fail
            go_loopw [19] (fun iv wr => ∃ i : Nat, iv = .int .i64 (i : Int) ∧ i ≤ jw ∧ Hid (Below (w3.alloc (gObj ⟨false, fk, fc, fp⟩ (.slice a1 fk.length c1) (.slice a2 fc.length c2) (.slice (some ⟨g, o, none⟩) fp.length c3))).heap.size (w3.alloc (gObj ⟨false, fk, fc, fp⟩ (.slice a1 fk.length c1) (.slice a2 fc.length c2) (.slice (some ⟨g, o, none⟩) fp.length c3))) wr)) (fun iv _ => jw - (intOf iv).toNat)
            case atStart => exact ⟨0, rfl, Nat.zero_le _, hid (Below.refl _ _)⟩
            case round =>
              obtain ⟨i, rfl, hij, HW⟩ := hrel
              clear b0 b1 b2 b3
              obtain ⟨b0, b1, b2, b3⟩ := (HGB.out.on HW.out).cells
              have BW := hid (B4.out.trans (HW.out.mono B4.out.size))
              by_cases hil : i < jw
              · have hik : i < fk.length := by have := HLT.out.1.out; omega
                have hik' : (i : Int) < (fk.length : Int) := by omega
                obtain ⟨gk, ok, rfl, hgk, y00⟩ := HK.out i hik
                have y0 := (HW.out.cell (p := ⟨gk, ok + i, none⟩) hgk).trans y00
                clear y00
                have hq := HWI.out i hik
                rw [decide_eq_false (by omega)] at hq
                rcases leq_yes hq with hx | ⟨hx, hx2⟩
                all_goals
                  clear hq
                  go_wp2
                  go_roundw
                  case rel => exact ⟨i + 1, by go_num, by omega, HW⟩
                  case measure => simp [intOf]; omega
              · obtain rfl : i = jw := by omega
                have hwj2 := HLT.out.2.1
                have z0 := (HW.out.cell (p := ⟨g, o + i, none⟩) HGL.out).trans HX0.out
                by_cases hik : i < fk.length
                · have hik' : (i : Int) < (fk.length : Int) := by omega
                  obtain ⟨gk, ok, rfl, hgk, y00⟩ := HK.out i hik
                  have y0 := (HW.out.cell (p := ⟨gk, ok + i, none⟩) hgk).trans y00
                  clear y00
                  have hq := HWI.out i hik
                  rw [decide_eq_true (by omega)] at hq
                  obtain ⟨hx, hx2⟩ := leq_no hq
                  clear hq
                  go_wp2
                  go_roundw
                  case rel => exact ⟨j + 1, q, rfl, by go_num, by omega, BW, hid (by rw [HE.out, HSTEP.out])⟩
                  case measure => simp [intOf]; omega
                · have hik' : ¬ (i : Int) < (fk.length : Int) := by omega
                  go_wp2
                  go_roundw
                  case rel => exact ⟨j + 1, q, rfl, by go_num, by omega, BW, hid (by rw [HE.out, HSTEP.out])⟩
                  case measure => simp [intOf]; omega
        · have hl := HL2.out hde
          rw [hl] at HSTEP
          simp only at HSTEP
          rw [if_pos (by decide)] at HSTEP
          have hne : ((decR x).e == 0) = false := by simpa using hde
          have hne2 : ((decR x).e != 0) = true := by simpa using hde
          clear hl HL1 HL2 HRD
          go_wp2
          go_ret3
          rw [HE.out, HSTEP.out]
          exact ⟨rfl, B4.out⟩
    · have hle : ¬ (j : Int) < 20 := by omega
      have hz : 20 - j = 0 := by omega
      rw [hz] at HE
      go_wp2
      go_ret3
      rw [HE.out]
      exact ⟨rfl, HB.out⟩
end Tr
end Go.Proofs.YtoifhcmgeackdaaGreatDoor
