/-
  TreeReads: the walk of the statement.
-/
import Derived.Test.YtoifhcmgeackdaaGreatDoorChainLaid
import Derived.Test.YtoifhcmgeackdaaGreatDoorTreeRGet
import Derived.Test.YtoifhcmgeackdaaGreatDoorGrpTrTe
namespace Go.Proofs.YtoifhcmgeackdaaGreatDoor
open Go.RowKit
namespace Tr
open Sp (Hd hV Book getB putB zeros zeros_len)
open Num (hid)
open Mem (Bs bs tI tIs tS Chg ptr)
open Sh (ShL St Two Own h1 S0 Wf)
open Rf (La rnewS_any pf)
open Ch (Pf pV)
theorem val_at {w : World} {v : Value} {l : List Bs} (h : No.SAt w v l) : ∃ ao cap, v = .slice ao l.length cap ∧ ∀ j (hj : j < l.length), ∃ b o, ao = some ⟨b, o, none⟩ ∧ ∀ w', Below w.heap.size w w' → w'.cell? ⟨b, o + j, none⟩ = some (.string (bs l[j])) := by
  obtain ⟨ao, cap, h1, h2, h3, h4⟩ := No.SAt.ways1 h
  refine ⟨ao, cap, h1, fun j hj => ?_⟩
  obtain ⟨b, o, e1, e2, e3⟩ := h4 j hj
  exact ⟨b, o, e1, fun w' hb => (hb.cell (p := ⟨b, o + j, none⟩) e2).trans e3⟩
theorem same_str (v : Bs) : ((bs v).toList == (bs v).toList) = true := by simp
set_option maxRecDepth 100000 in
set_option maxHeartbeats 8000000 in
theorem reads_walk {w : World} (v0 : Value) (l : List Bs) (root : Int) (key : Bs) (hv : No.SAt w v0 l) (hroot : Wf root) : Calls Tryz.prog 3 #[v0, .int .i64 root, .string (bs key)] w fun e w' => e = .returned (.bool true) ∧ Below w.heap.size w w' := by
  have HS := hid hv
  have HAW := hid (fun w => awake_any w)
  have HRT := hid hroot
  obtain ⟨ao0, cap0, rfl, -⟩ := val_at hv
  obtain ⟨nl, hnl⟩ : ∃ nl, nl = l.length := ⟨_, rfl⟩
  have HNL := hid hnl
  rw [← hnl]
  clear hv hroot hnl
  go_enter Tryz.func3, Tryz.ntmps3
  go_wp2_with fail
  refine (HAW.out _).mono ?_
  rintro e w0 ⟨rfl, hb⟩
  have HB0 := hid hb
  have hval := val_at (HS.out.on hb)
  obtain ⟨ao1, cap1, e1, hcells⟩ := hval
  rw [← HNL.out] at e1
  cases e1
  have HVAL := hid hcells
  clear hb hcells HS
  go_wp2_with fail
  refine (ShL.new 60 (by decide) (by decide) (Below.refl _ _)).mono ?_
  rintro e w1 ⟨s, d, rfl, k1⟩
  have K1 := hid k1
  clear k1
  go_wp2_with fail
  refine (rnewS_any 60 (by decide) (by decide) w1).mono ?_
  rintro e w2 ⟨r, b, rfl, hA, hb⟩
  have L0 : Hid (La s d w0.heap.size w1.heap.size r b 60 w0 w2 0 h1 S0 h1 []) := hid (by
    have k2 := K1.out.kept hb
    refine ⟨k2, hA, ⟨K1.out.at'.lt.1, K1.out.at'.lt.2, K1.out.size⟩, fun n => ?_, ⟨rfl, rfl, rfl, rfl, rfl⟩, Nat.zero_le _⟩
    show none = pf h1 [] n
    unfold pf
    have e1 : h1.pages = 1 := rfl
    rw [if_neg (by omega)])
  generalize w1.heap.size = Nu at *
  clear hA hb K1
  go_wp2_with fail
  go_loopw [9] (fun iv wr => ∃ (i : Nat) (h : Hd) (S : St) (hr : Hd) (B : Book), iv = .int .i64 (i : Int) ∧ i ≤ nl ∧ i ≤ 12 ∧ Hid (La s d w0.heap.size Nu r b 60 w0 wr i h S hr B)) (fun iv _ => 12 - (intOf iv).toNat)
  case atStart => exact ⟨0, h1, S0, h1, [], rfl, Nat.zero_le _, Nat.zero_le _, L0⟩
  case round =>
    obtain ⟨i, h, S, hr, B, rfl, hi, hi4, HL⟩ := hrel
    by_cases hlt : i < nl ∧ i < 12
    · obtain ⟨hlt1, hlt2⟩ := hlt
      have hle1 : (i : Int) < nl := by omega
      have hle2 : (i : Int) < 12 := by omega
      obtain ⟨bv, ov, rfl, hcell⟩ := HVAL.out i (by have := HNL.out; omega)
      have HCELL := hid hcell
      clear hcell
      generalize l[i]'(by have := HNL.out; omega) = x at *
      obtain ⟨xf, hxf, hxl⟩ := Sh.full_data (bs x)
      have HFU := hid (fun w => Sh.full_any (bs x) w)
      rw [hxf] at HFU
      have HXL := hid hxl
      have H1 := hid (HL.out.newP (by omega) (by omega) (by decide))
      clear hxf hxl
      go_wp2_with fail
      refine H1.out.mono ?_
      rintro e w3 ⟨rfl, q1⟩
      have H2 := hid (HL.out.newR q1 (by omega) (by omega) (by decide))
      clear q1 H1
      go_wp2_with fail
      refine H2.out.mono ?_
      rintro e w4 ⟨rfl, q1, q2⟩
      have Q1 := hid q1
      have Q2 := hid q2
      have x0 := HCELL.out _ q1.be
      clear q1 q2 H2
      go_wp2_with fail
      refine (HFU.out _).mono ?_
      rintro e w5 ⟨rfl, hb⟩
      have H3 := hid (HL.out.putP (Q1.out.kept hb) (Q2.out.on hb) (by omega) xf HXL.out)
      clear hb x0
      go_wp2_with fail
      refine H3.out.mono ?_
      rintro e w6 ⟨rfl, q1, q2⟩
      have Q3 := hid q1
      have Q4 := hid q2
      have x0 := HCELL.out _ q1.be
      clear q1 q2 H3 Q1 Q2
      go_wp2_with fail
      refine (HFU.out _).mono ?_
      rintro e w7 ⟨rfl, hb⟩
      have H4 := hid (HL.out.putR (Q3.out.kept hb) (Q4.out.on hb) (by omega) HXL.out)
      clear hb x0
      go_wp2_with fail
      refine H4.out.mono ?_
      rintro e w8 ⟨rfl, q⟩
      have HQ := hid q
      clear q H4 Q3 Q4
      go_wp2
      go_roundw
      case rel => exact ⟨i + 1, _, _, _, _, by go_num, by omega, by omega, HQ⟩
      case measure => simp [intOf]; omega
    · have hstop : ¬ ((i : Int) < (nl : Int)) ∨ (((i : Int) < (nl : Int)) ∧ ¬ ((i : Int) < 12)) := by
        by_cases h1' : i < nl
        · exact Or.inr ⟨by omega, fun h2' => hlt ⟨h1', by omega⟩⟩
        · exact Or.inl (by omega)
      have LA := HL
      have HX : Hid (S.f = pf hr B) := hid (funext LA.out.eq)
      have HG := hid (get_any LA.out.sh (by decide) HRT.out key)
      obtain ⟨Y, hY⟩ : ∃ Y, Y = getM S.f key 20 root := ⟨_, rfl⟩
      have HYE := hid hY
      rw [← hY] at HG
      clear hY
      obtain ⟨⟨v, q⟩, er⟩ := Y
      unfold GetPost aV at HG
      simp only at HG
      have hrefl := same_str v
      rcases hstop with hs1 | ⟨hs1, hs2⟩
      all_goals
        go_wp2_with fail
        refine HG.out.mono ?_
        rintro e w3 ⟨rfl, k3, cc3⟩
        have RF3 := hid (LA.out.rf.apart cc3 (fun j hj e => by have := LA.out.lo; have e2 : Nu ≤ j := e; rcases hj with hj | hj <;> omega))
        have K3 := hid k3
        have HRG := hid (rtget_any RF3.out root key)
        rw [← HX.out, ← HYE.out] at HRG
        unfold aV at HRG
        simp only at HRG
        clear k3 cc3 HG
        go_wp2_with fail
        refine HRG.out.mono ?_
        rintro e w4 ⟨rfl, hb4⟩
        have KB := hid (HB0.out.trans ((K3.out.be.trans (hb4.mono K3.out.size)).mono HB0.out.size))
        clear hb4 HRG
        cases q
        all_goals
          go_wp2
          go_ret
          exact ⟨rfl, KB.out⟩
end Tr
end Go.Proofs.YtoifhcmgeackdaaGreatDoor
