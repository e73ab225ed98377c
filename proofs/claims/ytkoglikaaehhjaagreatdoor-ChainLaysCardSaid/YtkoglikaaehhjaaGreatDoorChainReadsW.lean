/-
  ChainReads: the walk of the statement.
-/
import Derived.Test.YtkoglikaaehhjaaGreatDoorChainLaid
import Derived.Test.YtkoglikaaehhjaaGreatDoorChainFailsW
namespace Go.Proofs.YtkoglikaaehhjaaGreatDoor
open Go.RowKit
namespace Rf
open Sp (Hd hV Book getB putB zeros zeros_len)
open Num (hid)
open Mem (Bs bs tI tIs tS Chg ptr)
open Sh (ShL St Two Own h1 S0)
open Ch (Pf ints cV cO pV valM tC)
theorem val_at {w : World} {v : Value} {l : List Bs} (h : No.SAt w v l) : ∃ ao cap, v = .slice ao l.length cap ∧ ∀ j (hj : j < l.length), ∃ b o, ao = some ⟨b, o, none⟩ ∧ ∀ w', Below w.heap.size w w' → w'.cell? ⟨b, o + j, none⟩ = some (.string (bs l[j])) := by
  obtain ⟨ao, cap, h1, h2, h3, h4⟩ := No.SAt.ways1 h
  refine ⟨ao, cap, h1, fun j hj => ?_⟩
  obtain ⟨b, o, e1, e2, e3⟩ := h4 j hj
  exact ⟨b, o, e1, fun w' hb => (hb.cell (p := ⟨b, o + j, none⟩) e2).trans e3⟩
def LaidPost (w : World) (e : Ending) (w' : World) : Prop := ∃ (s d Nu r b i : Nat) (h : Hd) (S : St) (hr : Hd) (B : Book), e = .returned (.tuple #[ptr s, ptr r]) ∧ i ≤ 40 ∧ La s d w.heap.size Nu r b 60 w w' i h S hr B
set_option maxRecDepth 100000 in
set_option maxHeartbeats 4000000 in
theorem laid_any {w : World} (v0 : Value) (l : List Bs) (hv : No.SAt w v0 l) : Calls Tryz.prog 8 #[v0] w (LaidPost w) := by
  obtain ⟨ao, cap, rfl, hval⟩ := val_at hv
  have HVAL := hid hval
  obtain ⟨nl, hnl⟩ : ∃ nl, nl = l.length := ⟨_, rfl⟩
  have HNL := hid hnl
  rw [← hnl]
  clear hval hv hnl
  go_enter Tryz.func8, Tryz.ntmps8
  go_wp2_with fail
  refine (ShL.new 60 (by decide) (by decide) (Below.refl _ _)).mono ?_
  rintro e w1 ⟨s, d, rfl, k1⟩
  have K1 := hid k1
  clear k1
  go_wp2_with fail
  refine (rnewS_any 60 (by decide) (by decide) w1).mono ?_
  rintro e w2 ⟨r, b, rfl, hA, hb⟩
  have L0 : Hid (La s d w.heap.size w1.heap.size r b 60 w w2 0 h1 S0 h1 []) := hid (by
    have k2 := K1.out.kept hb
    refine ⟨k2, hA, ⟨K1.out.at'.lt.1, K1.out.at'.lt.2, K1.out.size⟩, fun n => ?_, ⟨rfl, rfl, rfl, rfl, rfl⟩, Nat.zero_le _⟩
    show none = pf h1 [] n
    unfold pf
    have e1 : h1.pages = 1 := rfl
    rw [if_neg (by omega)])
  generalize w1.heap.size = Nu at *
  clear hA hb K1
  go_wp2_with fail
  go_loopw [6] (fun iv wr => ∃ (i : Nat) (h : Hd) (S : St) (hr : Hd) (B : Book), iv = .int .i64 (i : Int) ∧ i ≤ nl ∧ i ≤ 40 ∧ Hid (La s d w.heap.size Nu r b 60 w wr i h S hr B)) (fun iv _ => 40 - (intOf iv).toNat)
  case atStart => exact ⟨0, h1, S0, h1, [], rfl, Nat.zero_le _, Nat.zero_le _, L0⟩
  case round =>
    obtain ⟨i, h, S, hr, B, rfl, hi, hi4, HL⟩ := hrel
    by_cases hlt : i < nl ∧ i < 40
    · obtain ⟨hlt1, hlt2⟩ := hlt
      have hle1 : (i : Int) < nl := by omega
      have hle2 : (i : Int) < 40 := by omega
      obtain ⟨bv, ov, rfl, hcell⟩ := HVAL.out i (by have := HNL.out; omega)
      have HCELL := hid hcell
      clear hcell
      generalize l[i]'(by have := HNL.out; omega) = x at *
      obtain ⟨xf, hxf, hxl⟩ := Sh.full_data (bs x)
      have HFU := hid (fun w => Sh.full_any (bs x) w)
      rw [hxf] at HFU
      have HXL := hid hxl
      have H1 := hid (HL.out.newP (by omega) (by omega) (by decide))
      clear hxf hxl
      go_wp2_with fail
      refine H1.out.mono ?_
      rintro e w3 ⟨rfl, q1⟩
      have H2 := hid (HL.out.newR q1 (by omega) (by omega) (by decide))
      clear q1 H1
      go_wp2_with fail
      refine H2.out.mono ?_
      rintro e w4 ⟨rfl, q1, q2⟩
      have Q1 := hid q1
      have Q2 := hid q2
      have x0 := HCELL.out _ q1.be
      clear q1 q2 H2
      go_wp2_with fail
      refine (HFU.out _).mono ?_
      rintro e w5 ⟨rfl, hb⟩
      have H3 := hid (HL.out.putP (Q1.out.kept hb) (Q2.out.on hb) (by omega) xf HXL.out)
      clear hb x0
      go_wp2_with fail
      refine H3.out.mono ?_
      rintro e w6 ⟨rfl, q1, q2⟩
      have Q3 := hid q1
      have Q4 := hid q2
      have x0 := HCELL.out _ q1.be
      clear q1 q2 H3 Q1 Q2
      go_wp2_with fail
      refine (HFU.out _).mono ?_
      rintro e w7 ⟨rfl, hb⟩
      have H4 := hid (HL.out.putR (Q3.out.kept hb) (Q4.out.on hb) (by omega) HXL.out)
      clear hb x0
      go_wp2_with fail
      refine H4.out.mono ?_
      rintro e w8 ⟨rfl, q⟩
      have HQ := hid q
      clear q H4 Q3 Q4
      go_wp2
      go_roundw
      case rel => exact ⟨i + 1, _, _, _, _, by go_num, by omega, by omega, HQ⟩
      case measure => simp [intOf]; omega
    · have hstop : ¬ ((i : Int) < (nl : Int)) ∨ (((i : Int) < (nl : Int)) ∧ ¬ ((i : Int) < 40)) := by
        by_cases h1' : i < nl
        · exact Or.inr ⟨by omega, fun h2' => hlt ⟨h1', by omega⟩⟩
        · exact Or.inl (by omega)
      rcases hstop with hs1 | ⟨hs1, hs2⟩
      all_goals
        go_wp2
        go_ret2
        exact ⟨s, d, Nu, r, b, i, h, S, hr, B, rfl, hi4, HL.out⟩
/-! ### same -/
theorem pg_cell {base : Nat} {w : World} {v : Value} {pg : List Int} (o : Pg base w v pg) : ∃ ao cap, v = .slice ao pg.length cap ∧ ∀ j (hj : j < pg.length), ∃ g, ao = some ⟨g, 0, none⟩ ∧ g < w.heap.size ∧ w.cell? ⟨g, j, none⟩ = some (.int .i64 pg[j]) := by
  obtain ⟨ao, cap, rfl, h2⟩ := Mem.row_shape o.row
  refine ⟨ao, cap, rfl, fun j hj => ?_⟩
  obtain ⟨g, rfl, hg⟩ := h2 (by omega)
  refine ⟨g, rfl, hg, ?_⟩
  rw [o.row.cellAt j (by omega)]
  simp
set_option maxRecDepth 100000 in
set_option maxHeartbeats 2000000 in
theorem same_any {w : World} (ao ao2 : Option Addr) (cap cap2 : Nat) (l : List Int) (hl : l.length ≤ 1000) (h1 : ∀ j (hj : j < l.length), ∃ g, ao = some ⟨g, 0, none⟩ ∧ g < w.heap.size ∧ w.cell? ⟨g, j, none⟩ = some (.int .i64 l[j])) (h2 : ∀ j (hj : j < l.length), ∃ g, ao2 = some ⟨g, 0, none⟩ ∧ g < w.heap.size ∧ w.cell? ⟨g, j, none⟩ = some (.int .i64 l[j])) :
    Calls Tryz.prog 12 #[.slice ao l.length cap, .slice ao2 l.length cap2] w fun e w' => e = .returned (.bool true) ∧ Below w.heap.size w w' := by
  have H1 := hid h1
  have H2 := hid h2
  obtain ⟨nl, hnl⟩ : ∃ nl, nl = l.length := ⟨_, rfl⟩
  have HNL := hid hnl
  rw [← hnl]
  clear h1 h2
  have hn2 : nl ≤ 1000 := by omega
  clear hnl hl
  go_enter Tryz.func12, Tryz.ntmps12
  go_wp2_with fail
  go_loopw [5] (fun iv wr => ∃ j : Nat, iv = .int .i64 (j : Int) ∧ j ≤ nl ∧ Hid (Below w.heap.size w wr)) (fun iv _ => nl - (intOf iv).toNat)
  case atStart => exact ⟨0, rfl, Nat.zero_le _, hid (Below.refl _ _)⟩
  case round =>
    obtain ⟨j, rfl, hj, HB⟩ := hrel
    by_cases hlt : j < nl
    · have hle : (j : Int) < (nl : Int) := by omega
      obtain ⟨g, rfl, hg, c1⟩ := H1.out j (by have := HNL.out; omega)
      obtain ⟨g2, rfl, hg2, c2⟩ := H2.out j (by have := HNL.out; omega)
      have d1 := (HB.out.cell (p := ⟨g, j, none⟩) hg).trans c1
      have d2 := (HB.out.cell (p := ⟨g2, j, none⟩) hg2).trans c2
      clear c1 c2 hg hg2
      generalize l[j]'(by have := HNL.out; omega) = y at *
      go_wp2_with fail
      go_quiet (fail)
      rename_i nq
      have HB2 := hid (Sp.below_drewN HB.out nq)
      go_wp2
      go_roundw
      case rel => exact ⟨j + 1, by go_num, by omega, HB2⟩
      case measure => simp [intOf]; omega
    · have hle : ¬ (j : Int) < (nl : Int) := by omega
      go_wp2
      go_ret
      exact ⟨rfl, HB.out⟩
/-! ### the walk -/
theorem rd_len (f : Pf) : ∀ (k : Nat) (n : Int) (left : Nat) (acc : Bs) (pg : List Int), (Ch.rdM f k n left acc pg).1.2.length ≤ pg.length + k
  | 0, _, _, _, pg => Nat.le_refl _
  | k + 1, n, left, acc, pg => by
    unfold Ch.rdM
    split
    · exact Nat.le_add_right _ _
    · split
      · exact Nat.zero_le _
      · split
        · exact Nat.zero_le _
        · rename_i p nx _
          have := rd_len f k nx (left - p.length) (acc ++ p) (pg ++ [n])
          rw [List.length_append, List.length_singleton] at this
          omega
theorem val_len (f : Pf) (c : No.C) : (valM f c).1.2.length ≤ 23 := by
  unfold Ch.valM
  split
  · split
    · exact Nat.zero_le _
    · have := rd_len f 23 c.p c.z.toNat [] []
      simpa using this
  · exact Nat.zero_le _
theorem fst_of {f : Pf} {c : No.C} {val xv : Bs} {pg xp : List Int} {er xe arm : Int} (h : valM f c = ((xv, xp), xe)) (ha : arm < 1) (o : ((val, pg), er) = valM f c ∨ (1 ≤ arm ∧ val = [] ∧ pg = [] ∧ er = 11 ∧ No.okC c = true ∧ 40 < c.z)) : val = xv ∧ pg = xp ∧ er = xe := by
  rcases o with o | o
  · rw [h] at o
    simp only [Prod.mk.injEq] at o
    exact ⟨o.1.1, o.1.2, o.2⟩
  · omega
set_option maxRecDepth 100000 in
set_option maxHeartbeats 8000000 in
theorem reads_walk {w : World} (v0 : Value) (l : List Bs) (c : No.C) (hv : No.SAt w v0 l) : Calls Tryz.prog 3 #[v0, cV c] w fun e w' => e = .returned (.bool true) ∧ Below w.heap.size w w' := by
  have hA1 : Below w.heap.size w (w.alloc (cO c)) := (Below.refl w.heap.size w).alloc (Nat.le_refl _) _
  have HA1 := hid hA1
  have hbx := Mem.blk_new w (cO c)
  have HBX := hid hbx
  have HS := hid hv
  have HAW := hid (fun w => Ch.awake_any w)
  obtain ⟨ao, cap, rfl, -⟩ := val_at hv
  clear hA1 hbx hv
  go_enter Tryz.func3, Tryz.ntmps3
  go_wp2_with fail
  refine (HAW.out _).mono ?_
  rintro e w1 ⟨rfl, hb⟩
  have hb1 := HA1.out.trans (hb.mono HA1.out.size)
  have HB1 := hid hb1
  have BX1 := hid ((hb.block _ (lt_of_block HBX.out)).trans HBX.out)
  have HL := hid (laid_any _ l (HS.out.on hb1))
  clear hb hb1
  go_wp2_with fail
  refine HL.out.mono ?_
  rintro e w2 ⟨s, d, Nu, r, b, i, h, S, hr, B, rfl, hi, la⟩
  have LA := hid la
  have HBB := hid (And.intro (lt_of_block BX1.out) la.sh.be)
  have bx2 : w2.heap[w.heap.size]? = some (.cells #[.int .i64 c.z, .string (bs c.d), .int .i64 c.p] tC (0, 0)) := (la.sh.be.block _ (lt_of_block BX1.out)).trans BX1.out
  have hne : w.heap.size ≠ s ∧ w.heap.size ≠ d := by
    have h1 := lt_of_block BX1.out
    have h2 := la.sh.ns
    have h3 := la.sh.nd
    omega
  have HNE := hid hne
  have BX2 := hid bx2
  have HX : Hid (S.f = pf hr B) := hid (funext la.eq)
  have hlen := val_len S.f c
  obtain ⟨xv, xp, xe, hval⟩ : ∃ xv xp xe, valM S.f c = ((xv, xp), xe) := ⟨_, _, _, rfl⟩
  rw [hval] at hlen
  have HVAL := hid hval
  have hxp : xp.length ≤ 23 := hlen
  have HXP := hid hxp
  have HV := hid (Ch.value_any la.sh (by decide) c)
  clear la bx2 hne hlen hval hxp HL
  obtain ⟨c0, c1, c2⟩ := Ch.bx_cells BX2.out
  go_wp2_with fail
  refine HV.out.mono ?_
  rintro e w3 ⟨val, pg, er, arm3, rfl, k3, cc3, ha3, -, hv⟩
  obtain ⟨rfl, -, rfl⟩ := fst_of HVAL.out (by decide) hv
  obtain rfl := ha3 (by decide)
  have BX3 := hid (Ch.bx_turned BX2.out cc3 HNE.out)
  have RF3 := hid (LA.out.rf.apart cc3 (fun j hj e => by have := LA.out.lo; have e2 : Nu ≤ j := e; rcases hj with hj | hj <;> omega))
  have HLI := hid (Ch.list_any k3 (by decide) c)
  clear c0 c1 c2 hv ha3 k3 cc3 HV
  obtain ⟨c0, c1, c2⟩ := Ch.bx_cells BX3.out
  go_wp2_with fail
  refine HLI.out.mono ?_
  rintro e w4 ⟨val2, pg2, er2, pv, arm4, rfl, k4, cc4, ho, -, ha4, -, hv⟩
  obtain ⟨-, rfl, rfl⟩ := fst_of HVAL.out (by decide) hv
  obtain rfl := ha4 (by decide)
  have BX4 := hid (Ch.bx_turned BX3.out cc4 HNE.out)
  have RF4 := hid (RF3.out.apart cc4 (fun j hj e => by have := LA.out.lo; have e2 : Nu ≤ j := e; rcases hj with hj | hj <;> omega))
  have O4 := hid ho
  have K4 := hid k4
  have HRV := hid (rvalue_any RF4.out c)
  obtain ⟨ao4, cap4, rfl, -⟩ := Ch.own_cell ho
  clear c0 c1 c2 hv ha4 k4 cc4 HLI ho
  obtain ⟨c0, c1, c2⟩ := Ch.bx_cells BX4.out
  go_wp2_with fail
  refine HRV.out.mono ?_
  rintro e w5 ⟨val3, pg3, er3, pv3, rfl, hb5, hpg, hv⟩
  rw [← HX.out, HVAL.out] at hv
  simp only [Prod.mk.injEq] at hv
  obtain ⟨⟨rfl, rfl⟩, rfl⟩ := hv
  obtain ⟨ao5, cap5, rfl, hc5⟩ := pg_cell hpg
  obtain ⟨ao6, cap6, e6, hc6⟩ := Ch.own_cell (O4.out.on hb5)
  cases e6
  have HSM := hid (same_any ao4 ao5 cap4 cap5 pg3 (by have := HXP.out; omega) hc6 hc5)
  have K5 := hid (HB1.out.trans (((K4.out.be.trans (hb5.mono K4.out.size))).mono HB1.out.size))
  have hrefl := Ch.str_refl (bs val3)
  clear c0 c1 c2 hb5 hpg hc5 hc6 HRV
  go_wp2_with fail
  refine HSM.out.mono ?_
  rintro e w6 ⟨rfl, hb6⟩
  have K6 := hid (K5.out.trans (hb6.mono K5.out.size))
  clear hb6 HSM
  go_wp2
  go_ret
  exact ⟨rfl, K6.out⟩
end Rf
end Go.Proofs.YtkoglikaaehhjaaGreatDoor
