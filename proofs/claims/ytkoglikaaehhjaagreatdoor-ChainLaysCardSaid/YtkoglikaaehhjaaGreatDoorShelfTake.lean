/-
  The shelf's pages: contract of the project's Take.
-/
import Derived.Test.YtkoglikaaehhjaaGreatDoorGrpShA
import Derived.Test.YtkoglikaaehhjaaGreatDoorGrpSpC
namespace Go.Proofs.YtkoglikaaehhjaaGreatDoor
open Go.RowKit
namespace Sh
open Sp
open Num (hid)
open Mem (Bs bs IAt tI tS tIs tSs Chg Row ptr blk_cell blk_free blk_new blk_set blk_other blk_alloc row_kept row_shape row_type)
variable {R : Nat → Prop} {w : World} {d b : Nat} {S : St}
def TakeGives (R : Nat → Prop) (d b : Nat) (x : (Int × Hd × Int) × St) (w w' : World) (e : Ending) : Prop := e = .returned (takeV x.1) ∧ DeskR R w' d b x.2 ∧ Chg R w w'
theorem DeskR.drew {w : World} (h : DeskR R w d b S) : DeskR R w.drew d b S := h.on (Below.refl _ _).drew
theorem tk_new {h : Hd} (k : h.spare = 0) : takeM h S = (takeNew h, S) := if_pos k
theorem tk_old {h : Hd} (k : ¬ h.spare = 0) : takeM h S = takeOf h (trunkAt S h.trunk) := if_neg k
theorem to_err {h : Hd} {T : Tr} {e : Int} {S1 : St} (k : ¬ e = 0) : takeOf h ((T, e), S1) = ((0, hd0, e), S1) := if_pos k
theorem to_bad {h : Hd} {T : Tr} {S1 : St} (k : badT h T = true) : takeOf h ((T, 0), S1) = ((0, hd0, 30), S1) := by unfold takeOf; rw [if_neg (fun e => e rfl), if_pos k]
theorem to_none {h : Hd} {T : Tr} {S1 : St} (k : badT h T = false) (k2 : T.list.length = 0) : takeOf h ((T, 0), S1) = (takeTrunk h T.next, S1) := by unfold takeOf; rw [if_neg (fun e => e rfl), if_neg (by simpa using k), if_pos k2]
theorem to_some {h : Hd} {T : Tr} {S1 : St} (k : badT h T = false) (k2 : ¬ T.list.length = 0) : takeOf h ((T, 0), S1) = if (putTrunk S1 h.trunk ⟨T.next, T.list.dropLast⟩).1 ≠ 0 then ((0, hd0, (putTrunk S1 h.trunk ⟨T.next, T.list.dropLast⟩).1), (putTrunk S1 h.trunk ⟨T.next, T.list.dropLast⟩).2)
  else ((T.list.getLastD 0, { h with spare := h.spare - 1 }, 0), (putTrunk S1 h.trunk ⟨T.next, T.list.dropLast⟩).2) := by unfold takeOf; rw [if_neg (fun e => e rfl), if_neg (by simpa using k), if_neg k2]
theorem boxes (h : DeskR R w d b S) (hR : ∀ k, w.heap.size ≤ k → R k) (hd : Hd) : ∃ z, z = (w.alloc (.cells #[.int .i64 hd.mode, .int .i64 hd.pages, .int .i64 hd.trunk, .int .i64 hd.spare, .int .i64 hd.root, .int .u64 (hd.change : Nat)] tH)).alloc zObj ∧ z.heap.size = w.heap.size + 2 ∧ Hb w.heap.size hd z ∧ Hb (w.heap.size + 1) hd0 z ∧ Below w.heap.size w z ∧ DeskR (Since R w z) z d b S ∧
    (∀ k, Since R w z k → R k) ∧ ¬ Since R w z w.heap.size ∧ ¬ Since R w z (w.heap.size + 1) := by
  obtain ⟨h1, h2, h3⟩ := two_heads w hd hd0
  refine ⟨_, rfl, by simp, h1, h2, h3, h.since h3, Since.old hR h3.size, Since.no (Nat.le_refl _) (by simp; omega), Since.no (Nat.le_succ _) (by simp)⟩
theorem small_put {c : Nat} {S : St} (h : Small c S) (n : Int) (x : Bs) : Small (c + 1) (S.put n x).2 := by
  unfold St.put
  unfold Small at *
  split
  · split
    · exact Nat.le_succ_of_le h
    · exact Nat.succ_le_succ h
  · exact Nat.le_succ_of_le h
theorem tat_st (S : St) (n : Int) : (trunkAt S n).2 = S := by
  unfold trunkAt
  split
  · exact get_st S n
  · split
    · exact get_st S n
    · exact get_st S n
theorem small_tat {c : Nat} {S : St} (h : Small c S) (n : Int) : Small (c + 1) (trunkAt S n).2 := by
  rw [tat_st]
  exact h.more (Nat.le_succ _)
theorem small_ptr {c : Nat} {S : St} (h : Small c S) (n : Int) (t : Tr) : Small (c + 1) (putTrunk S n t).2 := by
  unfold putTrunk
  split
  · exact small_put h n _
  · exact h.more (Nat.le_succ _)
theorem take_fin {Q : Nat → Prop} {w7 : World} {S2 : St} (hd : Hd) (D7 : DeskR Q w7 d b S2) (hQ : ∀ k, Q k → R k) (h1 : ¬ Q w.heap.size) (h2 : ¬ Q (w.heap.size + 1)) (C7 : Chg R w w7) (R7 : Hb (w.heap.size + 1) hd0 w7) (s : Int) :
    ((tkW w7 w.heap.size hd s).cell? ⟨w.heap.size + 1, 0, none⟩ = some (.int .i64 hd.mode) ∧ (tkW w7 w.heap.size hd s).cell? ⟨w.heap.size + 1, 1, none⟩ = some (.int .i64 hd.pages) ∧ (tkW w7 w.heap.size hd s).cell? ⟨w.heap.size + 1, 2, none⟩ = some (.int .i64 hd.trunk) ∧ (tkW w7 w.heap.size hd s).cell? ⟨w.heap.size + 1, 3, none⟩ = some (.int .i64 s) ∧ (tkW w7 w.heap.size hd s).cell? ⟨w.heap.size + 1, 4, none⟩ = some (.int .i64 hd.root) ∧ (tkW w7 w.heap.size hd s).cell? ⟨w.heap.size + 1, 5, none⟩ = some (.int .u64 (hd.change : Nat))) ∧
    Chg R w (tkW w7 w.heap.size hd s) ∧ DeskR R (tkW w7 w.heap.size hd s) d b S2 := by
  have R8 := R7.other (i := 3) (show w.heap.size + 1 ≠ w.heap.size by omega) (.int .i64 s)
  have H := R8.put ⟨hd.mode, hd.pages, hd.trunk, s, hd.root, hd.change⟩
  have C := chg_put6 (C7.setCell (p := ⟨w.heap.size, 3, none⟩) (Or.inl (Nat.le_refl _)) (.int .i64 s)) (r := w.heap.size + 1) (Or.inl (Nat.le_succ _)) ⟨hd.mode, hd.pages, hd.trunk, s, hd.root, hd.change⟩
  have D := desk_put6 (D7.set h1 3 (.int .i64 s)) h2 ⟨hd.mode, hd.pages, hd.trunk, s, hd.root, hd.change⟩
  exact ⟨H.drew.cells, C.drew, (D.wide hQ).drew⟩
theorem tat_okT (S : St) (n : Int) (h : (trunkAt S n).1.2 = 0) : okT (trunkAt S n).1.1 = true := by
  unfold trunkAt at h ⊢
  split at h
  · rename_i h1; exact absurd h h1
  · rename_i h1
    rw [if_neg h1]
    split at h
    · cases h
    · rename_i h2
      rw [if_neg h2]
      exact (dec_ok (by simpa using h2)).1
set_option maxRecDepth 100000 in
set_option maxHeartbeats 2000000 in
theorem take_any (h : DeskR R w d b S) (hR : ∀ k, w.heap.size ≤ k → R k) {c : Nat} (hS : Small c S) (hc : c ≤ 40000) (hd : Hd) (hf : Fit hd) :
    Calls Tryz.prog 42 #[hV hd, dkV d] w fun e w' => TakeGives R d b (takeM hd S) w w' e := by
  obtain ⟨z, hz, hzs, Z1, Z2, Z3, Z4, Z5, Z6, Z7⟩ := boxes h hR hd
  have HZ := hid hz
  have HZ1 := hid Z1
  have HZ2 := hid Z2
  have HZ3 := hid Z3
  have HZ4 := hid Z4
  have HZ5 := hid Z5
  have HZ6 := hid Z6
  have HZ7 := hid Z7
  have hwf : Wf hd.trunk := wf_of (by unfold Fit at hf; omega) (by unfold Fit at hf; omega)
  have HWF := hid hwf
  have HTN := hid (takenew_any hd hf)
  have HTT := hid (taketrunk_any hd hf)
  have HTA := hid (trunkat_any Z4 (fun k hk => Or.inr hk) hS (by omega) hd.trunk hwf)
  have HDR := hid h
  have hsp : wrap64 (hd.spare - 1) = hd.spare - 1 := by unfold Fit at hf; rw [Num.wrap_i]; omega
  obtain ⟨a0, a1, a2, a3, a4, a5⟩ := Z1.cells
  obtain ⟨r0, r1, r2, r3, r4, r5⟩ := Z2.cells
  obtain ⟨s0, s1, s2, s3, s4, s5⟩ := Z2.free
  have hl1 := Z1.lt
  have hl2 := Z2.lt
  clear Z1 Z2 Z3 Z4 Z5 Z6 Z7 h hf hwf
  by_cases h0 : hd.spare = 0
  · rw [tk_new h0]
    have h0' : (hd.spare == 0) = true := by simpa using h0
    generalize takeNew hd = X at *
    obtain ⟨xn, xh, xe⟩ := X
    unfold takeV hV at *
    clear h0 HTT HTA hS hR
    go_enter Tryz.func42, Tryz.ntmps42
    go_wp2_with fail
    rw [← HZ.out]
    refine (HTN.out _).mono ?_
    rintro e w3 ⟨rfl, hb⟩
    have Z2b := hid (HZ2.out.on hb)
    have CF : Hid (Chg R w (put6 w3 (w.heap.size + 1) xh)) := hid (chg_put6 ((Chg.of_below HZ3.out).trans (Chg.of_below hb)) (Or.inl (Nat.le_succ _)) xh)
    have DF : Hid (DeskR R (put6 w3 (w.heap.size + 1) xh) d b S) := hid ((desk_put6 (HZ4.out.on hb) HZ7.out xh).wide HZ5.out)
    have HF := hid (Z2b.out.put xh)
    clear hb a0 a1 a2 a3 a4 a5 r0 r1 r2 r3 r4 r5 s0 s1 s2 s3 s4 s5 hl1 hl2
    obtain ⟨r0, r1, r2, r3, r4, r5⟩ := Z2b.out.cells
    obtain ⟨s0, s1, s2, s3, s4, s5⟩ := Z2b.out.free
    have hl2 := Z2b.out.lt
    go_wp2
    obtain ⟨x0, x1, x2, x3, x4, x5⟩ := HF.out.cells
    refine @bodyPost_ret Tryz.prog Tryz.f42 (fun e w' => TakeGives R d b ((xn, xh, xe), S) w w' e) _ _ (takeV (xn, xh, xe)) ?_ ?_ ?_
    · simp [results, takeV, hV, go_sem, x0, x1, x2, x3, x4, x5]
    · rfl
    · exact ⟨rfl, DF.out, CF.out⟩
  · rw [tk_old h0]
    have h0' : (hd.spare == 0) = false := by simpa using h0
    have HOK : Hid ((trunkAt S hd.trunk).1.2 = 0 → okT (trunkAt S hd.trunk).1.1 = true) := hid (tat_okT S hd.trunk)
    have HSM : Hid (Small (c + 1) (trunkAt S hd.trunk).2) := hid (small_tat hS hd.trunk)
    generalize hX : trunkAt S hd.trunk = X at *
    obtain ⟨⟨T, e1⟩, S1⟩ := X
    simp only at HOK HSM
    generalize hY : takeOf hd ((T, e1), S1) = Y at *
    have HY := hid hY
    clear hY
    generalize hQ : Since R w z = Q at *
    unfold takeV hV at *
    have HW := hid hR
    clear h0 HTN hR hX hQ
    go_enter Tryz.func42, Tryz.ntmps42
    go_wp2_with fail
    rw [← HZ.out]
    refine HTA.out.mono ?_
    rintro e w3 ⟨⟨lv, N, rfl, -, hrow, hd3n⟩, hc3⟩
    have hd3 := hd3n.wide (R := Q) (fun k e => e.1)
    clear hd3n
    obtain ⟨ao, cap, rfl⟩ := hrow.shape
    unfold trV
    simp only at hrow hd3 ⊢
    have L3 := hid hrow
    have D3 := hid hd3
    have A3 := hid (HZ1.out.at hc3 HZ6.out)
    have R3 := hid (HZ2.out.at hc3 HZ7.out)
    have C3 := hid ((Chg.of_below HZ3.out).trans (hc3.mono (fun k _ e => HZ5.out k e)))
    have hB4 : Below w3.heap.size w3 (w3.alloc (tObj T.next (.slice ao T.list.length cap))) := (Below.refl w3.heap.size w3).alloc (Nat.le_refl _) _
    have U4 := hid (Tb.new T.next (.slice ao T.list.length cap) w3)
    have L4 := hid (L3.out.on hB4)
    have D4 : Hid (DeskR (fun k => Q k ∧ k < w3.heap.size) (w3.alloc (tObj T.next (.slice ao T.list.length cap))) d b S1) := hid ((D3.out.mono (fun g hg e => ⟨e, hg⟩)).on hB4)
    have N6 : Hid (¬ (Q w.heap.size ∧ w.heap.size < w3.heap.size)) := hid (fun e => HZ6.out e.1)
    have N7 : Hid (¬ (Q (w.heap.size + 1) ∧ w.heap.size + 1 < w3.heap.size)) := hid (fun e => HZ7.out e.1)
    have NO : Hid (∀ k, Q k ∧ k < w3.heap.size → R k) := hid (fun k e => HZ5.out k e.1)
    have SM : Hid (Small (c + 1) S1) := hid HSM.out
    have A4 := hid (A3.out.on hB4)
    have R4 := hid (R3.out.on hB4)
    have C4 := hid (C3.out.trans (Chg.of_below hB4))
    have hz4 : w3.heap.size < (w3.alloc (tObj T.next (.slice ao T.list.length cap))).heap.size := by simp
    have hz3 : w.heap.size + 2 ≤ w3.heap.size := by have := hc3.size; omega
    have HZL := hid hz4
    have HZM := hid hz3
    clear hrow hd3 hc3 a0 a1 a2 a3 a4 a5 r0 r1 r2 r3 r4 r5 s0 s1 s2 s3 s4 s5 hl1 hl2 hB4 hz4 hz3 L3 D3 A3 R3 C3
    go_upto_region 4 with fail
    generalize w3.alloc (tObj T.next (.slice ao T.list.length cap)) = w4 at *
    obtain ⟨u0, u1⟩ := U4.out.cells
    obtain ⟨a0, a1, a2, a3, a4, a5⟩ := A4.out.cells
    obtain ⟨r0, r1, r2, r3, r4, r5⟩ := R4.out.cells
    obtain ⟨s0, s1, s2, s3, s4, s5⟩ := R4.out.free
    have hl1 := A4.out.lt
    have hl2 := R4.out.lt
    have hl3 := U4.out.lt
    have CZ : Hid (Chg R w (put6z w4 (w.heap.size + 1))) := hid (chg_put6z C4.out (Or.inl (Nat.le_succ _)))
    have DZ : Hid (DeskR R (put6z w4 (w.heap.size + 1)) d b S1) := hid ((desk_put6z D4.out N7.out).wide NO.out)
    have RZ : Hid (Hb (w.heap.size + 1) hd0 (put6z w4 (w.heap.size + 1))) := hid R4.out.zero
    have CQ : Hid (∀ q, Chg R w (put6z (w4.drewN q) (w.heap.size + 1))) := hid (fun q => chg_put6z (C4.out.drewN q) (Or.inl (Nat.le_succ _)))
    have DQ : Hid (∀ q, DeskR R (put6z (w4.drewN q) (w.heap.size + 1)) d b S1) := hid (fun q => (desk_put6z (D4.out.on (below_drewN (Below.refl _ _) q)) N7.out).wide NO.out)
    have RQ : Hid (∀ q, Hb (w.heap.size + 1) hd0 (put6z (w4.drewN q) (w.heap.size + 1))) := hid (fun q => (R4.out.on (below_drewN (Below.refl _ _) q)).zero)
    by_cases h1 : e1 = 0
    · subst h1
      by_cases hb1 : hd.pages ≤ T.next
      · have hy := HY.out
        rw [to_bad (bad_next hb1)] at hy
        subst hy
        clear HY
        go_wp2_with fail
        go_quiet (fail)
        go_wp2
        have X0 := fun q => (RQ.out q).zeros.1
        have X1 := fun q => (RQ.out q).zeros.2.1
        have X2 := fun q => (RQ.out q).zeros.2.2.1
        have X3 := fun q => (RQ.out q).zeros.2.2.2.1
        have X4 := fun q => (RQ.out q).zeros.2.2.2.2.1
        have X5 := fun q => (RQ.out q).zeros.2.2.2.2.2
        refine @bodyPost_ret Tryz.prog Tryz.f42 (fun e w' => TakeGives R d b ((0, hd0, 30), S1) w w' e) _ _ (takeV (0, hd0, 30)) ?_ ?_ ?_
        · simp [results, takeV, hV, hd0, go_sem, X0, X1, X2, X3, X4, X5]
        · rfl
        · exact ⟨rfl, DQ.out _, CQ.out _⟩
      · obtain ⟨len, hlen⟩ : ∃ x, T.list.length = x := ⟨_, rfl⟩
        rw [hlen] at u1 ⊢
        have hok := HOK.out rfl
        have hle := ((okT_iff T).1 hok).2.1
        have hg1 : decide (hd.pages ≤ T.next) = false := decide_eq_false hb1
        by_cases hn : len = 0
        · subst hn
          have hy := HY.out
          rw [to_none (bad_none hb1 hlen) hlen] at hy
          generalize hN : takeTrunk hd T.next = N at *
          have HTTx := hid (HTT.out T.next)
          rw [hN] at HTTx
          obtain ⟨xn, xh, xe⟩ := N
          subst hy
          rw [hlen] at L4 U4
          clear HY hlen hle hok hN HTT
          go_wp2_with fail
          go_quiet (fail)
          rename_i nq
          have hbq := below_drewN (Below.refl w4.heap.size w4) nq
          have U5 := hid (U4.out.on hbq)
          have A5 := hid (A4.out.on hbq)
          have R5 := hid (R4.out.on hbq)
          have D5 := hid (D4.out.on hbq)
          have C5 := hid (C4.out.drewN nq)
          have L5 := hid (L4.out.on hbq)
          have hz5 : w4.heap.size = (w4.drewN nq).heap.size := rfl
          clear hbq u0 u1 a0 a1 a2 a3 a4 a5 r0 r1 r2 r3 r4 r5 s0 s1 s2 s3 s4 s5 hl1 hl2 hl3 CZ DZ RZ CQ DQ RQ
          generalize w4.drewN nq = w5 at *
          obtain ⟨u0, u1⟩ := U5.out.cells
          obtain ⟨v0, v1⟩ := U5.out.free
          obtain ⟨a0, a1, a2, a3, a4, a5⟩ := A5.out.cells
          obtain ⟨q0, q1, q2, q3, q4, q5⟩ := A5.out.free
          obtain ⟨r0, r1, r2, r3, r4, r5⟩ := R5.out.cells
          obtain ⟨s0, s1, s2, s3, s4, s5⟩ := R5.out.free
          have hl1 := A5.out.lt
          have hl2 := R5.out.lt
          have hl3 := U5.out.lt
          go_wp2_with fail
          refine (HTTx.out _).mono ?_
          rintro e w6 ⟨rfl, hb⟩
          have R6 := hid (R5.out.on hb)
          have CF : Hid (Chg R w (put6 w6 (w.heap.size + 1) xh)) := hid (chg_put6 (C5.out.trans (Chg.of_below hb)) (Or.inl (Nat.le_succ _)) xh)
          have DF : Hid (DeskR R (put6 w6 (w.heap.size + 1) xh) d b S1) := hid ((desk_put6 (D5.out.on hb) N7.out xh).wide NO.out)
          have HF := hid (R6.out.put xh)
          clear hb u0 u1 v0 v1 a0 a1 a2 a3 a4 a5 q0 q1 q2 q3 q4 q5 r0 r1 r2 r3 r4 r5 s0 s1 s2 s3 s4 s5 hl1 hl2 hl3
          obtain ⟨r0, r1, r2, r3, r4, r5⟩ := R6.out.cells
          obtain ⟨s0, s1, s2, s3, s4, s5⟩ := R6.out.free
          have hl2 := R6.out.lt
          go_wp2
          obtain ⟨x0, x1, x2, x3, x4, x5⟩ := HF.out.cells
          refine @bodyPost_ret Tryz.prog Tryz.f42 (fun e w' => TakeGives R d b ((xn, xh, xe), S1) w w' e) _ _ (takeV (xn, xh, xe)) ?_ ?_ ?_
          · simp [results, takeV, hV, go_sem, x0, x1, x2, x3, x4, x5]
          · rfl
          · exact ⟨rfl, DF.out, CF.out⟩
        · obtain ⟨m, hm⟩ : ∃ m, len = m + 1 := ⟨len - 1, by omega⟩
          have hlen2 : T.list.length = m + 1 := hlen.trans hm
          have hpos : (0 : Int) < (len : Int) := by omega
          have hgp : decide (0 < len) = true := decide_eq_true (by omega)
          have hwm : wrap64 ((len : Int) - 1) = (m : Int) := by rw [Num.wrap_i]; omega
          have hml : (m : Int) < (len : Int) := by omega
          have hml2 : m ≤ len := by omega
          have hm0 : (0 : Int) ≤ (m : Int) := by omega
          have hI4 := L4.out.at (by omega)
          rw [hlen] at hI4 L4 U4
          obtain ⟨_, _, ev, -, hcap, hat⟩ := Mem.IAt.ways1 hI4
          cases ev
          rw [hlen] at hcap
          obtain ⟨b0, o0, rfl, hb0, x0⟩ := hat m (by omega)
          have HTk : Hid (IAt w4 (.slice (some ⟨b0, o0, none⟩) m cap) (T.list.take m)) := hid (Mem.LAt.take hI4 (by omega))
          have hokd : (T.list.take m).length = m := by rw [List.length_take]; omega
          have HOKD := hid hokd
          by_cases hb2 : hd.pages ≤ T.list[m]'(by omega)
          · have hy := HY.out
            rw [to_bad (by rw [bad_last hb1 hlen2, decide_eq_true hb2])] at hy
            subst hy
            generalize T.list[m] = x at *
            clear HY hlen hlen2 hm hn hle hok hat hI4 HTk hokd HOKD
            go_wp2_with fail
            go_quiet (fail)
            rename_i nq
            have hbq := below_drewN (Below.refl w4.heap.size w4) nq
            have U5 := hid (U4.out.on hbq)
            have A5 := hid (A4.out.on hbq)
            have R5 := hid (R4.out.on hbq)
            have D5 := hid (D4.out.on hbq)
            have C5 := hid (C4.out.drewN nq)
            have L5 := hid (L4.out.on hbq)
            have hz5 : w4.heap.size = (w4.drewN nq).heap.size := rfl
            clear hbq u0 u1 a0 a1 a2 a3 a4 a5 r0 r1 r2 r3 r4 r5 s0 s1 s2 s3 s4 s5 hl1 hl2 hl3 CZ DZ RZ CQ DQ RQ
            generalize w4.drewN nq = w5 at *
            obtain ⟨u0, u1⟩ := U5.out.cells
            obtain ⟨v0, v1⟩ := U5.out.free
            obtain ⟨a0, a1, a2, a3, a4, a5⟩ := A5.out.cells
            obtain ⟨q0, q1, q2, q3, q4, q5⟩ := A5.out.free
            obtain ⟨r0, r1, r2, r3, r4, r5⟩ := R5.out.cells
            obtain ⟨s0, s1, s2, s3, s4, s5⟩ := R5.out.free
            have hl1 := A5.out.lt
            have hl2 := R5.out.lt
            have hl3 := U5.out.lt
            have CF : Hid (Chg R w (put6z w5 (w.heap.size + 1))) := hid (chg_put6z C5.out (Or.inl (Nat.le_succ _)))
            have DF : Hid (DeskR R (put6z w5 (w.heap.size + 1)) d b S1) := hid ((desk_put6z D5.out N7.out).wide NO.out)
            have HF : Hid (Hb (w.heap.size + 1) hd0 (put6z w5 (w.heap.size + 1))) := hid R5.out.zero
            go_wp2
            obtain ⟨x0, x1, x2, x3, x4, x5⟩ := HF.out.zeros
            refine @bodyPost_ret Tryz.prog Tryz.f42 (fun e w' => TakeGives R d b ((0, hd0, 30), S1) w w' e) _ _ (takeV (0, hd0, 30)) ?_ ?_ ?_
            · simp [results, takeV, hV, hd0, go_sem, x0, x1, x2, x3, x4, x5]
            · rfl
            · exact ⟨rfl, DF.out, CF.out⟩
          · have hy := HY.out
            have hg2 : decide (hd.pages ≤ T.list[m]'(by omega)) = false := decide_eq_false hb2
            rw [to_some (by rw [bad_last hb1 hlen2, decide_eq_false hb2]) (by omega), last_at hlen2, last_take hlen2] at hy
            generalize T.list[m] = x at *
            generalize hT2 : T.list.take m = l2 at *
            have HT2 := hid hT2
            have HLE : Hid (T.list.length ≤ 1000000) := hid (by omega)
            clear HY hlen hlen2 hm hn hle hok hat hI4 hT2 hb2
            go_wp2_with fail
            go_quiet (fail)
            rename_i nq
            have hbq := below_drewN (Below.refl w4.heap.size w4) nq
            have U5 := hid (U4.out.on hbq)
            have A5 := hid (A4.out.on hbq)
            have R5 := hid (R4.out.on hbq)
            have D5 := hid (D4.out.on hbq)
            have C5 := hid (C4.out.drewN nq)
            have L5 := hid (L4.out.on hbq)
            have HI5 : Hid (IAt (w4.drewN nq) (.slice (some ⟨b0, o0, none⟩) m cap) l2) := hid (HTk.out.on hbq)
            have y0 : (w4.drewN nq).cell? ⟨b0, o0 + m, none⟩ = some (.int .i64 x) := x0
            have hb5 : b0 < (w4.drewN nq).heap.size := hb0
            clear x0 hb0 HTk
            have hz5 : w4.heap.size = (w4.drewN nq).heap.size := rfl
            clear hbq u0 u1 a0 a1 a2 a3 a4 a5 r0 r1 r2 r3 r4 r5 s0 s1 s2 s3 s4 s5 hl1 hl2 hl3 CZ DZ RZ CQ DQ RQ
            generalize w4.drewN nq = w5 at *
            obtain ⟨u0, u1⟩ := U5.out.cells
            obtain ⟨v0, v1⟩ := U5.out.free
            obtain ⟨a0, a1, a2, a3, a4, a5⟩ := A5.out.cells
            obtain ⟨q0, q1, q2, q3, q4, q5⟩ := A5.out.free
            obtain ⟨r0, r1, r2, r3, r4, r5⟩ := R5.out.cells
            obtain ⟨s0, s1, s2, s3, s4, s5⟩ := R5.out.free
            have hl1 := A5.out.lt
            have hl2 := R5.out.lt
            have hl3 := U5.out.lt
            have hne1 : w.heap.size ≠ w3.heap.size := by have := HZM.out; omega
            have hne2 : w.heap.size + 1 ≠ w3.heap.size := by have := HZM.out; omega
            have U6 := hid (U5.out.set1 (.slice (some ⟨b0, o0, none⟩) m cap))
            have A6 := hid (A5.out.other (i := 1) hne1 (.slice (some ⟨b0, o0, none⟩) m cap))
            have R6 := hid (R5.out.other (i := 1) hne2 (.slice (some ⟨b0, o0, none⟩) m cap))
            have D6 := hid (D5.out.set (g := w3.heap.size) (fun e => Nat.lt_irrefl _ e.2) 1 (.slice (some ⟨b0, o0, none⟩) m cap))
            have C6 : Hid (Chg R w (w5.setCell ⟨w3.heap.size, 1, none⟩ (.slice (some ⟨b0, o0, none⟩) m cap))) := hid (C5.out.setCell (Or.inl (by have := HZM.out; show w.heap.size ≤ w3.heap.size; omega)) _)
            have HI6 : Hid (IAt (w5.setCell ⟨w3.heap.size, 1, none⟩ (.slice (some ⟨b0, o0, none⟩) m cap)) (.slice (some ⟨b0, o0, none⟩) m cap) l2) := by
              have hl := (L5.out.set U5.out (i := 1) (.slice (some ⟨b0, o0, none⟩) m cap)).at HLE.out
              exact hid (HT2.out ▸ Mem.LAt.take hl hml2)
            clear hne1 hne2
            go_upto_region 13 with fail
            clear u0 u1 v0 v1 a0 a1 a2 a3 a4 a5 q0 q1 q2 q3 q4 q5 r0 r1 r2 r3 r4 r5 s0 s1 s2 s3 s4 s5 hl1 hl2 hl3 y0 hb5
            generalize w5.setCell ⟨w3.heap.size, 1, none⟩ (.slice (some ⟨b0, o0, none⟩) m cap) = w6 at *
            obtain ⟨u0, u1⟩ := U6.out.cells
            obtain ⟨a0, a1, a2, a3, a4, a5⟩ := A6.out.cells
            have hPT := puttrunk_any (D6.out.since (Below.refl _ _)) SM.out (by omega) hd.trunk HWF.out ⟨T.next, l2⟩ (.slice (some ⟨b0, o0, none⟩) m cap) HI6.out
            have hA7 : ¬ Since (fun k => Q k ∧ k < w3.heap.size) w6 w6 w.heap.size := by
              rintro (e | e)
              · exact N6.out e.1
              · have := A6.out.lt; omega
            have hR7 : ¬ Since (fun k => Q k ∧ k < w3.heap.size) w6 w6 (w.heap.size + 1) := by
              rintro (e | e)
              · exact N7.out e.1
              · have := R6.out.lt; omega
            have hO7 : ∀ k, Since (fun k => Q k ∧ k < w3.heap.size) w6 w6 k → R k := by
              rintro k (e | e)
              · exact NO.out k e.1
              · exact HW.out k (Nat.le_trans C6.out.size e)
            have HPT := hid hPT
            have HA7 := hid hA7
            have HR7 := hid hR7
            have HO7 := hid hO7
            clear hPT hA7 hR7 hO7
            generalize Since (fun k => Q k ∧ k < w3.heap.size) w6 w6 = Q7 at *
            generalize putTrunk S1 hd.trunk ⟨T.next, l2⟩ = P7 at *
            obtain ⟨e2, S2⟩ := P7
            unfold trV at HPT
            simp only at hy HPT
            go_wp2_with fail
            refine HPT.out.mono ?_
            rintro e w7 ⟨rfl, hd7, hc7⟩
            have D7 := hid hd7
            have A7 := hid (A6.out.at hc7 HA7.out)
            have R7 := hid (R6.out.at hc7 HR7.out)
            have C7 := hid (C6.out.trans (hc7.mono (fun k _ e => HO7.out k e)))
            clear hd7 hc7 u0 u1 a0 a1 a2 a3 a4 a5
            obtain ⟨a0, a1, a2, a3, a4, a5⟩ := A7.out.cells
            obtain ⟨q0, q1, q2, q3, q4, q5⟩ := A7.out.free
            obtain ⟨r0, r1, r2, r3, r4, r5⟩ := R7.out.cells
            obtain ⟨s0, s1, s2, s3, s4, s5⟩ := R7.out.free
            have hl1 := A7.out.lt
            have hl2 := R7.out.lt
            by_cases h2 : e2 = 0
            · subst h2
              rw [if_neg (fun e => e rfl)] at hy
              subst hy
              go_wp2_with fail
              have HE := hid (take_fin hd D7.out HO7.out HA7.out HR7.out C7.out R7.out (hd.spare - 1))
              go_region
              go_wp2
              obtain ⟨⟨x0, x1, x2, x3, x4, x5⟩, CF, DF⟩ := HE.out
              refine @bodyPost_ret Tryz.prog Tryz.f42 (fun e w' => TakeGives R d b ((x, ⟨hd.mode, hd.pages, hd.trunk, hd.spare - 1, hd.root, hd.change⟩, 0), S2) w w' e) _ _ (takeV (x, ⟨hd.mode, hd.pages, hd.trunk, hd.spare - 1, hd.root, hd.change⟩, 0)) ?_ ?_ ?_
              · simp [results, takeV, hV, go_sem, x0, x1, x2, x3, x4, x5]
              · rfl
              · exact ⟨rfl, DF, CF⟩
            · rw [if_pos h2] at hy
              subst hy
              have h2' : (e2 != 0) = true := by simpa using h2
              clear h2
              have CF : Hid (Chg R w (put6z w7 (w.heap.size + 1))) := hid (chg_put6z C7.out (Or.inl (Nat.le_succ _)))
              have DF : Hid (DeskR R (put6z w7 (w.heap.size + 1)) d b S2) := hid ((desk_put6z D7.out HR7.out).wide HO7.out)
              have HF : Hid (Hb (w.heap.size + 1) hd0 (put6z w7 (w.heap.size + 1))) := hid R7.out.zero
              go_wp2
              obtain ⟨x0, x1, x2, x3, x4, x5⟩ := HF.out.zeros
              refine @bodyPost_ret Tryz.prog Tryz.f42 (fun e w' => TakeGives R d b ((0, hd0, e2), S2) w w' e) _ _ (takeV (0, hd0, e2)) ?_ ?_ ?_
              · simp [results, takeV, hV, hd0, go_sem, x0, x1, x2, x3, x4, x5]
              · rfl
              · exact ⟨rfl, DF.out, CF.out⟩
    · have hy := HY.out
      rw [to_err h1] at hy
      subst hy
      have h1' : (e1 != 0) = true := by simpa using h1
      clear h1
      clear HY
      go_wp2
      obtain ⟨x0, x1, x2, x3, x4, x5⟩ := RZ.out.zeros
      refine @bodyPost_ret Tryz.prog Tryz.f42 (fun e w' => TakeGives R d b ((0, hd0, e1), S1) w w' e) _ _ (takeV (0, hd0, e1)) ?_ ?_ ?_
      · simp [results, takeV, hV, hd0, go_sem, x0, x1, x2, x3, x4, x5]
      · rfl
      · exact ⟨rfl, DZ.out, CZ.out⟩
end Sh
end Go.Proofs.YtkoglikaaehhjaaGreatDoor
