/-
  The shelf's pages: contract of the project's trunkFor.
-/
import Derived.Test.YtkoglikaaehhjaaGreatDoorShelfTake
import Derived.Test.YtkoglikaaehhjaaGreatDoorGrpSpC
namespace Go.Proofs.YtkoglikaaehhjaaGreatDoor
open Go.RowKit
namespace Sh
open Sp
open Num (hid)
open Mem (Bs bs IAt tI tS tIs tSs Chg Row ptr blk_cell blk_free blk_new blk_set blk_other blk_alloc row_kept row_shape row_type wpList_append_run)
variable {R : Nat → Prop} {w : World} {d b : Nat} {S : St}
def ForGives (R : Nat → Prop) (d b : Nat) (x : (Int × Tr × Int) × St) (w w' : World) (e : Ending) : Prop :=
  (∃ lv, e = .returned (.tuple #[.int .i64 x.1.1, trV x.1.2.1 lv, .int .i64 x.1.2.2]) ∧ Lrow w.heap.size lv x.1.2.1.list w') ∧ DeskR R w' d b x.2 ∧ Chg R w w'
theorem tf_none {h : Hd} {n : Int} (k : h.trunk = 0) : trunkFor h S n = ((n, ⟨h.trunk, []⟩, 0), S) := by rw [k]; exact if_pos k
theorem tf_of {h : Hd} {n : Int} (k : ¬ h.trunk = 0) {T : Tr} {e : Int} {S1 : St} (k2 : trunkAt S h.trunk = ((T, e), S1)) : trunkFor h S n = if e ≠ 0 then ((0, noT, e), S1) else if T.list.length < 50 then ((h.trunk, ⟨T.next, T.list ++ [n]⟩, 0), S1) else ((n, ⟨h.trunk, []⟩, 0), S1) := by
  unfold trunkFor
  rw [if_neg k, k2]
/-- The boxes of a head that came, and of the answer's trunk. -/
theorem boxesT (h : DeskR R w d b S) (hR : ∀ k, w.heap.size ≤ k → R k) (hd : Hd) : ∃ z, z = (w.alloc (.cells #[.int .i64 hd.mode, .int .i64 hd.pages, .int .i64 hd.trunk, .int .i64 hd.spare, .int .i64 hd.root, .int .u64 (hd.change : Nat)] tH)).alloc (tObj 0 nilS) ∧ z.heap.size = w.heap.size + 2 ∧ Hb w.heap.size hd z ∧ Tb (w.heap.size + 1) 0 nilS z ∧ Below w.heap.size w z ∧ DeskR (Since R w z) z d b S ∧
    (∀ k, Since R w z k → R k) ∧ ¬ Since R w z w.heap.size ∧ ¬ Since R w z (w.heap.size + 1) := by
  have e1 : (w.alloc (hObj hd)).heap.size = w.heap.size + 1 := by simp
  have h2 := Tb.new 0 nilS (w.alloc (hObj hd))
  rw [e1] at h2
  have h3 : Below w.heap.size w ((w.alloc (hObj hd)).alloc (tObj 0 nilS)) := ((Below.refl w.heap.size w).alloc (Nat.le_refl _) _).alloc (by simp) _
  have h1 : Hb w.heap.size hd ((w.alloc (hObj hd)).alloc (tObj 0 nilS)) := (Hb.new hd w).on ((Below.refl _ _).alloc (Nat.le_refl _) _)
  refine ⟨_, rfl, by simp, h1, h2, h3, h.since h3, Since.old hR h3.size, Since.no (Nat.le_refl _) (by simp; omega), Since.no (Nat.le_succ _) (by simp)⟩
/-- The answer's trunk is filled. -/
theorem for_fin {Q : Nat → Prop} {w7 : World} {S2 : St} (D7 : DeskR Q w7 d b S2) (hQ : ∀ k, Q k → R k) (h2 : ¬ Q (w.heap.size + 1)) (C7 : Chg R w w7) {n0 : Int} {l0 : Value} (T7 : Tb (w.heap.size + 1) n0 l0 w7) {N : Nat} (hN : w.heap.size ≤ N) {n : Int} {lv : Value} {l : List Int} (L7 : Lrow N lv l w7) :
    Tb (w.heap.size + 1) n lv (put2 w7 (w.heap.size + 1) n lv) ∧ Lrow w.heap.size lv l (put2 w7 (w.heap.size + 1) n lv) ∧ DeskR R (put2 w7 (w.heap.size + 1) n lv) d b S2 ∧ Chg R w (put2 w7 (w.heap.size + 1) n lv) := by
  have hL := ((L7.set T7 (.int .i64 n) (i := 0)).set (T7.set0 n) lv (i := 1))
  exact ⟨(T7.set0 n).set1 lv, ⟨hL.row, fun g hg => Nat.le_trans hN (hL.low g hg)⟩, ((D7.set h2 0 _).set h2 1 _).wide hQ, (C7.setCell (Or.inl (Nat.le_succ _)) _).setCell (Or.inl (Nat.le_succ _)) _⟩
set_option maxRecDepth 100000 in
set_option maxHeartbeats 2000000 in
theorem trunkfor_any (h : DeskR R w d b S) (hR : ∀ k, w.heap.size ≤ k → R k) {c : Nat} (hS : Small c S) (hc : c ≤ 40000) (hd : Hd) (hf : Fit hd) (n : Int) :
    Calls Tryz.prog 153 #[hV hd, dkV d, .int .i64 n] w fun e w' => ForGives R d b (trunkFor hd S n) w w' e := by
  obtain ⟨z, hz, hzs, Z1, Z2, Z3, Z4, Z5, Z6, Z7⟩ := boxesT h hR hd
  have hwf : Wf hd.trunk := wf_of (by unfold Fit at hf; omega) (by unfold Fit at hf; omega)
  have HZ := hid hz
  have HZS := hid hzs
  have HZ1 := hid Z1
  have HZ2 := hid Z2
  have HZ3 := hid Z3
  have HZ4 := hid Z4
  have HZ5 := hid Z5
  have HZ6 := hid Z6
  have HZ7 := hid Z7
  have HTA := hid (trunkat_any Z4 (fun k hk => Or.inr hk) hS (by omega) hd.trunk hwf)
  have HOK : Hid ((trunkAt S hd.trunk).1.2 = 0 → okT (trunkAt S hd.trunk).1.1 = true) := hid (tat_okT S hd.trunk)
  have HW := hid hR
  obtain ⟨a0, a1, a2, a3, a4, a5⟩ := Z1.cells
  obtain ⟨r0, r1⟩ := Z2.cells
  obtain ⟨s0, s1⟩ := Z2.free
  have hl1 := Z1.lt
  have hl2 := Z2.lt
  clear Z1 Z2 Z3 Z4 Z5 Z6 Z7 h hS hR hf hwf
  by_cases h0 : hd.trunk = 0
  · rw [tf_none h0]
    have h0' : (hd.trunk != 0) = false := by simpa using h0
    have F := hid (for_fin HZ4.out HZ5.out HZ7.out (Chg.of_below HZ3.out) HZ2.out (Nat.le_refl _) (n := hd.trunk) (Lrow.nil w.heap.size z))
    unfold hV
    clear HTA HOK h0
    go_enter Tryz.func153, Tryz.ntmps153
    go_upto_region 1 with fail
    rw [← HZ.out]
    clear hz
    go_wp2_with fail
    go_region
    go_wp2
    obtain ⟨f1, f2, f3, f4⟩ := F.out
    obtain ⟨x0, x1⟩ := f1.cells
    refine @bodyPost_ret Tryz.prog Tryz.f153 (fun e w' => ForGives R d b ((n, ⟨hd.trunk, []⟩, 0), S) w w' e) _ _ (.tuple #[.int .i64 n, trV ⟨hd.trunk, []⟩ nilS, .int .i64 0]) ?_ ?_ ?_
    · simp [results, trV, go_sem, x0, x1]
    · rfl
    · exact ⟨⟨_, rfl, f2.drew⟩, f3.drew, f4.drew⟩
  · generalize hX : trunkAt S hd.trunk = X at *
    obtain ⟨⟨T, e1⟩, S1⟩ := X
    simp only at HOK
    have h0' : (hd.trunk != 0) = true := by simpa using h0
    have HF := hid (tf_of (n := n) h0 hX)
    generalize hY : trunkFor hd S n = Y at *
    generalize hQ : Since R w z = Q at *
    unfold hV
    clear hX hY hQ h0
    go_enter Tryz.func153, Tryz.ntmps153
    go_upto_region 1 with fail
    rw [← HZ.out]
    clear hz
    go_wp2_with fail
    refine HTA.out.mono ?_
    rintro e w3 ⟨⟨lv, N, rfl, ⟨hNz, hNw⟩, hrow, hd3⟩, hc3⟩
    obtain ⟨ao, cap, rfl⟩ := hrow.shape
    unfold trV
    simp only at hrow hd3 ⊢
    have hB4 : Below w3.heap.size w3 (w3.alloc (tObj T.next (.slice ao T.list.length cap))) := (Below.refl w3.heap.size w3).alloc (Nat.le_refl _) _
    have U4 := hid (Tb.new T.next (.slice ao T.list.length cap) w3)
    have L4 := hid (hrow.on hB4)
    have D4 : Hid (DeskR (fun k => (Q k ∧ k < N) ∧ k < w3.heap.size) (w3.alloc (tObj T.next (.slice ao T.list.length cap))) d b S1) := hid ((hd3.mono (fun g hg e => ⟨e, hg⟩)).on hB4)
    have HNZ := hid hNz
    have HNW : Hid (N ≤ (w3.alloc (tObj T.next (.slice ao T.list.length cap))).heap.size) := hid (Nat.le_trans hNw (Nat.le_of_lt (by simp)))
    have N7 : Hid (¬ ((Q (w.heap.size + 1) ∧ w.heap.size + 1 < N) ∧ w.heap.size + 1 < w3.heap.size)) := hid (fun e => HZ7.out e.1.1)
    have NO : Hid (∀ k, (Q k ∧ k < N) ∧ k < w3.heap.size → R k) := hid (fun k e => HZ5.out k e.1.1)
    have A4 := hid ((HZ1.out.at hc3 HZ6.out).on hB4)
    have R4 := hid ((HZ2.out.at hc3 HZ7.out).on hB4)
    have C4 : Hid (Chg R w (w3.alloc (tObj T.next (.slice ao T.list.length cap)))) := hid (((Chg.of_below HZ3.out).trans (hc3.mono (fun k _ e => HZ5.out k e))).trans (Chg.of_below hB4))
    have hz4 : w3.heap.size < (w3.alloc (tObj T.next (.slice ao T.list.length cap))).heap.size := by simp
    have hz3 : w.heap.size + 2 ≤ w3.heap.size := by have := hc3.size; omega
    have HZL := hid hz4
    have HN4 : Hid (N ≤ (w3.alloc (tObj T.next (.slice ao T.list.length cap))).heap.size) := hid HNW.out
    have HZM := hid hz3
    clear hrow hd3 hc3 hNz hNw a0 a1 a2 a3 a4 a5 r0 r1 s0 s1 hl1 hl2 hB4 hz4 hz3
    go_upto_region 3 with fail
    generalize w3.alloc (tObj T.next (.slice ao T.list.length cap)) = w4 at *
    obtain ⟨u0, u1⟩ := U4.out.cells
    obtain ⟨v0, v1⟩ := U4.out.free
    obtain ⟨a0, a1, a2, a3, a4, a5⟩ := A4.out.cells
    obtain ⟨r0, r1⟩ := R4.out.cells
    obtain ⟨s0, s1⟩ := R4.out.free
    have hl1 := A4.out.lt
    have hl2 := R4.out.lt
    have hl3 := U4.out.lt
    have HY := hid HF.out
    by_cases h1 : e1 = 0
    · subst h1
      have hok := (okT_iff T).1 (HOK.out rfl)
      have hle := hok.2.1
      by_cases h5 : T.list.length < 50
      · have hy := HY.out
        rw [if_neg (fun e => e rfl), if_pos h5] at hy
        subst hy
        have h5' : (T.list.length : Int) < 50 := by omega
        obtain ⟨v', W1, hr, ho, hch, hw⟩ := Mem.push_int L4.out.row n (by omega)
        obtain ⟨ao2, cap2, rfl, -⟩ := row_shape ho
        have ux := U4.out.at hch (fun e => L4.out.ne U4.out _ e rfl)
        have rx := R4.out.at hch (fun e => L4.out.ne R4.out _ e rfl)
        have ax := A4.out.at hch (fun e => by have := L4.out.low _ e; have := HNZ.out; have := HZS.out; omega)
        have dx := D4.out.apart hch (fun k e hq => by have := L4.out.low k e; have := hq.1.2; omega)
        have cx : Chg R w W1 := C4.out.trans (hch.mono (fun k _ e => HW.out k (by have := L4.out.low k e; have := HNZ.out; have := HZS.out; omega)))
        have lx : Lrow N (.slice ao2 (T.list.length + 1) cap2) (T.list ++ [n]) W1 := by
          refine ⟨?_, fun g hg => ?_⟩
          · have e : intsV (T.list ++ [n]) = intsV T.list ++ [.int .i64 n] := List.map_append ..
            rw [e, List.length_append]
            exact ho
          · rcases hw g hg with h1 | h1
            · exact L4.out.low g h1
            · have := HZL.out
              have hN2 := HN4.out
              omega
        have hne1 : w3.heap.size ≠ w.heap.size := by have := HZM.out; omega
        have hne2 : w3.heap.size ≠ w.heap.size + 1 := by have := HZM.out; omega
        have sx := lx.set ux (i := 1) (.slice ao2 (T.list.length + 1) cap2)
        have U5 := hid (ux.set1 (.slice ao2 (T.list.length + 1) cap2))
        have A5 := hid (ax.other (i := 1) hne1.symm (.slice ao2 (T.list.length + 1) cap2))
        have R5 := hid (rx.other (i := 1) hne2.symm (.slice ao2 (T.list.length + 1) cap2))
        have D5 := hid (dx.set (g := w3.heap.size) (fun e => Nat.lt_irrefl _ e.2) 1 (.slice ao2 (T.list.length + 1) cap2))
        have C5 := hid (cx.setCell (p := ⟨w3.heap.size, 1, none⟩) (Or.inl (by have := HZM.out; show w.heap.size ≤ w3.heap.size; omega)) (.slice ao2 (T.list.length + 1) cap2))
        have F := hid (for_fin D5.out NO.out N7.out C5.out R5.out (by have := HNZ.out; have := HZS.out; omega) (n := T.next) sx)
        have HR := hid hr
        obtain ⟨t0, t1⟩ := ux.cells
        obtain ⟨t2, t3⟩ := ux.free
        have t4 := ux.lt
        have B1 := blk_new
        clear HF HY hok hle h5 hr ho hch hw ux rx ax dx cx lx sx hne1 hne2 B1
        go_upto_region 7 with (at_builtin; refine wpList_append_run rfl (.tmp 30) (.tmp 32) tIs tIs rfl _ _ (by simp [Act.eval]) (by simp [Act.eval]) HR.out ?_)
        generalize W1.setCell ⟨w3.heap.size, 1, none⟩ (.slice ao2 (T.list.length + 1) cap2) = w5 at *
        clear u0 u1 v0 v1 a0 a1 a2 a3 a4 a5 r0 r1 s0 s1 hl1 hl2 hl3 t0 t1 t2 t3 t4
        obtain ⟨u0, u1⟩ := U5.out.cells
        obtain ⟨a0, a1, a2, a3, a4, a5⟩ := A5.out.cells
        obtain ⟨r0, r1⟩ := R5.out.cells
        obtain ⟨s0, s1⟩ := R5.out.free
        have hl1 := A5.out.lt
        have hl2 := R5.out.lt
        have hl3 := U5.out.lt
        go_region
        go_wp2
        obtain ⟨f1, f2, f3, f4⟩ := F.out
        obtain ⟨x0, x1⟩ := f1.cells
        refine @bodyPost_ret Tryz.prog Tryz.f153 (fun e w' => ForGives R d b ((hd.trunk, ⟨T.next, T.list ++ [n]⟩, 0), S1) w w' e) _ _ (.tuple #[.int .i64 hd.trunk, trV ⟨T.next, T.list ++ [n]⟩ (.slice ao2 (T.list.length + 1) cap2), .int .i64 0]) ?_ ?_ ?_
        · simp [results, trV, go_sem, x0, x1]
        · rfl
        · exact ⟨⟨_, rfl, f2.drew⟩, f3.drew, f4.drew⟩
      · have hy := HY.out
        rw [if_neg (fun e => e rfl), if_neg h5] at hy
        subst hy
        have h5' : ¬ (T.list.length : Int) < 50 := by omega
        have F := hid (for_fin D4.out NO.out N7.out C4.out R4.out (Nat.le_refl _) (n := hd.trunk) (Lrow.nil w.heap.size w4))
        clear HF HY hok hle h5
        go_wp2_with fail
        go_region
        go_wp2
        obtain ⟨f1, f2, f3, f4⟩ := F.out
        obtain ⟨x0, x1⟩ := f1.cells
        refine @bodyPost_ret Tryz.prog Tryz.f153 (fun e w' => ForGives R d b ((n, ⟨hd.trunk, []⟩, 0), S1) w w' e) _ _ (.tuple #[.int .i64 n, trV ⟨hd.trunk, []⟩ nilS, .int .i64 0]) ?_ ?_ ?_
        · simp [results, trV, go_sem, x0, x1]
        · rfl
        · exact ⟨⟨_, rfl, f2.drew⟩, f3.drew, f4.drew⟩
    · have hy := HY.out
      rw [if_pos h1] at hy
      subst hy
      have h1' : (e1 != 0) = true := by simpa using h1
      have F := hid (for_fin D4.out NO.out N7.out C4.out R4.out (Nat.le_refl _) (n := 0) (Lrow.nil w.heap.size w4))
      clear h1 HF HY
      go_wp2
      obtain ⟨f1, f2, f3, f4⟩ := F.out
      obtain ⟨x0, x1⟩ := f1.cells
      refine @bodyPost_ret Tryz.prog Tryz.f153 (fun e w' => ForGives R d b ((0, noT, e1), S1) w w' e) _ _ (.tuple #[.int .i64 0, trV noT nilS, .int .i64 e1]) ?_ ?_ ?_
      · simp [results, trV, noT, go_sem, x0, x1]
      · rfl
      · exact ⟨⟨_, rfl, f2⟩, f3, f4⟩
end Sh
end Go.Proofs.YtkoglikaaehhjaaGreatDoor
