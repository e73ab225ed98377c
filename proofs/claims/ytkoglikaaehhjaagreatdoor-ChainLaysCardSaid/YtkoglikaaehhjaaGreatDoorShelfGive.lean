/-
  The shelf's pages: contract of the project's Give.
-/
import Derived.Test.YtkoglikaaehhjaaGreatDoorShelfFor
import Derived.Test.YtkoglikaaehhjaaGreatDoorGrpSpC
namespace Go.Proofs.YtkoglikaaehhjaaGreatDoor
open Go.RowKit
namespace Sh
open Sp
open Num (hid)
open Mem (Bs bs IAt tI tS tIs tSs Chg Row ptr blk_cell blk_free blk_new blk_set blk_other blk_alloc row_kept row_shape row_type)
variable {R : Nat → Prop} {w : World} {d b : Nat} {S : St}
def GiveGives (R : Nat → Prop) (d b : Nat) (x : (Hd × Int) × St) (w w' : World) (e : Ending) : Prop := e = .returned (giveV x.1) ∧ DeskR R w' d b x.2 ∧ Chg R w w'
theorem gv_arg {h : Hd} {n : Int} (k : n < 1 ∨ h.pages ≤ n) : giveM h S n = ((hd0, 1), S) := if_pos k
theorem gv_full {h : Hd} {n : Int} (k : ¬ (n < 1 ∨ h.pages ≤ n)) (k2 : h.pages - 1 ≤ h.spare) : giveM h S n = ((hd0, 30), S) := by unfold giveM; rw [if_neg k, if_pos k2]
theorem gv_of {h : Hd} {n : Int} (k : ¬ (n < 1 ∨ h.pages ≤ n)) (k2 : ¬ h.pages - 1 ≤ h.spare) {x : (Int × Tr × Int) × St} (k3 : trunkFor h S n = x) : giveM h S n = giveOf h x := by unfold giveM; rw [if_neg k, if_neg k2, k3]
theorem go_err {h : Hd} {a : Int} {T : Tr} {e : Int} {S1 : St} (k : ¬ e = 0) : giveOf h ((a, T, e), S1) = ((hd0, e), S1) := if_pos k
theorem go_ok {h : Hd} {a : Int} {T : Tr} {S1 : St} {e2 : Int} {S2 : St} (k : putTrunk S1 a T = (e2, S2)) : giveOf h ((a, T, 0), S1) = if e2 ≠ 0 then ((hd0, e2), S2) else (({ h with trunk := a, spare := h.spare + 1 }, 0), S2) := by
  unfold giveOf
  rw [if_neg (fun e => e rfl)]
  simp only [k]
theorem tf_len (h : Hd) (S : St) (n : Int) : (trunkFor h S n).1.2.1.list.length ≤ 51 ∧ ∀ c, Small c S → Small (c + 1) (trunkFor h S n).2 := by
  by_cases h0 : h.trunk = 0
  · rw [tf_none h0]
    exact ⟨Nat.zero_le _, fun c hc => hc.more (Nat.le_succ _)⟩
  · obtain ⟨⟨⟨T, e⟩, S1⟩, hX⟩ : ∃ x, trunkAt S h.trunk = x := ⟨_, rfl⟩
    have hs := fun c (hc : Small c S) => small_tat hc h.trunk
    rw [hX] at hs
    rw [tf_of h0 hX]
    split
    · exact ⟨Nat.zero_le _, hs⟩
    · split
      · rename_i h1 h2
        refine ⟨?_, hs⟩
        show (T.list ++ [n]).length ≤ 51
        rw [List.length_append, List.length_singleton]
        omega
      · exact ⟨Nat.zero_le _, hs⟩
theorem give_fin {Q : Nat → Prop} {w7 : World} {S2 : St} (hd : Hd) (D7 : DeskR Q w7 d b S2) (hQ : ∀ k, Q k → R k) (h1 : ¬ Q w.heap.size) (h2 : ¬ Q (w.heap.size + 1)) (C7 : Chg R w w7) (R7 : Hb (w.heap.size + 1) hd0 w7) (t s : Int) :
    ((gvW w7 w.heap.size hd t s).cell? ⟨w.heap.size + 1, 0, none⟩ = some (.int .i64 hd.mode) ∧ (gvW w7 w.heap.size hd t s).cell? ⟨w.heap.size + 1, 1, none⟩ = some (.int .i64 hd.pages) ∧ (gvW w7 w.heap.size hd t s).cell? ⟨w.heap.size + 1, 2, none⟩ = some (.int .i64 t) ∧ (gvW w7 w.heap.size hd t s).cell? ⟨w.heap.size + 1, 3, none⟩ = some (.int .i64 s) ∧ (gvW w7 w.heap.size hd t s).cell? ⟨w.heap.size + 1, 4, none⟩ = some (.int .i64 hd.root) ∧ (gvW w7 w.heap.size hd t s).cell? ⟨w.heap.size + 1, 5, none⟩ = some (.int .u64 (hd.change : Nat))) ∧
    Chg R w (gvW w7 w.heap.size hd t s) ∧ DeskR R (gvW w7 w.heap.size hd t s) d b S2 := by
  have hne : w.heap.size + 1 ≠ w.heap.size := by omega
  have R8 := (R7.other (i := 2) hne (.int .i64 t)).other (i := 3) hne (.int .i64 s)
  have H := R8.put ⟨hd.mode, hd.pages, t, s, hd.root, hd.change⟩
  have C := chg_put6 ((C7.setCell (p := ⟨w.heap.size, 2, none⟩) (Or.inl (Nat.le_refl _)) (.int .i64 t)).setCell (p := ⟨w.heap.size, 3, none⟩) (Or.inl (Nat.le_refl _)) (.int .i64 s)) (r := w.heap.size + 1) (Or.inl (Nat.le_succ _)) ⟨hd.mode, hd.pages, t, s, hd.root, hd.change⟩
  have D := desk_put6 ((D7.set h1 2 (.int .i64 t)).set h1 3 (.int .i64 s)) h2 ⟨hd.mode, hd.pages, t, s, hd.root, hd.change⟩
  exact ⟨H.cells, C, D.wide hQ⟩
/-- The zero head is the answer. -/
theorem zero_fin {Q : Nat → Prop} {w7 : World} {S2 : St} (D7 : DeskR Q w7 d b S2) (hQ : ∀ k, Q k → R k) (h2 : ¬ Q (w.heap.size + 1)) (C7 : Chg R w w7) (R7 : Hb (w.heap.size + 1) hd0 w7) :
    Hb (w.heap.size + 1) hd0 (put6z w7 (w.heap.size + 1)) ∧ DeskR R (put6z w7 (w.heap.size + 1)) d b S2 ∧ Chg R w (put6z w7 (w.heap.size + 1)) :=
  ⟨R7.zero, (desk_put6z D7 h2).wide hQ, chg_put6z C7 (Or.inl (Nat.le_succ _))⟩
theorem tf_wf (h : Hd) (S : St) (n : Int) (hf : Fit h) (h1 : ¬ n < 1) (h2 : ¬ h.pages ≤ n) : Wf (trunkFor h S n).1.1 := by
  have ht : Wf h.trunk := wf_of (by unfold Fit at hf; omega) (by unfold Fit at hf; omega)
  have hn : Wf n := wf_of (by omega) (by unfold Fit at hf; omega)
  unfold trunkFor
  split
  · exact hn
  · split
    · exact wf_of (n := 0) (by decide) (by decide)
    · split
      · exact ht
      · exact hn
set_option maxRecDepth 100000 in
set_option maxHeartbeats 4000000 in
theorem give_any (h : DeskR R w d b S) (hR : ∀ k, w.heap.size ≤ k → R k) {c : Nat} (hS : Small c S) (hc : c ≤ 30000) (hd : Hd) (hf : Fit hd) (n : Int) :
    Calls Tryz.prog 152 #[hV hd, dkV d, .int .i64 n] w fun e w' => GiveGives R d b (giveM hd S n) w w' e := by
  obtain ⟨z, hz, hzs, Z1, Z2, Z3, Z4, Z5, Z6, Z7⟩ := boxes h hR hd
  have HZ := hid hz
  have HZS := hid hzs
  have HZ1 := hid Z1
  have HZ2 := hid Z2
  have HZ3 := hid Z3
  have HZ4 := hid Z4
  have HZ5 := hid Z5
  have HZ6 := hid Z6
  have HZ7 := hid Z7
  have HTA := hid (trunkfor_any Z4 (fun k hk => Or.inr hk) hS (by omega) hd hf n)
  have HLN := hid (tf_len hd S n)
  have HSM := hid ((tf_len hd S n).2 c hS)
  have HAT := hid (fun h1 h2 => tf_wf hd S n hf h1 h2)
  have HW := hid hR
  have F0 := hid (zero_fin Z4 Z5 Z7 (Chg.of_below Z3) Z2)
  unfold Fit at hf
  have hsp : wrap64 (hd.spare + 1) = hd.spare + 1 := by rw [Num.wrap_i]; omega
  have hpg : wrap64 (hd.pages - 1) = hd.pages - 1 := by rw [Num.wrap_i]; omega
  obtain ⟨a0, a1, a2, a3, a4, a5⟩ := Z1.cells
  obtain ⟨r0, r1, r2, r3, r4, r5⟩ := Z2.cells
  obtain ⟨s0, s1, s2, s3, s4, s5⟩ := Z2.free
  have hl1 := Z1.lt
  have hl2 := Z2.lt
  clear Z1 Z2 Z3 Z4 Z5 Z6 Z7 h hS hR hf
  by_cases hn : n < 1 ∨ hd.pages ≤ n
  · rw [gv_arg hn]
    unfold hV
    clear HTA HLN HSM
    by_cases hn1 : n < 1
    · clear hn
      go_enter Tryz.func152, Tryz.ntmps152
      go_upto_region 1 with fail
      rw [← HZ.out]
      clear hz
      go_wp2
      obtain ⟨f1, f2, f3⟩ := F0.out
      obtain ⟨x0, x1, x2, x3, x4, x5⟩ := f1.zeros
      refine @bodyPost_ret Tryz.prog Tryz.f152 (fun e w' => GiveGives R d b ((hd0, 1), S) w w' e) _ _ (giveV (hd0, 1)) ?_ ?_ ?_
      · simp [results, giveV, hV, hd0, go_sem, x0, x1, x2, x3, x4, x5]
      · rfl
      · exact ⟨rfl, f2, f3⟩
    · have hn2 : hd.pages ≤ n := by omega
      clear hn
      go_enter Tryz.func152, Tryz.ntmps152
      go_upto_region 1 with fail
      rw [← HZ.out]
      clear hz
      go_wp2
      obtain ⟨f1, f2, f3⟩ := F0.out
      obtain ⟨x0, x1, x2, x3, x4, x5⟩ := f1.zeros
      refine @bodyPost_ret Tryz.prog Tryz.f152 (fun e w' => GiveGives R d b ((hd0, 1), S) w w' e) _ _ (giveV (hd0, 1)) ?_ ?_ ?_
      · simp [results, giveV, hV, hd0, go_sem, x0, x1, x2, x3, x4, x5]
      · rfl
      · exact ⟨rfl, f2, f3⟩
  · have hn1 : ¬ n < 1 := by omega
    have hn2 : ¬ hd.pages ≤ n := by omega
    by_cases hfu : hd.pages - 1 ≤ hd.spare
    · rw [gv_full hn hfu]
      unfold hV
      clear HTA HLN HSM hn
      go_enter Tryz.func152, Tryz.ntmps152
      go_upto_region 1 with fail
      rw [← HZ.out]
      clear hz
      go_wp2
      obtain ⟨f1, f2, f3⟩ := F0.out
      obtain ⟨x0, x1, x2, x3, x4, x5⟩ := f1.zeros
      refine @bodyPost_ret Tryz.prog Tryz.f152 (fun e w' => GiveGives R d b ((hd0, 30), S) w w' e) _ _ (giveV (hd0, 30)) ?_ ?_ ?_
      · simp [results, giveV, hV, hd0, go_sem, x0, x1, x2, x3, x4, x5]
      · rfl
      · exact ⟨rfl, f2, f3⟩
    · have HAW := hid (HAT.out hn1 hn2)
      clear HAT
      generalize hX : trunkFor hd S n = X at *
      rw [gv_of hn hfu hX]
      obtain ⟨⟨at_, T, e1⟩, S1⟩ := X
      generalize hQ : Since R w z = Q at *
      generalize hY : giveOf hd ((at_, T, e1), S1) = Y at *
      have HY := hid hY
      simp only at HLN HSM HAW
      unfold hV
      clear hX hQ hY hn
      go_enter Tryz.func152, Tryz.ntmps152
      go_upto_region 1 with fail
      rw [← HZ.out]
      clear hz
      go_wp2_with fail
      refine HTA.out.mono ?_
      rintro e w3 ⟨⟨lv, rfl, hrow⟩, hd3, hc3⟩
      obtain ⟨ao, cap, rfl⟩ := hrow.shape
      unfold trV
      simp only at hrow hd3 ⊢
      have hB4 : Below w3.heap.size w3 (w3.alloc (tObj T.next (.slice ao T.list.length cap))) := (Below.refl w3.heap.size w3).alloc (Nat.le_refl _) _
      have U4 := hid (Tb.new T.next (.slice ao T.list.length cap) w3)
      have HI4 := hid ((hrow.on hB4).at (Nat.le_trans HLN.out.1 (by decide)))
      have D4 : Hid (DeskR (fun k => Q k ∧ k < w3.heap.size) (w3.alloc (tObj T.next (.slice ao T.list.length cap))) d b S1) := hid ((hd3.mono (fun g hg e => ⟨e, hg⟩)).on hB4)
      have N6 : Hid (¬ (Q w.heap.size ∧ w.heap.size < w3.heap.size)) := hid (fun e => HZ6.out e.1)
      have N7 : Hid (¬ (Q (w.heap.size + 1) ∧ w.heap.size + 1 < w3.heap.size)) := hid (fun e => HZ7.out e.1)
      have NO : Hid (∀ k, Q k ∧ k < w3.heap.size → R k) := hid (fun k e => HZ5.out k e.1)
      have A4 := hid ((HZ1.out.at hc3 HZ6.out).on hB4)
      have R4 := hid ((HZ2.out.at hc3 HZ7.out).on hB4)
      have C4 : Hid (Chg R w (w3.alloc (tObj T.next (.slice ao T.list.length cap)))) := hid (((Chg.of_below HZ3.out).trans (hc3.mono (fun k _ e => HZ5.out k e))).trans (Chg.of_below hB4))
      clear hrow hd3 hc3 a0 a1 a2 a3 a4 a5 r0 r1 r2 r3 r4 r5 s0 s1 s2 s3 s4 s5 hl1 hl2 hB4
      go_upto_region 6 with fail
      generalize w3.alloc (tObj T.next (.slice ao T.list.length cap)) = w4 at *
      obtain ⟨u0, u1⟩ := U4.out.cells
      obtain ⟨a0, a1, a2, a3, a4, a5⟩ := A4.out.cells
      obtain ⟨r0, r1, r2, r3, r4, r5⟩ := R4.out.cells
      obtain ⟨s0, s1, s2, s3, s4, s5⟩ := R4.out.free
      have hl1 := A4.out.lt
      have hl2 := R4.out.lt
      have hl3 := U4.out.lt
      by_cases h1 : e1 = 0
      · subst h1
        have hPT := puttrunk_any (D4.out.since (Below.refl _ _)) HSM.out (by omega) at_ HAW.out T (.slice ao T.list.length cap) HI4.out
        have hA7 : ¬ Since (fun k => Q k ∧ k < w3.heap.size) w4 w4 w.heap.size := by
          rintro (e | e)
          · exact N6.out e.1
          · omega
        have hR7 : ¬ Since (fun k => Q k ∧ k < w3.heap.size) w4 w4 (w.heap.size + 1) := by
          rintro (e | e)
          · exact N7.out e.1
          · omega
        have hO7 : ∀ k, Since (fun k => Q k ∧ k < w3.heap.size) w4 w4 k → R k := by
          rintro k (e | e)
          · exact NO.out k e.1
          · exact HW.out k (Nat.le_trans C4.out.size e)
        have HA7 := hid hA7
        have HR7 := hid hR7
        have HO7 := hid hO7
        generalize hP7 : putTrunk S1 at_ T = P7 at *
        obtain ⟨e2, S2⟩ := P7
        have hy := HY.out
        rw [go_ok hP7] at hy
        have HP := hid hPT
        generalize Since (fun k => Q k ∧ k < w3.heap.size) w4 w4 = Q7 at *
        unfold trV at HP
        simp only at HP
        clear hPT hA7 hR7 hO7 hP7 HY
        go_wp2_with fail
        refine HP.out.mono ?_
        rintro e w7 ⟨rfl, hd7, hc7⟩
        have D7 := hid hd7
        have A7 := hid (A4.out.at hc7 HA7.out)
        have R7 := hid (R4.out.at hc7 HR7.out)
        have C7 := hid (C4.out.trans (hc7.mono (fun k _ e => HO7.out k e)))
        clear hd7 hc7 u0 u1 a0 a1 a2 a3 a4 a5 r0 r1 r2 r3 r4 r5 s0 s1 s2 s3 s4 s5 hl1 hl2 hl3
        obtain ⟨a0, a1, a2, a3, a4, a5⟩ := A7.out.cells
        obtain ⟨q0, q1, q2, q3, q4, q5⟩ := A7.out.free
        obtain ⟨r0, r1, r2, r3, r4, r5⟩ := R7.out.cells
        obtain ⟨s0, s1, s2, s3, s4, s5⟩ := R7.out.free
        have hl1 := A7.out.lt
        have hl2 := R7.out.lt
        by_cases h2 : e2 = 0
        · subst h2
          rw [if_neg (fun e => e rfl)] at hy
          subst hy
          have F := hid (give_fin hd D7.out HO7.out HA7.out HR7.out C7.out R7.out at_ (hd.spare + 1))
          go_wp2
          obtain ⟨⟨x0, x1, x2, x3, x4, x5⟩, f2, f3⟩ := F.out
          refine @bodyPost_ret Tryz.prog Tryz.f152 (fun e w' => GiveGives R d b ((⟨hd.mode, hd.pages, at_, hd.spare + 1, hd.root, hd.change⟩, 0), S2) w w' e) _ _ (giveV (⟨hd.mode, hd.pages, at_, hd.spare + 1, hd.root, hd.change⟩, 0)) ?_ ?_ ?_
          · simp [results, giveV, hV, go_sem, x0, x1, x2, x3, x4, x5]
          · rfl
          · exact ⟨rfl, f3, f2⟩
        · rw [if_pos h2] at hy
          subst hy
          have h2' : (e2 != 0) = true := by simpa using h2
          have F := hid (zero_fin D7.out HO7.out HR7.out C7.out R7.out)
          clear h2
          go_wp2
          obtain ⟨f1, f2, f3⟩ := F.out
          obtain ⟨x0, x1, x2, x3, x4, x5⟩ := f1.zeros
          refine @bodyPost_ret Tryz.prog Tryz.f152 (fun e w' => GiveGives R d b ((hd0, e2), S2) w w' e) _ _ (giveV (hd0, e2)) ?_ ?_ ?_
          · simp [results, giveV, hV, hd0, go_sem, x0, x1, x2, x3, x4, x5]
          · rfl
          · exact ⟨rfl, f2, f3⟩
      · have hy := HY.out
        rw [go_err h1] at hy
        subst hy
        have h1' : (e1 != 0) = true := by simpa using h1
        have F := hid (zero_fin D4.out NO.out N7.out C4.out R4.out)
        clear h1 HY
        go_wp2
        obtain ⟨f1, f2, f3⟩ := F.out
        obtain ⟨x0, x1, x2, x3, x4, x5⟩ := f1.zeros
        refine @bodyPost_ret Tryz.prog Tryz.f152 (fun e w' => GiveGives R d b ((hd0, e1), S1) w w' e) _ _ (giveV (hd0, e1)) ?_ ?_ ?_
        · simp [results, giveV, hV, hd0, go_sem, x0, x1, x2, x3, x4, x5]
        · rfl
        · exact ⟨rfl, f2, f3⟩
end Sh
end Go.Proofs.YtkoglikaaehhjaaGreatDoor
