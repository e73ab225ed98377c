/-
  Put together: ShelfFor, ShelfGive, ShelfObj, ShelfNew.
-/
import Derived.Test.YtoifhcmgeackdaaGreatDoorGrpTrShA
import Derived.Test.YtoifhcmgeackdaaGreatDoorGrpTrSpC
import Derived.Test.YtoifhcmgeackdaaGreatDoorQuietTail
import Derived.Deep.RegionHeld3
import Derived.BigQuiet
/-
  The shelf's pages: contract of the project's trunkFor.
-/
namespace Go.Proofs.YtoifhcmgeackdaaGreatDoor
open Go.RowKit
namespace Sh
open Sp
open Num (hid)
open Mem (Bs bs IAt tI tS tIs tSs Chg Row ptr blk_cell blk_free blk_new blk_set blk_other blk_alloc row_kept row_shape row_type wpList_append_run)
variable {R : Nat → Prop} {w : World} {d b : Nat} {S : St}
def ForGives (R : Nat → Prop) (d b : Nat) (x : (Int × Tr × Int) × St) (w w' : World) (e : Ending) : Prop :=
  (∃ lv, e = .returned (.tuple #[.int .i64 x.1.1, trV x.1.2.1 lv, .int .i64 x.1.2.2]) ∧ Lrow w.heap.size lv x.1.2.1.list w') ∧ DeskR R w' d b x.2 ∧ Chg R w w'
theorem tf_none {h : Hd} {n : Int} (k : h.trunk = 0) : trunkFor h S n = ((n, ⟨h.trunk, []⟩, 0), S) := by rw [k]; exact if_pos k
theorem tf_of {h : Hd} {n : Int} (k : ¬ h.trunk = 0) {T : Tr} {e : Int} {S1 : St} (k2 : trunkAt S h.trunk = ((T, e), S1)) : trunkFor h S n = if e ≠ 0 then ((0, noT, e), S1) else if T.list.length < 50 then ((h.trunk, ⟨T.next, T.list ++ [n]⟩, 0), S1) else ((n, ⟨h.trunk, []⟩, 0), S1) := by
  unfold trunkFor
  rw [if_neg k, k2]
/-- The boxes of a head that came, and of the answer's trunk. -/
theorem boxesT (h : DeskR R w d b S) (hR : ∀ k, w.heap.size ≤ k → R k) (hd : Hd) : ∃ z, z = (w.alloc (.cells #[.int .i64 hd.mode, .int .i64 hd.pages, .int .i64 hd.trunk, .int .i64 hd.spare, .int .i64 hd.root, .int .u64 (hd.change : Nat)] tH)).alloc (tObj 0 nilS) ∧ z.heap.size = w.heap.size + 2 ∧ Hb w.heap.size hd z ∧ Tb (w.heap.size + 1) 0 nilS z ∧ Below w.heap.size w z ∧ DeskR (Since R w z) z d b S ∧
    (∀ k, Since R w z k → R k) ∧ ¬ Since R w z w.heap.size ∧ ¬ Since R w z (w.heap.size + 1) := by
  have e1 : (w.alloc (hObj hd)).heap.size = w.heap.size + 1 := by simp
  have h2 := Tb.new 0 nilS (w.alloc (hObj hd))
  rw [e1] at h2
  have h3 : Below w.heap.size w ((w.alloc (hObj hd)).alloc (tObj 0 nilS)) := ((Below.refl w.heap.size w).alloc (Nat.le_refl _) _).alloc (by simp) _
  have h1 : Hb w.heap.size hd ((w.alloc (hObj hd)).alloc (tObj 0 nilS)) := (Hb.new hd w).on ((Below.refl _ _).alloc (Nat.le_refl _) _)
  refine ⟨_, rfl, by simp, h1, h2, h3, h.since h3, Since.old hR h3.size, Since.no (Nat.le_refl _) (by simp; omega), Since.no (Nat.le_succ _) (by simp)⟩
/-- The answer's trunk is filled. -/
theorem for_fin {Q : Nat → Prop} {w7 : World} {S2 : St} (D7 : DeskR Q w7 d b S2) (hQ : ∀ k, Q k → R k) (h2 : ¬ Q (w.heap.size + 1)) (C7 : Chg R w w7) {n0 : Int} {l0 : Value} (T7 : Tb (w.heap.size + 1) n0 l0 w7) {N : Nat} (hN : w.heap.size ≤ N) {n : Int} {lv : Value} {l : List Int} (L7 : Lrow N lv l w7) :
    Tb (w.heap.size + 1) n lv (put2 w7 (w.heap.size + 1) n lv) ∧ Lrow w.heap.size lv l (put2 w7 (w.heap.size + 1) n lv) ∧ DeskR R (put2 w7 (w.heap.size + 1) n lv) d b S2 ∧ Chg R w (put2 w7 (w.heap.size + 1) n lv) := by
  have hL := ((L7.set T7 (.int .i64 n) (i := 0)).set (T7.set0 n) lv (i := 1))
  exact ⟨(T7.set0 n).set1 lv, ⟨hL.row, fun g hg => Nat.le_trans hN (hL.low g hg)⟩, ((D7.set h2 0 _).set h2 1 _).wide hQ, (C7.setCell (Or.inl (Nat.le_succ _)) _).setCell (Or.inl (Nat.le_succ _)) _⟩
set_option maxRecDepth 100000 in
set_option maxHeartbeats 2000000 in
theorem trunkfor_any (h : DeskR R w d b S) (hR : ∀ k, w.heap.size ≤ k → R k) {c : Nat} (hS : Small c S) (hc : c ≤ 40000) (hd : Hd) (hf : Fit hd) (n : Int) :
    Calls Tryz.prog 92 #[hV hd, dkV d, .int .i64 n] w fun e w' => ForGives R d b (trunkFor hd S n) w w' e := by
  obtain ⟨z, hz, hzs, Z1, Z2, Z3, Z4, Z5, Z6, Z7⟩ := boxesT h hR hd
  have hwf : Wf hd.trunk := wf_of (by unfold Fit at hf; omega) (by unfold Fit at hf; omega)
  have HZ := hid hz
  have HZS := hid hzs
  have HZ1 := hid Z1
  have HZ2 := hid Z2
  have HZ3 := hid Z3
  have HZ4 := hid Z4
  have HZ5 := hid Z5
  have HZ6 := hid Z6
  have HZ7 := hid Z7
  have HTA := hid (trunkat_any Z4 (fun k hk => Or.inr hk) hS (by omega) hd.trunk hwf)
  have HOK : Hid ((trunkAt S hd.trunk).1.2 = 0 → okT (trunkAt S hd.trunk).1.1 = true) := hid (tat_okT S hd.trunk)
  have HW := hid hR
  obtain ⟨a0, a1, a2, a3, a4, a5⟩ := Z1.cells
  obtain ⟨r0, r1⟩ := Z2.cells
  obtain ⟨s0, s1⟩ := Z2.free
  have hl1 := Z1.lt
  have hl2 := Z2.lt
  clear Z1 Z2 Z3 Z4 Z5 Z6 Z7 h hS hR hf hwf
  by_cases h0 : hd.trunk = 0
  · rw [tf_none h0]
    have h0' : (hd.trunk != 0) = false := by simpa using h0
    have F := hid (for_fin HZ4.out HZ5.out HZ7.out (Chg.of_below HZ3.out) HZ2.out (Nat.le_refl _) (n := hd.trunk) (Lrow.nil w.heap.size z))
    unfold hV
    clear HTA HOK h0
    go_enter Tryz.func92, Tryz.ntmps92
    go_upto_region 1 with fail
    rw [← HZ.out]
    clear hz
    go_wp2_with fail
    go_region
    go_wp2
    obtain ⟨f1, f2, f3, f4⟩ := F.out
    obtain ⟨x0, x1⟩ := f1.cells
    refine @bodyPost_ret Tryz.prog Tryz.f92 (fun e w' => ForGives R d b ((n, ⟨hd.trunk, []⟩, 0), S) w w' e) _ _ (.tuple #[.int .i64 n, trV ⟨hd.trunk, []⟩ nilS, .int .i64 0]) ?_ ?_ ?_
    · simp [results, trV, go_sem, x0, x1]
    · rfl
    · exact ⟨⟨_, rfl, f2.drew⟩, f3.drew, f4.drew⟩
  · generalize hX : trunkAt S hd.trunk = X at *
    obtain ⟨⟨T, e1⟩, S1⟩ := X
    simp only at HOK
    have h0' : (hd.trunk != 0) = true := by simpa using h0
    have HF := hid (tf_of (n := n) h0 hX)
    generalize hY : trunkFor hd S n = Y at *
    generalize hQ : Since R w z = Q at *
    unfold hV
    clear hX hY hQ h0
    go_enter Tryz.func92, Tryz.ntmps92
    go_upto_region 1 with fail
    rw [← HZ.out]
    clear hz
    go_wp2_with fail
    refine HTA.out.mono ?_
    rintro e w3 ⟨⟨lv, N, rfl, ⟨hNz, hNw⟩, hrow, hd3⟩, hc3⟩
    obtain ⟨ao, cap, rfl⟩ := hrow.shape
    unfold trV
    simp only at hrow hd3 ⊢
    have hB4 : Below w3.heap.size w3 (w3.alloc (tObj T.next (.slice ao T.list.length cap))) := (Below.refl w3.heap.size w3).alloc (Nat.le_refl _) _
    have U4 := hid (Tb.new T.next (.slice ao T.list.length cap) w3)
    have L4 := hid (hrow.on hB4)
    have D4 : Hid (DeskR (fun k => (Q k ∧ k < N) ∧ k < w3.heap.size) (w3.alloc (tObj T.next (.slice ao T.list.length cap))) d b S1) := hid ((hd3.mono (fun g hg e => ⟨e, hg⟩)).on hB4)
    have HNZ := hid hNz
    have HNW : Hid (N ≤ (w3.alloc (tObj T.next (.slice ao T.list.length cap))).heap.size) := hid (Nat.le_trans hNw (Nat.le_of_lt (by simp)))
    have N7 : Hid (¬ ((Q (w.heap.size + 1) ∧ w.heap.size + 1 < N) ∧ w.heap.size + 1 < w3.heap.size)) := hid (fun e => HZ7.out e.1.1)
    have NO : Hid (∀ k, (Q k ∧ k < N) ∧ k < w3.heap.size → R k) := hid (fun k e => HZ5.out k e.1.1)
    have A4 := hid ((HZ1.out.at hc3 HZ6.out).on hB4)
    have R4 := hid ((HZ2.out.at hc3 HZ7.out).on hB4)
    have C4 : Hid (Chg R w (w3.alloc (tObj T.next (.slice ao T.list.length cap)))) := hid (((Chg.of_below HZ3.out).trans (hc3.mono (fun k _ e => HZ5.out k e))).trans (Chg.of_below hB4))
    have hz4 : w3.heap.size < (w3.alloc (tObj T.next (.slice ao T.list.length cap))).heap.size := by simp
    have hz3 : w.heap.size + 2 ≤ w3.heap.size := by have := hc3.size; omega
    have HZL := hid hz4
    have HN4 : Hid (N ≤ (w3.alloc (tObj T.next (.slice ao T.list.length cap))).heap.size) := hid HNW.out
    have HZM := hid hz3
    clear hrow hd3 hc3 hNz hNw a0 a1 a2 a3 a4 a5 r0 r1 s0 s1 hl1 hl2 hB4 hz4 hz3
    go_upto_region 3 with fail
    generalize w3.alloc (tObj T.next (.slice ao T.list.length cap)) = w4 at *
    obtain ⟨u0, u1⟩ := U4.out.cells
    obtain ⟨v0, v1⟩ := U4.out.free
    obtain ⟨a0, a1, a2, a3, a4, a5⟩ := A4.out.cells
    obtain ⟨r0, r1⟩ := R4.out.cells
    obtain ⟨s0, s1⟩ := R4.out.free
    have hl1 := A4.out.lt
    have hl2 := R4.out.lt
    have hl3 := U4.out.lt
    have HY := hid HF.out
    by_cases h1 : e1 = 0
    · subst h1
      have hok := (okT_iff T).1 (HOK.out rfl)
      have hle := hok.2.1
      by_cases h5 : T.list.length < 50
      · have hy := HY.out
        rw [if_neg (fun e => e rfl), if_pos h5] at hy
        subst hy
        have h5' : (T.list.length : Int) < 50 := by omega
        obtain ⟨v', W1, hr, ho, hch, hw⟩ := Mem.push_int L4.out.row n (by omega)
        obtain ⟨ao2, cap2, rfl, -⟩ := row_shape ho
        have ux := U4.out.at hch (fun e => L4.out.ne U4.out _ e rfl)
        have rx := R4.out.at hch (fun e => L4.out.ne R4.out _ e rfl)
        have ax := A4.out.at hch (fun e => by have := L4.out.low _ e; have := HNZ.out; have := HZS.out; omega)
        have dx := D4.out.apart hch (fun k e hq => by have := L4.out.low k e; have := hq.1.2; omega)
        have cx : Chg R w W1 := C4.out.trans (hch.mono (fun k _ e => HW.out k (by have := L4.out.low k e; have := HNZ.out; have := HZS.out; omega)))
        have lx : Lrow N (.slice ao2 (T.list.length + 1) cap2) (T.list ++ [n]) W1 := by
          refine ⟨?_, fun g hg => ?_⟩
          · have e : intsV (T.list ++ [n]) = intsV T.list ++ [.int .i64 n] := List.map_append ..
            rw [e, List.length_append]
            exact ho
          · rcases hw g hg with h1 | h1
            · exact L4.out.low g h1
            · have := HZL.out
              have hN2 := HN4.out
              omega
        have hne1 : w3.heap.size ≠ w.heap.size := by have := HZM.out; omega
        have hne2 : w3.heap.size ≠ w.heap.size + 1 := by have := HZM.out; omega
        have sx := lx.set ux (i := 1) (.slice ao2 (T.list.length + 1) cap2)
        have U5 := hid (ux.set1 (.slice ao2 (T.list.length + 1) cap2))
        have A5 := hid (ax.other (i := 1) hne1.symm (.slice ao2 (T.list.length + 1) cap2))
        have R5 := hid (rx.other (i := 1) hne2.symm (.slice ao2 (T.list.length + 1) cap2))
        have D5 := hid (dx.set (g := w3.heap.size) (fun e => Nat.lt_irrefl _ e.2) 1 (.slice ao2 (T.list.length + 1) cap2))
        have C5 := hid (cx.setCell (p := ⟨w3.heap.size, 1, none⟩) (Or.inl (by have := HZM.out; show w.heap.size ≤ w3.heap.size; omega)) (.slice ao2 (T.list.length + 1) cap2))
        have F := hid (for_fin D5.out NO.out N7.out C5.out R5.out (by have := HNZ.out; have := HZS.out; omega) (n := T.next) sx)
        have HR := hid hr
        obtain ⟨t0, t1⟩ := ux.cells
        obtain ⟨t2, t3⟩ := ux.free
        have t4 := ux.lt
        have B1 := blk_new
        clear HF HY hok hle h5 hr ho hch hw ux rx ax dx cx lx sx hne1 hne2 B1
        go_upto_region 7 with (at_builtin; refine wpList_append_run rfl (.tmp 30) (.tmp 32) tIs tIs rfl _ _ (by simp [Act.eval]) (by simp [Act.eval]) HR.out ?_)
        generalize W1.setCell ⟨w3.heap.size, 1, none⟩ (.slice ao2 (T.list.length + 1) cap2) = w5 at *
        clear u0 u1 v0 v1 a0 a1 a2 a3 a4 a5 r0 r1 s0 s1 hl1 hl2 hl3 t0 t1 t2 t3 t4
        obtain ⟨u0, u1⟩ := U5.out.cells
        obtain ⟨a0, a1, a2, a3, a4, a5⟩ := A5.out.cells
        obtain ⟨r0, r1⟩ := R5.out.cells
        obtain ⟨s0, s1⟩ := R5.out.free
        have hl1 := A5.out.lt
        have hl2 := R5.out.lt
        have hl3 := U5.out.lt
        go_region
        go_wp2
        obtain ⟨f1, f2, f3, f4⟩ := F.out
        obtain ⟨x0, x1⟩ := f1.cells
        refine @bodyPost_ret Tryz.prog Tryz.f92 (fun e w' => ForGives R d b ((hd.trunk, ⟨T.next, T.list ++ [n]⟩, 0), S1) w w' e) _ _ (.tuple #[.int .i64 hd.trunk, trV ⟨T.next, T.list ++ [n]⟩ (.slice ao2 (T.list.length + 1) cap2), .int .i64 0]) ?_ ?_ ?_
        · simp [results, trV, go_sem, x0, x1]
        · rfl
        · exact ⟨⟨_, rfl, f2.drew⟩, f3.drew, f4.drew⟩
      · have hy := HY.out
        rw [if_neg (fun e => e rfl), if_neg h5] at hy
        subst hy
        have h5' : ¬ (T.list.length : Int) < 50 := by omega
        have F := hid (for_fin D4.out NO.out N7.out C4.out R4.out (Nat.le_refl _) (n := hd.trunk) (Lrow.nil w.heap.size w4))
        clear HF HY hok hle h5
        go_wp2_with fail
        go_region
        go_wp2
        obtain ⟨f1, f2, f3, f4⟩ := F.out
        obtain ⟨x0, x1⟩ := f1.cells
        refine @bodyPost_ret Tryz.prog Tryz.f92 (fun e w' => ForGives R d b ((n, ⟨hd.trunk, []⟩, 0), S1) w w' e) _ _ (.tuple #[.int .i64 n, trV ⟨hd.trunk, []⟩ nilS, .int .i64 0]) ?_ ?_ ?_
        · simp [results, trV, go_sem, x0, x1]
        · rfl
        · exact ⟨⟨_, rfl, f2.drew⟩, f3.drew, f4.drew⟩
    · have hy := HY.out
      rw [if_pos h1] at hy
      subst hy
      have h1' : (e1 != 0) = true := by simpa using h1
      have F := hid (for_fin D4.out NO.out N7.out C4.out R4.out (Nat.le_refl _) (n := 0) (Lrow.nil w.heap.size w4))
      clear h1 HF HY
      go_wp2
      obtain ⟨f1, f2, f3, f4⟩ := F.out
      obtain ⟨x0, x1⟩ := f1.cells
      refine @bodyPost_ret Tryz.prog Tryz.f92 (fun e w' => ForGives R d b ((0, noT, e1), S1) w w' e) _ _ (.tuple #[.int .i64 0, trV noT nilS, .int .i64 e1]) ?_ ?_ ?_
      · simp [results, trV, noT, go_sem, x0, x1]
      · rfl
      · exact ⟨⟨_, rfl, f2⟩, f3, f4⟩
end Sh
end Go.Proofs.YtoifhcmgeackdaaGreatDoor

/-
  The shelf's pages: contract of the project's Give.
-/
namespace Go.Proofs.YtoifhcmgeackdaaGreatDoor
open Go.RowKit
namespace Sh
open Sp
open Num (hid)
open Mem (Bs bs IAt tI tS tIs tSs Chg Row ptr blk_cell blk_free blk_new blk_set blk_other blk_alloc row_kept row_shape row_type)
variable {R : Nat → Prop} {w : World} {d b : Nat} {S : St}
def GiveGives (R : Nat → Prop) (d b : Nat) (x : (Hd × Int) × St) (w w' : World) (e : Ending) : Prop := e = .returned (giveV x.1) ∧ DeskR R w' d b x.2 ∧ Chg R w w'
theorem gv_arg {h : Hd} {n : Int} (k : n < 1 ∨ h.pages ≤ n) : giveM h S n = ((hd0, 1), S) := if_pos k
theorem gv_full {h : Hd} {n : Int} (k : ¬ (n < 1 ∨ h.pages ≤ n)) (k2 : h.pages - 1 ≤ h.spare) : giveM h S n = ((hd0, 30), S) := by unfold giveM; rw [if_neg k, if_pos k2]
theorem gv_of {h : Hd} {n : Int} (k : ¬ (n < 1 ∨ h.pages ≤ n)) (k2 : ¬ h.pages - 1 ≤ h.spare) {x : (Int × Tr × Int) × St} (k3 : trunkFor h S n = x) : giveM h S n = giveOf h x := by unfold giveM; rw [if_neg k, if_neg k2, k3]
theorem go_err {h : Hd} {a : Int} {T : Tr} {e : Int} {S1 : St} (k : ¬ e = 0) : giveOf h ((a, T, e), S1) = ((hd0, e), S1) := if_pos k
theorem go_ok {h : Hd} {a : Int} {T : Tr} {S1 : St} {e2 : Int} {S2 : St} (k : putTrunk S1 a T = (e2, S2)) : giveOf h ((a, T, 0), S1) = if e2 ≠ 0 then ((hd0, e2), S2) else (({ h with trunk := a, spare := h.spare + 1 }, 0), S2) := by
  unfold giveOf
  rw [if_neg (fun e => e rfl)]
  simp only [k]
theorem tf_len (h : Hd) (S : St) (n : Int) : (trunkFor h S n).1.2.1.list.length ≤ 51 ∧ ∀ c, Small c S → Small (c + 1) (trunkFor h S n).2 := by
  by_cases h0 : h.trunk = 0
  · rw [tf_none h0]
    exact ⟨Nat.zero_le _, fun c hc => hc.more (Nat.le_succ _)⟩
  · obtain ⟨⟨⟨T, e⟩, S1⟩, hX⟩ : ∃ x, trunkAt S h.trunk = x := ⟨_, rfl⟩
    have hs := fun c (hc : Small c S) => small_tat hc h.trunk
    rw [hX] at hs
    rw [tf_of h0 hX]
    split
    · exact ⟨Nat.zero_le _, hs⟩
    · split
      · rename_i h1 h2
        refine ⟨?_, hs⟩
        show (T.list ++ [n]).length ≤ 51
        rw [List.length_append, List.length_singleton]
        omega
      · exact ⟨Nat.zero_le _, hs⟩
theorem give_fin {Q : Nat → Prop} {w7 : World} {S2 : St} (hd : Hd) (D7 : DeskR Q w7 d b S2) (hQ : ∀ k, Q k → R k) (h1 : ¬ Q w.heap.size) (h2 : ¬ Q (w.heap.size + 1)) (C7 : Chg R w w7) (R7 : Hb (w.heap.size + 1) hd0 w7) (t s : Int) :
    ((gvW w7 w.heap.size hd t s).cell? ⟨w.heap.size + 1, 0, none⟩ = some (.int .i64 hd.mode) ∧ (gvW w7 w.heap.size hd t s).cell? ⟨w.heap.size + 1, 1, none⟩ = some (.int .i64 hd.pages) ∧ (gvW w7 w.heap.size hd t s).cell? ⟨w.heap.size + 1, 2, none⟩ = some (.int .i64 t) ∧ (gvW w7 w.heap.size hd t s).cell? ⟨w.heap.size + 1, 3, none⟩ = some (.int .i64 s) ∧ (gvW w7 w.heap.size hd t s).cell? ⟨w.heap.size + 1, 4, none⟩ = some (.int .i64 hd.root) ∧ (gvW w7 w.heap.size hd t s).cell? ⟨w.heap.size + 1, 5, none⟩ = some (.int .u64 (hd.change : Nat))) ∧
    Chg R w (gvW w7 w.heap.size hd t s) ∧ DeskR R (gvW w7 w.heap.size hd t s) d b S2 := by
  have hne : w.heap.size + 1 ≠ w.heap.size := by omega
  have R8 := (R7.other (i := 2) hne (.int .i64 t)).other (i := 3) hne (.int .i64 s)
  have H := R8.put ⟨hd.mode, hd.pages, t, s, hd.root, hd.change⟩
  have C := chg_put6 ((C7.setCell (p := ⟨w.heap.size, 2, none⟩) (Or.inl (Nat.le_refl _)) (.int .i64 t)).setCell (p := ⟨w.heap.size, 3, none⟩) (Or.inl (Nat.le_refl _)) (.int .i64 s)) (r := w.heap.size + 1) (Or.inl (Nat.le_succ _)) ⟨hd.mode, hd.pages, t, s, hd.root, hd.change⟩
  have D := desk_put6 ((D7.set h1 2 (.int .i64 t)).set h1 3 (.int .i64 s)) h2 ⟨hd.mode, hd.pages, t, s, hd.root, hd.change⟩
  exact ⟨H.cells, C, D.wide hQ⟩
/-- The zero head is the answer. -/
theorem zero_fin {Q : Nat → Prop} {w7 : World} {S2 : St} (D7 : DeskR Q w7 d b S2) (hQ : ∀ k, Q k → R k) (h2 : ¬ Q (w.heap.size + 1)) (C7 : Chg R w w7) (R7 : Hb (w.heap.size + 1) hd0 w7) :
    Hb (w.heap.size + 1) hd0 (put6z w7 (w.heap.size + 1)) ∧ DeskR R (put6z w7 (w.heap.size + 1)) d b S2 ∧ Chg R w (put6z w7 (w.heap.size + 1)) :=
  ⟨R7.zero, (desk_put6z D7 h2).wide hQ, chg_put6z C7 (Or.inl (Nat.le_succ _))⟩
theorem tf_wf (h : Hd) (S : St) (n : Int) (hf : Fit h) (h1 : ¬ n < 1) (h2 : ¬ h.pages ≤ n) : Wf (trunkFor h S n).1.1 := by
  have ht : Wf h.trunk := wf_of (by unfold Fit at hf; omega) (by unfold Fit at hf; omega)
  have hn : Wf n := wf_of (by omega) (by unfold Fit at hf; omega)
  unfold trunkFor
  split
  · exact hn
  · split
    · exact wf_of (n := 0) (by decide) (by decide)
    · split
      · exact ht
      · exact hn
set_option maxRecDepth 100000 in
set_option maxHeartbeats 4000000 in
theorem give_any (h : DeskR R w d b S) (hR : ∀ k, w.heap.size ≤ k → R k) {c : Nat} (hS : Small c S) (hc : c ≤ 30000) (hd : Hd) (hf : Fit hd) (n : Int) :
    Calls Tryz.prog 51 #[hV hd, dkV d, .int .i64 n] w fun e w' => GiveGives R d b (giveM hd S n) w w' e := by
  obtain ⟨z, hz, hzs, Z1, Z2, Z3, Z4, Z5, Z6, Z7⟩ := boxes h hR hd
  have HZ := hid hz
  have HZS := hid hzs
  have HZ1 := hid Z1
  have HZ2 := hid Z2
  have HZ3 := hid Z3
  have HZ4 := hid Z4
  have HZ5 := hid Z5
  have HZ6 := hid Z6
  have HZ7 := hid Z7
  have HTA := hid (trunkfor_any Z4 (fun k hk => Or.inr hk) hS (by omega) hd hf n)
  have HLN := hid (tf_len hd S n)
  have HSM := hid ((tf_len hd S n).2 c hS)
  have HAT := hid (fun h1 h2 => tf_wf hd S n hf h1 h2)
  have HW := hid hR
  have F0 := hid (zero_fin Z4 Z5 Z7 (Chg.of_below Z3) Z2)
  unfold Fit at hf
  have hsp : wrap64 (hd.spare + 1) = hd.spare + 1 := by rw [Num.wrap_i]; omega
  have hpg : wrap64 (hd.pages - 1) = hd.pages - 1 := by rw [Num.wrap_i]; omega
  obtain ⟨a0, a1, a2, a3, a4, a5⟩ := Z1.cells
  obtain ⟨r0, r1, r2, r3, r4, r5⟩ := Z2.cells
  obtain ⟨s0, s1, s2, s3, s4, s5⟩ := Z2.free
  have hl1 := Z1.lt
  have hl2 := Z2.lt
  clear Z1 Z2 Z3 Z4 Z5 Z6 Z7 h hS hR hf
  by_cases hn : n < 1 ∨ hd.pages ≤ n
  · rw [gv_arg hn]
    unfold hV
    clear HTA HLN HSM
    by_cases hn1 : n < 1
    · clear hn
      go_enter Tryz.func51, Tryz.ntmps51
      go_upto_region 1 with fail
      rw [← HZ.out]
      clear hz
      go_wp2
      obtain ⟨f1, f2, f3⟩ := F0.out
      obtain ⟨x0, x1, x2, x3, x4, x5⟩ := f1.zeros
      refine @bodyPost_ret Tryz.prog Tryz.f51 (fun e w' => GiveGives R d b ((hd0, 1), S) w w' e) _ _ (giveV (hd0, 1)) ?_ ?_ ?_
      · simp [results, giveV, hV, hd0, go_sem, x0, x1, x2, x3, x4, x5]
      · rfl
      · exact ⟨rfl, f2, f3⟩
    · have hn2 : hd.pages ≤ n := by omega
      clear hn
      go_enter Tryz.func51, Tryz.ntmps51
      go_upto_region 1 with fail
      rw [← HZ.out]
      clear hz
      go_wp2
      obtain ⟨f1, f2, f3⟩ := F0.out
      obtain ⟨x0, x1, x2, x3, x4, x5⟩ := f1.zeros
      refine @bodyPost_ret Tryz.prog Tryz.f51 (fun e w' => GiveGives R d b ((hd0, 1), S) w w' e) _ _ (giveV (hd0, 1)) ?_ ?_ ?_
      · simp [results, giveV, hV, hd0, go_sem, x0, x1, x2, x3, x4, x5]
      · rfl
      · exact ⟨rfl, f2, f3⟩
  · have hn1 : ¬ n < 1 := by omega
    have hn2 : ¬ hd.pages ≤ n := by omega
    by_cases hfu : hd.pages - 1 ≤ hd.spare
    · rw [gv_full hn hfu]
      unfold hV
      clear HTA HLN HSM hn
      go_enter Tryz.func51, Tryz.ntmps51
      go_upto_region 1 with fail
      rw [← HZ.out]
      clear hz
      go_wp2
      obtain ⟨f1, f2, f3⟩ := F0.out
      obtain ⟨x0, x1, x2, x3, x4, x5⟩ := f1.zeros
      refine @bodyPost_ret Tryz.prog Tryz.f51 (fun e w' => GiveGives R d b ((hd0, 30), S) w w' e) _ _ (giveV (hd0, 30)) ?_ ?_ ?_
      · simp [results, giveV, hV, hd0, go_sem, x0, x1, x2, x3, x4, x5]
      · rfl
      · exact ⟨rfl, f2, f3⟩
    · have HAW := hid (HAT.out hn1 hn2)
      clear HAT
      generalize hX : trunkFor hd S n = X at *
      rw [gv_of hn hfu hX]
      obtain ⟨⟨at_, T, e1⟩, S1⟩ := X
      generalize hQ : Since R w z = Q at *
      generalize hY : giveOf hd ((at_, T, e1), S1) = Y at *
      have HY := hid hY
      simp only at HLN HSM HAW
      unfold hV
      clear hX hQ hY hn
      go_enter Tryz.func51, Tryz.ntmps51
      go_upto_region 1 with fail
      rw [← HZ.out]
      clear hz
      go_wp2_with fail
      refine HTA.out.mono ?_
      rintro e w3 ⟨⟨lv, rfl, hrow⟩, hd3, hc3⟩
      obtain ⟨ao, cap, rfl⟩ := hrow.shape
      unfold trV
      simp only at hrow hd3 ⊢
      have hB4 : Below w3.heap.size w3 (w3.alloc (tObj T.next (.slice ao T.list.length cap))) := (Below.refl w3.heap.size w3).alloc (Nat.le_refl _) _
      have U4 := hid (Tb.new T.next (.slice ao T.list.length cap) w3)
      have HI4 := hid ((hrow.on hB4).at (Nat.le_trans HLN.out.1 (by decide)))
      have D4 : Hid (DeskR (fun k => Q k ∧ k < w3.heap.size) (w3.alloc (tObj T.next (.slice ao T.list.length cap))) d b S1) := hid ((hd3.mono (fun g hg e => ⟨e, hg⟩)).on hB4)
      have N6 : Hid (¬ (Q w.heap.size ∧ w.heap.size < w3.heap.size)) := hid (fun e => HZ6.out e.1)
      have N7 : Hid (¬ (Q (w.heap.size + 1) ∧ w.heap.size + 1 < w3.heap.size)) := hid (fun e => HZ7.out e.1)
      have NO : Hid (∀ k, Q k ∧ k < w3.heap.size → R k) := hid (fun k e => HZ5.out k e.1)
      have A4 := hid ((HZ1.out.at hc3 HZ6.out).on hB4)
      have R4 := hid ((HZ2.out.at hc3 HZ7.out).on hB4)
      have C4 : Hid (Chg R w (w3.alloc (tObj T.next (.slice ao T.list.length cap)))) := hid (((Chg.of_below HZ3.out).trans (hc3.mono (fun k _ e => HZ5.out k e))).trans (Chg.of_below hB4))
      clear hrow hd3 hc3 a0 a1 a2 a3 a4 a5 r0 r1 r2 r3 r4 r5 s0 s1 s2 s3 s4 s5 hl1 hl2 hB4
      go_upto_region 6 with fail
      generalize w3.alloc (tObj T.next (.slice ao T.list.length cap)) = w4 at *
      obtain ⟨u0, u1⟩ := U4.out.cells
      obtain ⟨a0, a1, a2, a3, a4, a5⟩ := A4.out.cells
      obtain ⟨r0, r1, r2, r3, r4, r5⟩ := R4.out.cells
      obtain ⟨s0, s1, s2, s3, s4, s5⟩ := R4.out.free
      have hl1 := A4.out.lt
      have hl2 := R4.out.lt
      have hl3 := U4.out.lt
      by_cases h1 : e1 = 0
      · subst h1
        have hPT := puttrunk_any (D4.out.since (Below.refl _ _)) HSM.out (by omega) at_ HAW.out T (.slice ao T.list.length cap) HI4.out
        have hA7 : ¬ Since (fun k => Q k ∧ k < w3.heap.size) w4 w4 w.heap.size := by
          rintro (e | e)
          · exact N6.out e.1
          · omega
        have hR7 : ¬ Since (fun k => Q k ∧ k < w3.heap.size) w4 w4 (w.heap.size + 1) := by
          rintro (e | e)
          · exact N7.out e.1
          · omega
        have hO7 : ∀ k, Since (fun k => Q k ∧ k < w3.heap.size) w4 w4 k → R k := by
          rintro k (e | e)
          · exact NO.out k e.1
          · exact HW.out k (Nat.le_trans C4.out.size e)
        have HA7 := hid hA7
        have HR7 := hid hR7
        have HO7 := hid hO7
        generalize hP7 : putTrunk S1 at_ T = P7 at *
        obtain ⟨e2, S2⟩ := P7
        have hy := HY.out
        rw [go_ok hP7] at hy
        have HP := hid hPT
        generalize Since (fun k => Q k ∧ k < w3.heap.size) w4 w4 = Q7 at *
        unfold trV at HP
        simp only at HP
        clear hPT hA7 hR7 hO7 hP7 HY
        go_wp2_with fail
        refine HP.out.mono ?_
        rintro e w7 ⟨rfl, hd7, hc7⟩
        have D7 := hid hd7
        have A7 := hid (A4.out.at hc7 HA7.out)
        have R7 := hid (R4.out.at hc7 HR7.out)
        have C7 := hid (C4.out.trans (hc7.mono (fun k _ e => HO7.out k e)))
        clear hd7 hc7 u0 u1 a0 a1 a2 a3 a4 a5 r0 r1 r2 r3 r4 r5 s0 s1 s2 s3 s4 s5 hl1 hl2 hl3
        obtain ⟨a0, a1, a2, a3, a4, a5⟩ := A7.out.cells
        obtain ⟨q0, q1, q2, q3, q4, q5⟩ := A7.out.free
        obtain ⟨r0, r1, r2, r3, r4, r5⟩ := R7.out.cells
        obtain ⟨s0, s1, s2, s3, s4, s5⟩ := R7.out.free
        have hl1 := A7.out.lt
        have hl2 := R7.out.lt
        by_cases h2 : e2 = 0
        · subst h2
          rw [if_neg (fun e => e rfl)] at hy
          subst hy
          have F := hid (give_fin hd D7.out HO7.out HA7.out HR7.out C7.out R7.out at_ (hd.spare + 1))
          go_wp2
          obtain ⟨⟨x0, x1, x2, x3, x4, x5⟩, f2, f3⟩ := F.out
          refine @bodyPost_ret Tryz.prog Tryz.f51 (fun e w' => GiveGives R d b ((⟨hd.mode, hd.pages, at_, hd.spare + 1, hd.root, hd.change⟩, 0), S2) w w' e) _ _ (giveV (⟨hd.mode, hd.pages, at_, hd.spare + 1, hd.root, hd.change⟩, 0)) ?_ ?_ ?_
          · simp [results, giveV, hV, go_sem, x0, x1, x2, x3, x4, x5]
          · rfl
          · exact ⟨rfl, f3, f2⟩
        · rw [if_pos h2] at hy
          subst hy
          have h2' : (e2 != 0) = true := by simpa using h2
          have F := hid (zero_fin D7.out HO7.out HR7.out C7.out R7.out)
          clear h2
          go_wp2
          obtain ⟨f1, f2, f3⟩ := F.out
          obtain ⟨x0, x1, x2, x3, x4, x5⟩ := f1.zeros
          refine @bodyPost_ret Tryz.prog Tryz.f51 (fun e w' => GiveGives R d b ((hd0, e2), S2) w w' e) _ _ (giveV (hd0, e2)) ?_ ?_ ?_
          · simp [results, giveV, hV, hd0, go_sem, x0, x1, x2, x3, x4, x5]
          · rfl
          · exact ⟨rfl, f2, f3⟩
      · have hy := HY.out
        rw [go_err h1] at hy
        subst hy
        have h1' : (e1 != 0) = true := by simpa using h1
        have F := hid (zero_fin D4.out NO.out N7.out C4.out R4.out)
        clear h1 HY
        go_wp2
        obtain ⟨f1, f2, f3⟩ := F.out
        obtain ⟨x0, x1, x2, x3, x4, x5⟩ := f1.zeros
        refine @bodyPost_ret Tryz.prog Tryz.f51 (fun e w' => GiveGives R d b ((hd0, e1), S1) w w' e) _ _ (giveV (hd0, e1)) ?_ ?_ ?_
        · simp [results, giveV, hV, hd0, go_sem, x0, x1, x2, x3, x4, x5]
        · rfl
        · exact ⟨rfl, f2, f3⟩
end Sh
end Go.Proofs.YtoifhcmgeackdaaGreatDoor

/-
  A shelf in memory; contracts of its calls.
-/
namespace Go.Proofs.YtoifhcmgeackdaaGreatDoor
open Go.RowKit
namespace Sh
open Sp
open Num (hid)
open Mem (Bs bs IAt tI tS tIs tSs Chg Row ptr blk_cell blk_free blk_new blk_set blk_other blk_alloc row_kept row_shape row_type)
abbrev tSh : TypeId := 73
abbrev shC (lim : Int) (h : Hd) (d : Nat) (arm : Int) : Array Value := #[.int .i64 lim, .int .i64 h.mode, .int .i64 h.pages, .int .i64 h.trunk, .int .i64 h.spare, .int .i64 h.root, .int .u64 (h.change : Nat), .map (some d), .int .i64 arm]
/-- The shelf's box. -/
abbrev ShBlk (s d : Nat) (lim : Int) (h : Hd) (arm : Int) (w : World) : Prop := w.heap[s]? = some (.cells (shC lim h d arm) tSh (0, 0))
structure ShAt (s d : Nat) (lim : Int) (h : Hd) (arm : Int) (S : St) (w : World) : Prop where
  blk : ShBlk s d lim h arm w
  pages : DeskR (· = d) w d 0 S
variable {s d : Nat} {lim : Int} {h : Hd} {arm : Int} {S : St} {w w' : World}
theorem ShAt.ne (A : ShAt s d lim h arm S w) : s ≠ d := by
  rintro rfl
  obtain ⟨D, ⟨es, clock, hb, -⟩, -⟩ := A.pages.map
  have := A.blk.symm.trans hb
  cases this
theorem ShBlk.cells (b : ShBlk s d lim h arm w) : w.cell? ⟨s, 0, none⟩ = some (.int .i64 lim) ∧ w.cell? ⟨s, 1, none⟩ = some (.int .i64 h.mode) ∧ w.cell? ⟨s, 2, none⟩ = some (.int .i64 h.pages) ∧ w.cell? ⟨s, 3, none⟩ = some (.int .i64 h.trunk) ∧ w.cell? ⟨s, 4, none⟩ = some (.int .i64 h.spare) ∧ w.cell? ⟨s, 5, none⟩ = some (.int .i64 h.root) ∧ w.cell? ⟨s, 6, none⟩ = some (.int .u64 (h.change : Nat)) ∧ w.cell? ⟨s, 7, none⟩ = some (.map (some d)) ∧ w.cell? ⟨s, 8, none⟩ = some (.int .i64 arm) :=
  ⟨blk_cell b 0, blk_cell b 1, blk_cell b 2, blk_cell b 3, blk_cell b 4, blk_cell b 5, blk_cell b 6, blk_cell b 7, blk_cell b 8⟩
theorem ShBlk.free (b : ShBlk s d lim h arm w) : w.frozen? ⟨s, 1, none⟩ = false ∧ w.frozen? ⟨s, 2, none⟩ = false ∧ w.frozen? ⟨s, 3, none⟩ = false ∧ w.frozen? ⟨s, 4, none⟩ = false ∧ w.frozen? ⟨s, 5, none⟩ = false ∧ w.frozen? ⟨s, 6, none⟩ = false ∧ w.frozen? ⟨s, 8, none⟩ = false :=
  ⟨blk_free b 1, blk_free b 2, blk_free b 3, blk_free b 4, blk_free b 5, blk_free b 6, blk_free b 8⟩
abbrev putH (w : World) (s : Nat) (g : Hd) : World := (((((w.setCell ⟨s, 1, none⟩ (.int .i64 g.mode)).setCell ⟨s, 2, none⟩ (.int .i64 g.pages)).setCell ⟨s, 3, none⟩ (.int .i64 g.trunk)).setCell ⟨s, 4, none⟩ (.int .i64 g.spare)).setCell ⟨s, 5, none⟩ (.int .i64 g.root)).setCell ⟨s, 6, none⟩ (.int .u64 (g.change : Nat))
theorem ShBlk.put (b : ShBlk s d lim h arm w) (g : Hd) : ShBlk s d lim g arm (putH w s g) :=
  blk_set (blk_set (blk_set (blk_set (blk_set (blk_set b 1 (.int .i64 g.mode)) 2 (.int .i64 g.pages)) 3 (.int .i64 g.trunk)) 4 (.int .i64 g.spare)) 5 (.int .i64 g.root)) 6 (.int .u64 (g.change : Nat))
abbrev Two (s d : Nat) : Nat → Prop := fun k => k = s ∨ k = d
theorem ShAt.apart {F : Nat → Prop} (A : ShAt s d lim h arm S w) (hc : Chg F w w') (h1 : ¬ F s) (h2 : ¬ F d) : ShAt s d lim h arm S w' :=
  ⟨hc.at A.blk h1, A.pages.apart hc (fun _ hk e => h2 (e ▸ hk))⟩
theorem ShAt.on (A : ShAt s d lim h arm S w) (hb : Below w.heap.size w w') : ShAt s d lim h arm S w' := A.apart (F := fun _ => False) (Chg.of_below hb) id id
theorem ShAt.lt (A : ShAt s d lim h arm S w) : s < w.heap.size ∧ d < w.heap.size := ⟨lt_of_block A.blk, A.pages.lt⟩
/-! ### Take and Give over the shelf's map -/
theorem take_map (D : DeskR (· = d) w d 0 S) {c : Nat} (hS : Small c S) (hc : c ≤ 30000) (hd : Hd) (hf : Fit hd) :
    Calls Tryz.prog 35 #[hV hd, dkV d] w fun e w' => e = .returned (takeV (takeM hd S).1) ∧ DeskR (· = d) w' d 0 (takeM hd S).2 ∧ Chg (· = d) w w' := by
  have D1 : DeskR (fun k => k = d ∨ w.heap.size ≤ k) w d 0 S := ⟨Or.inl rfl, D.len, D.map⟩
  refine (take_any D1 (fun k hk => Or.inr hk) hS (by omega) hd hf).mono ?_
  rintro e w' ⟨rfl, D2, C2⟩
  exact ⟨rfl, ⟨rfl, D2.len, D2.map⟩, C2.mono (fun k hk e => by omega)⟩
theorem give_map (D : DeskR (· = d) w d 0 S) {c : Nat} (hS : Small c S) (hc : c ≤ 30000) (hd : Hd) (hf : Fit hd) (n : Int) :
    Calls Tryz.prog 51 #[hV hd, dkV d, .int .i64 n] w fun e w' => e = .returned (giveV (giveM hd S n).1) ∧ DeskR (· = d) w' d 0 (giveM hd S n).2 ∧ Chg (· = d) w w' := by
  have D1 : DeskR (fun k => k = d ∨ w.heap.size ≤ k) w d 0 S := ⟨Or.inl rfl, D.len, D.map⟩
  refine (give_any D1 (fun k hk => Or.inr hk) hS (by omega) hd hf n).mono ?_
  rintro e w' ⟨rfl, D2, C2⟩
  exact ⟨rfl, ⟨rfl, D2.len, D2.map⟩, C2.mono (fun k hk e => by omega)⟩
/-! ### call -/
theorem call_ok (b : ShBlk s d lim h arm w) (ha : arm < 1) : Calls Tryz.prog 34 #[ptr s] w fun e w' => e = .returned (.int .i64 0) ∧ w = w' := by
  obtain ⟨-, -, -, -, -, -, -, -, c8⟩ := b.cells
  have h1 : (arm == 1) = false := by simp; omega
  have h2 : ¬ 1 < arm := by omega
  clear b ha
  go_enter Tryz.func34, Tryz.ntmps34
  go_wp2
  go_ret
  exact ⟨rfl, rfl⟩
theorem call_io (b : ShBlk s d lim h 1 w) : Calls Tryz.prog 34 #[ptr s] w fun e w' => e = .returned (.int .i64 11) ∧ w = w' := by
  obtain ⟨-, -, -, -, -, -, -, -, c8⟩ := b.cells
  clear b
  go_enter Tryz.func34, Tryz.ntmps34
  go_wp2
  go_ret
  exact ⟨rfl, rfl⟩
theorem call_nil (w : World) : Calls Tryz.prog 34 #[.pointer none] w fun e w' => e = .returned (.int .i64 2) ∧ w = w' := by
  go_enter Tryz.func34, Tryz.ntmps34
  go_wp2
  go_ret
  exact ⟨rfl, rfl⟩
/-! ### Get, Put -/
set_option maxRecDepth 100000 in
theorem get_ok (A : ShAt s d lim h arm S w) (ha : arm < 1) {n : Int} (hn : Wf n) :
    Calls Tryz.prog 97 #[ptr s, .int .i64 n] w fun e w' => e = .returned (.tuple #[.string (bs (S.get n).1.1), .int .i64 (S.get n).1.2]) ∧ Below w.heap.size w w' := by
  obtain ⟨-, -, -, -, -, -, -, c7, -⟩ := A.blk.cells
  have HC := hid (call_ok A.blk ha)
  have HG := hid (pget_any A.pages hn)
  generalize (S.get n).1 = x at *
  clear A ha hn
  go_enter Tryz.func97, Tryz.ntmps97
  go_wp2_with fail
  refine HC.out.mono ?_
  rintro e w1 ⟨rfl, rfl⟩
  go_wp2_with fail
  refine HG.out.mono ?_
  rintro e w2 ⟨rfl, hb⟩
  have HB := hid hb
  clear hb c7
  go_wp2
  go_ret2
  exact ⟨rfl, HB.out⟩
set_option maxRecDepth 100000 in
theorem get_io (b : ShBlk s d lim h 1 w) (n : Int) :
    Calls Tryz.prog 97 #[ptr s, .int .i64 n] w fun e w' => e = .returned (.tuple #[.string ⟨#[]⟩, .int .i64 11]) ∧ w = w' := by
  have HC := hid (call_io b)
  clear b
  go_enter Tryz.func97, Tryz.ntmps97
  go_wp2_with fail
  refine HC.out.mono ?_
  rintro e w1 ⟨rfl, rfl⟩
  go_wp2
  go_ret2
  exact ⟨rfl, rfl⟩
set_option maxRecDepth 100000 in
theorem put_ok (A : ShAt s d lim h arm S w) (ha : arm < 1) {c : Nat} (hS : Small c S) (hc : c ≤ 50000) {n : Int} (hn : Wf n) (x : Bs) :
    Calls Tryz.prog 14 #[ptr s, .int .i64 n, .string (bs x)] w fun e w' => e = .returned (.int .i64 (S.put n x).1) ∧ ShAt s d lim h arm (S.put n x).2 w' ∧ Chg (Two s d) w w' := by
  obtain ⟨-, -, -, -, -, -, -, c7, -⟩ := A.blk.cells
  have HC := hid (call_ok A.blk ha)
  have HP := hid (dput_any A.pages hS hc n hn x)
  have HA := hid A
  generalize S.put n x = y at *
  clear A ha hn hS hc
  go_enter Tryz.func14, Tryz.ntmps14
  go_wp2_with fail
  refine HC.out.mono ?_
  rintro e w1 ⟨rfl, rfl⟩
  go_wp2_with fail
  refine HP.out.mono ?_
  rintro e w2 ⟨rfl, hd, hc⟩
  have HF : Hid (ShAt s d lim h arm y.2 w2 ∧ Chg (Two s d) w w2) := hid ⟨⟨hc.at HA.out.blk HA.out.ne, hd⟩, hc.mono (fun _ _ e => Or.inr e)⟩
  clear hd hc c7
  go_wp2
  go_ret
  exact ⟨rfl, HF.out.1, HF.out.2⟩
set_option maxRecDepth 100000 in
theorem put_io (b : ShBlk s d lim h 1 w) (n : Int) (x : ByteArray) :
    Calls Tryz.prog 14 #[ptr s, .int .i64 n, .string x] w fun e w' => e = .returned (.int .i64 11) ∧ w = w' := by
  have HC := hid (call_io b)
  clear b
  go_enter Tryz.func14, Tryz.ntmps14
  go_wp2_with fail
  refine HC.out.mono ?_
  rintro e w1 ⟨rfl, rfl⟩
  go_wp2
  go_ret
  exact ⟨rfl, rfl⟩
set_option maxRecDepth 100000 in
theorem put_nil (w : World) (n : Int) (x : ByteArray) :
    Calls Tryz.prog 14 #[.pointer none, .int .i64 n, .string x] w fun e w' => e = .returned (.int .i64 2) ∧ w = w' := by
  have HC := hid (call_nil w)
  go_enter Tryz.func14, Tryz.ntmps14
  go_wp2_with fail
  refine HC.out.mono ?_
  rintro e w1 ⟨rfl, rfl⟩
  go_wp2
  go_ret
  exact ⟨rfl, rfl⟩
/-! ### Head, Arm -/
set_option maxRecDepth 100000 in
theorem head_ok (b : ShBlk s d lim h arm w) : Calls Tryz.prog 23 #[ptr s] w fun e w' => e = .returned (hV h) ∧ Below w.heap.size w w' := by
  have hlt := lt_of_block b
  have b2 : ShBlk s d lim h arm (w.alloc zObj) := blk_alloc b _
  obtain ⟨-, c1, c2, c3, c4, c5, c6, -, -⟩ := b2.cells
  have HB := hid ((Below.refl w.heap.size w).alloc (Nat.le_refl _) (hObj h))
  clear b b2
  go_enter Tryz.func23, Tryz.ntmps23
  go_wp2
  refine @bodyPost_ret Tryz.prog Tryz.f23 (fun e w' => e = .returned (hV h) ∧ Below w.heap.size w w') _ _ (hV h) ?_ ?_ ?_
  · simp [results, hV, go_sem]
  · rfl
  · exact ⟨rfl, HB.out⟩
set_option maxRecDepth 100000 in
theorem head_nil (w : World) : Calls Tryz.prog 23 #[.pointer none] w fun e w' => e = .returned (hV hd0) ∧ Below w.heap.size w w' := by
  have HB := hid ((Below.refl w.heap.size w).alloc (Nat.le_refl _) (hObj hd0))
  go_enter Tryz.func23, Tryz.ntmps23
  go_wp2
  refine @bodyPost_ret Tryz.prog Tryz.f23 (fun e w' => e = .returned (hV hd0) ∧ Below w.heap.size w w') _ _ (hV hd0) ?_ ?_ ?_
  · simp [results, hV, hd0, go_sem]
  · rfl
  · exact ⟨rfl, HB.out⟩
set_option maxRecDepth 100000 in
theorem arm_any (A : ShAt s d lim h arm S w) (n : Int) : Calls Tryz.prog 31 #[ptr s, .int .i64 n] w fun e w' => e = .returned (.tuple #[]) ∧ ShAt s d lim h n S w' ∧ Chg (Two s d) w w' := by
  obtain ⟨-, -, -, -, -, -, -, -, c8⟩ := A.blk.cells
  obtain ⟨-, -, -, -, -, -, f8⟩ := A.blk.free
  have hlt := A.lt.1
  have HC : Hid (Chg (· = s) w (w.setCell ⟨s, 8, none⟩ (.int .i64 n))) := hid ((Chg.refl _ w).root 8 _)
  have HA : Hid (ShAt s d lim h n S (w.setCell ⟨s, 8, none⟩ (.int .i64 n))) := hid ⟨blk_set A.blk 8 _, A.pages.apart HC.out (fun k hk e => A.ne (hk.symm.trans e))⟩
  clear A
  go_enter Tryz.func31, Tryz.ntmps31
  go_wp2
  refine bodyPost_end (results_none rfl _ _ _) rfl ?_
  exact ⟨rfl, HA.out, HC.out.mono (fun _ _ e => Or.inl e)⟩
end Sh
end Go.Proofs.YtoifhcmgeackdaaGreatDoor

/-
  Contracts of the shelf's New and Free, and of New(limit).
-/
namespace Go.Proofs.YtoifhcmgeackdaaGreatDoor
open Go.RowKit
namespace Sh
open Sp
open Num (hid)
open Mem (Bs bs IAt tI tS tIs tSs Chg Row ptr blk_cell blk_free blk_new blk_set blk_other blk_alloc row_kept row_shape row_type)
variable {s d g : Nat} {lim : Int} {h : Hd} {arm : Int} {S : St} {w w' : World}
/-- A page of noughts is put. -/
def more (x : (Int × Hd × Int) × St) (h : Hd) : (Int × Int) × Hd × St := if x.1.2.2 ≠ 0 then ((0, x.1.2.2), h, x.2) else ((x.1.1, 0), x.1.2.1, x.2.set x.1.1 (zeros 232))
def newM (lim : Int) (h : Hd) (S : St) : (Int × Int) × Hd × St := if h.spare = 0 ∧ lim ≤ h.pages then ((0, 22), h, S) else more (takeM h S) h
def after (x : (Hd × Int) × St) (h : Hd) : Int × Hd × St := if x.1.2 ≠ 0 then (x.1.2, h, x.2) else (0, x.1.1, x.2)
def freeM (h : Hd) (S : St) (n : Int) : Int × Hd × St := if S.f n = none then (21, h, S) else after (giveM h S n) h
theorem take_wf (hf : Fit h) (S : St) (he : (takeM h S).1.2.2 = 0) : Wf (takeM h S).1.1 := by
  have ht : Wf h.trunk := wf_of (by unfold Fit at hf; omega) (by unfold Fit at hf; omega)
  unfold takeM at he ⊢
  split at he
  · rename_i h1
    rw [if_pos h1]
    unfold takeNew at he ⊢
    split at he
    · cases he
    · rename_i h2
      rw [if_neg h2]
      exact wf_of (by show _ ≤ h.pages; unfold Fit at hf; omega) (by show h.pages ≤ _; omega)
  · rename_i h1
    rw [if_neg h1]
    unfold takeOf at he ⊢
    split at he
    · rename_i h2; exact absurd he h2
    · rename_i h2
      rw [if_neg h2]
      split at he
      · cases he
      · rename_i h3
        rw [if_neg h3]
        split at he
        · rename_i h4
          rw [if_pos h4]
          unfold takeTrunk at he ⊢
          split at he
          · cases he
          · rename_i h5
            rw [if_neg h5]
            exact ht
        · rename_i h4
          rw [if_neg h4]
          split at he
          · rename_i h5; exact absurd he h5
          · rename_i h5
            rw [if_neg h5]
            have hok := (okT_iff _).1 (tat_okT S h.trunk (by simpa using h2))
            have := hok.2.2 _ (last_split h4).2
            exact wf_of (by show _ ≤ (trunkAt S h.trunk).1.1.list.getLastD 0; omega) (by show (trunkAt S h.trunk).1.1.list.getLastD 0 ≤ _; omega)
/-- A head's box made beside the shelf. -/
theorem ShBlk.beside (b : ShBlk s d lim h arm w) (o : Obj) : ShBlk s d lim h arm (w.alloc o) := blk_alloc b o
theorem ShBlk.box6 (b : ShBlk s d lim h arm w) {g : Nat} (hg : s ≠ g) (x : Hd) : ShBlk s d lim h arm (put6 w g x) :=
  blk_other (blk_other (blk_other (blk_other (blk_other (blk_other b hg _) hg _) hg _) hg _) hg _) hg _
theorem ShBlk.seven (b : ShBlk s d lim h arm w) : w.cell? ⟨s, 1, none⟩ = some (.int .i64 h.mode) ∧ w.cell? ⟨s, 2, none⟩ = some (.int .i64 h.pages) ∧ w.cell? ⟨s, 3, none⟩ = some (.int .i64 h.trunk) ∧ w.cell? ⟨s, 4, none⟩ = some (.int .i64 h.spare) ∧ w.cell? ⟨s, 5, none⟩ = some (.int .i64 h.root) ∧ w.cell? ⟨s, 6, none⟩ = some (.int .u64 (h.change : Nat)) ∧ w.cell? ⟨s, 7, none⟩ = some (.map (some d)) :=
  ⟨blk_cell b 1, blk_cell b 2, blk_cell b 3, blk_cell b 4, blk_cell b 5, blk_cell b 6, blk_cell b 7⟩
theorem zb (w : World) : (w.alloc zObj).drew.heap[w.heap.size]? = some zObj := blk_new w zObj
theorem zb_free {g : Nat} (h : w.heap[g]? = some zObj) : Hb g hd0 w := h
theorem take_callA {w2 w3 : World} {S' : St} (k : ShBlk s d lim h arm w2) (_hD : DeskR (· = d) w2 d 0 S) (hN : s < w2.heap.size ∧ d < w2.heap.size ∧ s ≠ d) (hd3 : DeskR (· = d) w3 d 0 S') (hc : Chg (· = d) w2.drew w3) :
    ShBlk s d lim h arm w3 ∧ s ≠ w3.heap.size ∧ DeskR (· = d) w3 d 0 S' ∧ Chg (· = d) w2 w3 := by
  have hc2 : Chg (· = d) w2 w3 := (Chg.refl _ w2).drew.trans hc
  have hb : ShBlk s d lim h arm w3 := hc2.at k hN.2.2
  exact ⟨hb, Nat.ne_of_lt (lt_of_block hb), hd3, hc2⟩
theorem take_callB {w2 w3 : World} {S' : St} (k : ShBlk s d lim h arm w2) (_hD : DeskR (· = d) w2 d 0 S) (hN : s < w2.heap.size ∧ d < w2.heap.size ∧ s ≠ d) (hd3 : DeskR (· = d) w3 d 0 S') (hc : Chg (· = d) (w2.alloc zObj).drew w3) :
    ShBlk s d lim h arm w3 ∧ s ≠ w2.heap.size ∧ Hb w2.heap.size hd0 w3 ∧ DeskR (· = d) w3 d 0 S' ∧ Chg (· = d) w2 w3 := by
  have hc2 : Chg (· = d) w2 w3 := ((Chg.refl _ w2).alloc zObj).drew.trans hc
  have hb : ShBlk s d lim h arm w3 := hc2.at k hN.2.2
  have hz : (w2.alloc zObj).drew.heap[w2.heap.size]? = some zObj := blk_new w2 zObj
  exact ⟨hb, Nat.ne_of_lt hN.1, hc.at hz (Nat.ne_of_gt hN.2.1), hd3, hc2⟩
theorem small_takeM {c : Nat} {S : St} (h : Small c S) (hd : Hd) : Small (c + 2) (takeM hd S).2 := by
  unfold takeM
  split
  · exact h.more (by omega)
  · have h1 := small_tat h hd.trunk
    unfold takeOf
    split
    · exact h1.more (by omega)
    · split
      · exact h1.more (by omega)
      · split
        · exact h1.more (by omega)
        · split
          · exact small_ptr h1 _ _
          · exact small_ptr h1 _ _
theorem small_giveM {c : Nat} {S : St} (h : Small c S) (hd : Hd) (n : Int) : Small (c + 2) (giveM hd S n).2 := by
  unfold giveM
  split
  · exact h.more (by omega)
  · split
    · exact h.more (by omega)
    · have h1 := (tf_len hd S n).2 c h
      unfold giveOf
      split
      · exact h1.more (by omega)
      · split
        · exact small_ptr h1 _ _
        · exact small_ptr h1 _ _
theorem ShAt.putA (A : ShAt s d lim h arm S w) (x : Hd) : ShAt s d lim x arm S (putH w s x) ∧ Chg (· = s) w (putH w s x) := by
  have hc : Chg (· = s) w (putH w s x) := ((((((Chg.refl _ w).root 1 _).root 2 _).root 3 _).root 4 _).root 5 _).root 6 _
  exact ⟨⟨A.blk.put x, A.pages.apart hc (fun k hk e => A.ne (hk.symm.trans e))⟩, hc⟩
theorem zeros_any (w : World) : Calls Tryz.prog 36 #[.string ⟨#[0]⟩, .int .i64 232] w fun e w' => e = .returned (.string (bs (zeros 232))) ∧ Below w.heap.size w w' := repeat_any 232 (by decide) w
theorem ShAt.page (A : ShAt s d lim h arm S w) {c : Nat} (hS : Small c S) (hc : c ≤ 50000) {n : Int} (hn : Wf n) (x : Bs) (hx : x.length = 232) :
    ∃ w', (Instr.mapUpdate tMp (.map (some d)) (.int .i64 n) (.string (bs x))).run Tryz.prog w = .ok () w' ∧ ShAt s d lim h arm (S.set n x) w' ∧ Chg (· = d) w w' := by
  obtain ⟨w', hr, hd, hc2⟩ := A.pages.put hS hc hn x hx
  exact ⟨w', hr, ⟨hc2.at A.blk A.ne, hd⟩, hc2⟩
theorem ShBlk.map7 (b : ShBlk s d lim h arm w) : w.cell? ⟨s, 7, none⟩ = some (.map (some d)) := blk_cell b 7
theorem put_fin {w5 w6 : World} {S'' : St} {n : Int} {x : ByteArray} (A : ShAt s d lim h arm S w5) (hb : Below w5.drew.heap.size w5.drew w6) (hp : ∀ w6, ShAt s d lim h arm S w6 → ∃ w', (Instr.mapUpdate tMp (.map (some d)) (.int .i64 n) (.string x)).run Tryz.prog w6 = .ok () w' ∧ ShAt s d lim h arm S'' w' ∧ Chg (· = d) w6 w') :
    ∃ w7, (Instr.mapUpdate tMp (.map (some d)) (.int .i64 n) (.string x)).run Tryz.prog w6 = .ok () w7 ∧ (ShBlk s d lim h arm w6 ∧ ShAt s d lim h arm S'' w7) ∧ Chg (Two s d) w5 w7 := by
  have hb2 : Below w5.heap.size w5 w6 := (Below.refl _ w5).drew.trans hb
  have A6 := A.on hb2
  obtain ⟨w7, hr, hA, hC⟩ := hp w6 A6
  exact ⟨w7, hr, ⟨A6.blk, hA⟩, (Chg.of_below hb2).trans (hC.mono (fun _ _ e => Or.inr e))⟩
/-- Behind Take: the shelf's box as it was, the new head's box. -/
structure Fin (s d : Nat) (lim : Int) (h : Hd) (arm : Int) (S' : St) (h' : Hd) (g : Nat) (w2 w4 : World) : Prop where
  at' : ShAt s d lim h arm S' w4
  hb : Hb g h' w4
  chg : Chg (· = d) w2 w4
theorem fin_put {w2 w : World} {S' : St} (k : ShBlk s d lim h arm w) (hg : s ≠ g) (hdg : d ≠ g) {z : Hd} (hz : Hb g z w) (hD : DeskR (· = d) w d 0 S') (hc : Chg (· = d) w2 w) (hl : w2.heap.size ≤ g) (h' : Hd) : Fin s d lim h arm S' h' g w2 (put6 w g h') :=
  ⟨⟨ShBlk.box6 k hg h', desk_put6 hD (fun e => hdg e.symm) h'⟩, hz.put h', chg_put6 hc (Or.inl hl) h'⟩
theorem fin_A {w2 w3 : World} {S' : St} (F : ShBlk s d lim h arm w3 ∧ s ≠ w3.heap.size ∧ DeskR (· = d) w3 d 0 S' ∧ Chg (· = d) w2 w3) (h' : Hd) : Fin s d lim h arm S' h' w3.heap.size w2 (w3.alloc (hObj h')) := by
  have hb : Below w3.heap.size w3 (w3.alloc (hObj h')) := (Below.refl _ _).alloc (Nat.le_refl _) _
  exact ⟨⟨F.1.beside _, F.2.2.1.on hb⟩, Hb.new h' w3, F.2.2.2.trans (Chg.of_below hb)⟩
theorem fin_B {w2 w3 : World} {S' : St} (F : ShBlk s d lim h arm w3 ∧ s ≠ w2.heap.size ∧ Hb w2.heap.size hd0 w3 ∧ DeskR (· = d) w3 d 0 S' ∧ Chg (· = d) w2 w3) (hN : s < w2.heap.size ∧ d < w2.heap.size ∧ s ≠ d) (h' : Hd) : Fin s d lim h arm S' h' w2.heap.size w2 (put6 w3 w2.heap.size h') :=
  fin_put F.1 F.2.1 (Nat.ne_of_lt hN.2.1) F.2.2.1 F.2.2.2.1 F.2.2.2.2 (Nat.le_refl _) h'
set_option maxRecDepth 100000 in
set_option maxHeartbeats 4000000 in
theorem new_any (A : ShAt s d lim h arm S w) (ha : arm < 1) (hf : Fit h) {c : Nat} (hS : Small c S) (hc : c ≤ 30000) :
    Calls Tryz.prog 12 #[ptr s] w fun e w' => e = .returned (.tuple #[.int .i64 (newM lim h S).1.1, .int .i64 (newM lim h S).1.2]) ∧ ShAt s d lim (newM lim h S).2.1 arm (newM lim h S).2.2 w' ∧ Chg (Two s d) w w' := by
  have HC := hid (call_ok A.blk ha)
  obtain ⟨c0, c1, c2, c3, c4, c5, c6, c7, c8⟩ := A.blk.cells
  have hlt := A.lt.1
  have HA := hid A
  have HT := hid (fun (wz : World) (D : DeskR (· = d) wz d 0 S) => take_map D hS hc h hf)
  have HW := hid (take_wf hf S)
  have HSM := hid (And.intro (small_takeM hS h) hc)
  by_cases hg1 : h.spare = 0 ∧ lim ≤ h.pages
  · obtain ⟨g1, g2⟩ := hg1
    have e : newM lim h S = ((0, 22), h, S) := if_pos ⟨g1, g2⟩
    rw [e]
    have h1 : (h.spare == 0) = true := by simpa using g1
    have h2 : decide (lim ≤ h.pages) = true := decide_eq_true g2
    clear A ha hS hc hf g1 HT HW e
    go_enter Tryz.func12, Tryz.ntmps12
    go_wp2_with fail
    refine HC.out.mono ?_
    rintro e w1 ⟨rfl, rfl⟩
    go_wp2_with fail
    go_quiet (fail)
    rename_i nq
    have HB := hid (below_drewN (Below.refl w.heap.size w) nq)
    go_wp2
    go_ret2
    exact ⟨rfl, HA.out.on HB.out, Chg.of_below HB.out⟩
  · have e : newM lim h S = more (takeM h S) h := if_neg hg1
    rw [e]
    have hq : (h.spare == 0) = false ∨ ((h.spare == 0) = true ∧ decide (lim ≤ h.pages) = false) := by
      by_cases h0 : h.spare = 0
      · exact Or.inr ⟨by simpa using h0, decide_eq_false (fun h1 => hg1 ⟨h0, h1⟩)⟩
      · exact Or.inl (by simpa using h0)
    generalize hX : takeM h S = X at *
    obtain ⟨⟨n, h', e1⟩, S'⟩ := X
    simp only at HW HSM
    have hA2 := A.blk
    unfold takeV hV at HT
    simp only at HT
    clear A ha hS hc hf hg1 hX e
    rcases hq with hq | ⟨hq, hq2⟩
    all_goals
      go_enter Tryz.func12, Tryz.ntmps12
      go_wp2_with fail
      refine HC.out.mono ?_
      rintro e w1 ⟨rfl, rfl⟩
      go_wp2_with fail
      go_quiet (fail)
      rename_i nq
      have HB := hid (below_drewN (Below.refl w.heap.size w) nq)
      have hb2 : ShBlk s d lim h arm (w.drewN nq) := hA2
      have HD2 : Hid (DeskR (· = d) (w.drewN nq) d 0 S) := hid (HA.out.pages.on HB.out)
      have HN2 : Hid (s < (w.drewN nq).heap.size ∧ d < (w.drewN nq).heap.size ∧ s ≠ d) := hid ⟨HA.out.lt.1, HA.out.lt.2, HA.out.ne⟩
      clear c0 c1 c2 c3 c4 c5 c6 c7 c8 hA2
      generalize w.drewN nq = w2 at *
      obtain ⟨c1, c2, c3, c4, c5, c6, c7⟩ := hb2.seven
      have K2 := hid hb2
      clear hb2
      go_upto_region 6 with fail
      have HTA := hid (HT.out w2.drew (HD2.out.on (Below.refl _ _).drew))
      have HTB := hid (HT.out (w2.alloc zObj).drew (HD2.out.on ((Below.refl _ _).alloc (Nat.le_refl _) zObj).drew))
      have KA := hid (ShBlk.seven (show ShBlk s d lim h arm w2.drew from K2.out))
      have KB := hid (ShBlk.seven (show ShBlk s d lim h arm (w2.alloc zObj).drew from K2.out.beside zObj))
      go_region_held3 (fun W => W.cell? ⟨s, 1, none⟩ = some (.int .i64 h.mode) ∧ W.cell? ⟨s, 2, none⟩ = some (.int .i64 h.pages) ∧ W.cell? ⟨s, 3, none⟩ = some (.int .i64 h.trunk) ∧ W.cell? ⟨s, 4, none⟩ = some (.int .i64 h.spare) ∧ W.cell? ⟨s, 5, none⟩ = some (.int .i64 h.root) ∧ W.cell? ⟨s, 6, none⟩ = some (.int .u64 (h.change : Nat)) ∧ W.cell? ⟨s, 7, none⟩ = some (.map (some d)))
        (first | with_reducible exact KA.out | with_reducible exact KB.out | with_reducible exact K3.out | with_reducible exact K4.out | with_reducible exact K5.out)
        (first
          | go_at_call 35; with_reducible refine HTA.out.mono ?_; rintro e w3 ⟨rfl, hd3, hc3⟩; have F3 := hid (take_callA K2.out HD2.out HN2.out hd3 hc3); have K3 := hid (ShBlk.seven F3.out.1); have K4 := hid (ShBlk.seven (F3.out.1.beside zObj)); have K5 := hid (ShBlk.seven (F3.out.1.beside (hObj h'))); clear hd3 hc3
          | go_at_call 35; with_reducible refine HTB.out.mono ?_; rintro e w3 ⟨rfl, hd3, hc3⟩; have F3 := hid (take_callB K2.out HD2.out HN2.out hd3 hc3); have K3 := hid (ShBlk.seven F3.out.1); have K5 := hid (ShBlk.seven (ShBlk.box6 F3.out.1 (F3.out.2.1) h')); obtain ⟨x0, x1, x2, x3, x4, x5⟩ := F3.out.2.2.1.cells; obtain ⟨z0, z1, z2, z3, z4, z5⟩ := F3.out.2.2.1.free; have hxl := F3.out.2.2.1.lt; clear hd3 hc3)
      · have E4 := hid (fin_A F3.out h')
        generalize hg : w3.heap.size = g at *
        generalize w3.alloc (.cells #[.int .i64 h'.mode, .int .i64 h'.pages, .int .i64 h'.trunk, .int .i64 h'.spare, .int .i64 h'.root, .int .u64 (h'.change : Nat)] tH) = w4 at *
        obtain ⟨q0, q1, q2, q3, q4, q5, q6, q7, q8⟩ := E4.out.at'.blk.cells
        obtain ⟨f1, f2, f3, f4, f5, f6, f8⟩ := E4.out.at'.blk.free
        obtain ⟨x0, x1, x2, x3, x4, x5⟩ := E4.out.hb.cells
        have l1 := E4.out.at'.lt.1
        have l2 := E4.out.hb.lt
        by_cases he : e1 = 0
        · subst he
          have hm : more ((n, h', 0), S') h = ((n, 0), h', S'.set n (zeros 232)) := if_neg (fun e => e rfl)
          have HM := hid hm
          have hwn := HW.out rfl
          have HA5 := hid (E4.out.at'.putA h')
          have HP5 := hid (fun (w6 : World) (A6 : ShAt s d lim h' arm S' w6) => A6.page HSM.out.1 (by have := HSM.out.2; omega) hwn (zeros 232) (zeros_len 232))
          clear hm hwn
          go_upto_region 10 with fail
          clear q0 q1 q2 q3 q4 q5 q6 q7 q8 f1 f2 f3 f4 f5 f6 f8 x0 x1 x2 x3 x4 x5 l1 l2
          unfold putH at HA5
          generalize (((((w4.setCell ⟨s, 1, none⟩ (.int .i64 h'.mode)).setCell ⟨s, 2, none⟩ (.int .i64 h'.pages)).setCell ⟨s, 3, none⟩ (.int .i64 h'.trunk)).setCell ⟨s, 4, none⟩ (.int .i64 h'.spare)).setCell ⟨s, 5, none⟩ (.int .i64 h'.root)).setCell ⟨s, 6, none⟩ (.int .u64 (h'.change : Nat)) = w5 at *
          have HRZ := hid (zeros_any w5.drew)
          have J5 := hid (ShBlk.map7 (show ShBlk s d lim h' arm w5.drew from HA5.out.1.blk))
          go_region_held3 (fun W => W.cell? ⟨s, 7, none⟩ = some (.map (some d)))
            (first | with_reducible exact J5.out | with_reducible exact J6.out | with_reducible exact J7.out)
            (first
              | go_at_call 36; with_reducible refine HRZ.out.mono ?_; rintro e w6 ⟨rfl, hb6⟩; obtain ⟨w7, hrun, hA7, hC7⟩ := put_fin HA5.out.1 hb6 HP5.out; have J6 := hid (ShBlk.map7 (hA7.1)); have J7 := hid (ShBlk.map7 hA7.2.blk); have K7 := hid (And.intro hA7.2 hC7); clear hb6 hA7 hC7)
          go_wp2
          go_ret2
          have HM := HM.out
          rw [HM]
          exact ⟨rfl, K7.out.1, ((Chg.of_below HB.out).trans (E4.out.chg.mono (fun _ _ e => Or.inr e))).trans ((HA5.out.2.mono (fun _ _ e => Or.inl e)).trans K7.out.2)⟩
        · have hm : more ((n, h', e1), S') h = ((0, e1), h, S') := if_pos he
          have HM := hid hm
          have he2 : (e1 != 0) = true := by simpa using he
          clear hm he
          go_wp2
          go_ret2
          have HM := HM.out
          rw [HM]
          exact ⟨rfl, E4.out.at', (Chg.of_below HB.out).trans (E4.out.chg.mono (fun _ _ e => Or.inr e))⟩
      · have E4 := hid (fin_B F3.out HN2.out h')
        unfold put6 at E4
        generalize hg : w2.heap.size = g at *
        clear x0 x1 x2 x3 x4 x5 z0 z1 z2 z3 z4 z5 hxl
        generalize (((((w3.setCell ⟨g, 0, none⟩ (.int .i64 h'.mode)).setCell ⟨g, 1, none⟩ (.int .i64 h'.pages)).setCell ⟨g, 2, none⟩ (.int .i64 h'.trunk)).setCell ⟨g, 3, none⟩ (.int .i64 h'.spare)).setCell ⟨g, 4, none⟩ (.int .i64 h'.root)).setCell ⟨g, 5, none⟩ (.int .u64 (h'.change : Nat)) = w4 at *
        obtain ⟨q0, q1, q2, q3, q4, q5, q6, q7, q8⟩ := E4.out.at'.blk.cells
        obtain ⟨f1, f2, f3, f4, f5, f6, f8⟩ := E4.out.at'.blk.free
        obtain ⟨x0, x1, x2, x3, x4, x5⟩ := E4.out.hb.cells
        have l1 := E4.out.at'.lt.1
        have l2 := E4.out.hb.lt
        by_cases he : e1 = 0
        · subst he
          have hm : more ((n, h', 0), S') h = ((n, 0), h', S'.set n (zeros 232)) := if_neg (fun e => e rfl)
          have HM := hid hm
          have hwn := HW.out rfl
          have HA5 := hid (E4.out.at'.putA h')
          have HP5 := hid (fun (w6 : World) (A6 : ShAt s d lim h' arm S' w6) => A6.page HSM.out.1 (by have := HSM.out.2; omega) hwn (zeros 232) (zeros_len 232))
          clear hm hwn
          go_upto_region 10 with fail
          clear q0 q1 q2 q3 q4 q5 q6 q7 q8 f1 f2 f3 f4 f5 f6 f8 x0 x1 x2 x3 x4 x5 l1 l2
          unfold putH at HA5
          generalize (((((w4.setCell ⟨s, 1, none⟩ (.int .i64 h'.mode)).setCell ⟨s, 2, none⟩ (.int .i64 h'.pages)).setCell ⟨s, 3, none⟩ (.int .i64 h'.trunk)).setCell ⟨s, 4, none⟩ (.int .i64 h'.spare)).setCell ⟨s, 5, none⟩ (.int .i64 h'.root)).setCell ⟨s, 6, none⟩ (.int .u64 (h'.change : Nat)) = w5 at *
          have HRZ := hid (zeros_any w5.drew)
          have J5 := hid (ShBlk.map7 (show ShBlk s d lim h' arm w5.drew from HA5.out.1.blk))
          go_region_held3 (fun W => W.cell? ⟨s, 7, none⟩ = some (.map (some d)))
            (first | with_reducible exact J5.out | with_reducible exact J6.out | with_reducible exact J7.out)
            (first
              | go_at_call 36; with_reducible refine HRZ.out.mono ?_; rintro e w6 ⟨rfl, hb6⟩; obtain ⟨w7, hrun, hA7, hC7⟩ := put_fin HA5.out.1 hb6 HP5.out; have J6 := hid (ShBlk.map7 (hA7.1)); have J7 := hid (ShBlk.map7 hA7.2.blk); have K7 := hid (And.intro hA7.2 hC7); clear hb6 hA7 hC7)
          go_wp2
          go_ret2
          have HM := HM.out
          rw [HM]
          exact ⟨rfl, K7.out.1, ((Chg.of_below HB.out).trans (E4.out.chg.mono (fun _ _ e => Or.inr e))).trans ((HA5.out.2.mono (fun _ _ e => Or.inl e)).trans K7.out.2)⟩
        · have hm : more ((n, h', e1), S') h = ((0, e1), h, S') := if_pos he
          have HM := hid hm
          have he2 : (e1 != 0) = true := by simpa using he
          clear hm he
          go_wp2
          go_ret2
          have HM := HM.out
          rw [HM]
          exact ⟨rfl, E4.out.at', (Chg.of_below HB.out).trans (E4.out.chg.mono (fun _ _ e => Or.inr e))⟩
end Sh
end Go.Proofs.YtoifhcmgeackdaaGreatDoor
