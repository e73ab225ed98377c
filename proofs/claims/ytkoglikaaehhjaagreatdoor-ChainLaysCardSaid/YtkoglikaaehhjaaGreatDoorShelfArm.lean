/-
  A shelf whose calls may fail one day: Get, Put and New as they count.
-/
import Derived.Test.YtkoglikaaehhjaaGreatDoorShelfLab
namespace Go.Proofs.YtkoglikaaehhjaaGreatDoor
open Go.RowKit
namespace Sh
open Sp
open Num (hid)
open Mem (Bs bs IAt tI tS tIs tSs Chg Row ptr blk_cell blk_free blk_new blk_set blk_other blk_alloc row_kept row_shape row_type)
variable {s d : Nat} {lim : Int} {h : Hd} {arm : Int} {S : St} {w w' : World}
/-- What Arm counts to, behind a call. -/
def spend (arm : Int) : Int := if arm < 1 then arm else arm - 1
theorem spend_low {arm : Int} (h : arm < 1) : spend arm = arm := if_pos h
/-- The next call doesn't fail. -/
def Calm (arm : Int) : Prop := arm ≠ 1 ∧ arm ≤ 1000
set_option maxRecDepth 100000 in
theorem call_any (A : ShAt s d lim h arm S w) (ha : Calm arm) : Calls Tryz.prog 39 #[ptr s] w fun e w' => e = .returned (.int .i64 0) ∧ ShAt s d lim h (spend arm) S w' ∧ Chg (Two s d) w w' := by
  by_cases h0 : arm < 1
  · refine (call_ok A.blk h0).mono ?_
    rintro e w' ⟨rfl, rfl⟩
    rw [spend_low h0]
    exact ⟨rfl, A, Chg.refl _ _⟩
  · obtain ⟨-, -, -, -, -, -, -, -, c8⟩ := A.blk.cells
    obtain ⟨-, -, -, -, -, -, f8⟩ := A.blk.free
    have hlt := A.lt.1
    have hs : spend arm = arm - 1 := if_neg h0
    have h2 : 1 < arm := by unfold Calm at ha; omega
    have h1 : (arm == 1) = false := by rw [beq_eq_false_iff_ne]; omega
    have hw : wrap64 (arm - 1) = arm - 1 := by rw [Num.wrap_i]; unfold Calm at ha; omega
    have HC : Hid (Chg (· = s) w (w.setCell ⟨s, 8, none⟩ (.int .i64 (arm - 1)))) := hid ((Chg.refl _ w).root 8 _)
    have HA : Hid (ShAt s d lim h (arm - 1) S (w.setCell ⟨s, 8, none⟩ (.int .i64 (arm - 1)))) := hid ⟨blk_set A.blk 8 _, A.pages.apart HC.out (fun k hk e => A.ne (hk.symm.trans e))⟩
    rw [hs]
    clear A hs h0 ha
    go_enter Tryz.func39, Tryz.ntmps39
    go_wp2
    go_ret
    exact ⟨rfl, HA.out, HC.out.mono (fun _ _ e => Or.inl e)⟩
set_option maxRecDepth 100000 in
theorem get_arm (A : ShAt s d lim h arm S w) (ha : Calm arm) {n : Int} (hn : Wf n) :
    Calls Tryz.prog 20 #[ptr s, .int .i64 n] w fun e w' => e = .returned (.tuple #[.string (bs (S.get n).1.1), .int .i64 (S.get n).1.2]) ∧ ShAt s d lim h (spend arm) S w' ∧ Chg (Two s d) w w' := by
  have HC := hid (call_any A ha)
  have HG := hid (fun (wz : World) (D : DeskR (· = d) wz d 0 S) => pget_any D hn)
  generalize (S.get n).1 = x at *
  clear A ha hn
  go_enter Tryz.func20, Tryz.ntmps20
  go_wp2_with fail
  refine HC.out.mono ?_
  rintro e w1 ⟨rfl, hA, hC⟩
  have HA := hid hA
  have HC1 := hid hC
  obtain ⟨-, -, -, -, -, -, -, c7, -⟩ := hA.blk.cells
  clear hA hC
  go_wp2_with fail
  refine (HG.out _ HA.out.pages).mono ?_
  rintro e w2 ⟨rfl, hb⟩
  have HB := hid hb
  clear hb c7
  go_wp2
  go_ret2
  exact ⟨rfl, HA.out.on HB.out, HC1.out.trans (Chg.of_below HB.out)⟩
set_option maxRecDepth 100000 in
theorem put_arm (A : ShAt s d lim h arm S w) (ha : Calm arm) {c : Nat} (hS : Small c S) (hc : c ≤ 50000) {n : Int} (hn : Wf n) (x : Bs) :
    Calls Tryz.prog 26 #[ptr s, .int .i64 n, .string (bs x)] w fun e w' => e = .returned (.int .i64 (S.put n x).1) ∧ ShAt s d lim h (spend arm) (S.put n x).2 w' ∧ Chg (Two s d) w w' := by
  have HC := hid (call_any A ha)
  have HP := hid (fun (wz : World) (D : DeskR (· = d) wz d 0 S) => dput_any D hS hc n hn x)
  generalize S.put n x = y at *
  generalize spend arm = arm2 at *
  clear A ha hn hS hc
  go_enter Tryz.func26, Tryz.ntmps26
  go_wp2_with fail
  refine HC.out.mono ?_
  rintro e w1 ⟨rfl, hA, hC⟩
  have HA := hid hA
  have HC1 := hid hC
  obtain ⟨-, -, -, -, -, -, -, c7, -⟩ := hA.blk.cells
  clear hA hC
  go_wp2_with fail
  refine (HP.out _ HA.out.pages).mono ?_
  rintro e w2 ⟨rfl, hd, hc⟩
  have HF : Hid (ShAt s d lim h arm2 y.2 w2 ∧ Chg (Two s d) w w2) := hid ⟨⟨hc.at HA.out.blk HA.out.ne, hd⟩, HC1.out.trans (hc.mono (fun _ _ e => Or.inr e))⟩
  clear hd hc c7
  go_wp2
  go_ret
  exact ⟨rfl, HF.out.1, HF.out.2⟩
set_option maxRecDepth 100000 in
theorem new_io1 (b : ShBlk s d lim h 1 w) :
    Calls Tryz.prog 25 #[ptr s] w fun e w' => e = .returned (.tuple #[.int .i64 0, .int .i64 11]) ∧ w = w' := by
  have HC := hid (call_io b)
  clear b
  go_enter Tryz.func25, Tryz.ntmps25
  go_wp2_with fail
  refine HC.out.mono ?_
  rintro e w1 ⟨rfl, rfl⟩
  go_wp2
  go_ret2
  exact ⟨rfl, rfl⟩
set_option maxRecDepth 100000 in
set_option maxHeartbeats 4000000 in
theorem new_arm {w0 : World} {arm0 : Int} (A0 : ShAt s d lim h arm0 S w0) (ha0 : Calm arm0) (hf : Fit h) {c : Nat} (hS : Small c S) (hc : c ≤ 30000) :
    Calls Tryz.prog 25 #[ptr s] w0 fun e w' => e = .returned (.tuple #[.int .i64 (newM lim h S).1.1, .int .i64 (newM lim h S).1.2]) ∧ ShAt s d lim (newM lim h S).2.1 (spend arm0) (newM lim h S).2.2 w' ∧ Chg (Two s d) w0 w' := by
  have HC := hid (call_any A0 ha0)
  generalize spend arm0 = arm at *
  have HT := hid (fun (wz : World) (D : DeskR (· = d) wz d 0 S) => take_map D hS hc h hf)
  have HW := hid (take_wf hf S)
  have HSM := hid (And.intro (small_takeM hS h) hc)
  by_cases hg1 : h.spare = 0 ∧ lim ≤ h.pages
  · obtain ⟨g1, g2⟩ := hg1
    have e : newM lim h S = ((0, 22), h, S) := if_pos ⟨g1, g2⟩
    rw [e]
    have h1 : (h.spare == 0) = true := by simpa using g1
    have h2 : decide (lim ≤ h.pages) = true := decide_eq_true g2
    clear A0 ha0 hS hc hf g1 HT HW e
    go_enter Tryz.func25, Tryz.ntmps25
    go_wp2_with fail
    refine HC.out.mono ?_
    rintro e w ⟨rfl, A, hC0⟩
    have HC0 := hid hC0
    have HA := hid A
    have hA2 := A.blk
    obtain ⟨c0, c1, c2, c3, c4, c5, c6, c7, c8⟩ := A.blk.cells
    have hlt := A.lt.1
    clear A hC0
    go_wp2_with fail
    go_quiet (fail)
    rename_i nq
    have HB := hid (below_drewN (Below.refl w.heap.size w) nq)
    go_wp2
    go_ret2
    exact ⟨rfl, HA.out.on HB.out, HC0.out.trans (Chg.of_below HB.out)⟩
  · have e : newM lim h S = more (takeM h S) h := if_neg hg1
    rw [e]
    have hq : (h.spare == 0) = false ∨ ((h.spare == 0) = true ∧ decide (lim ≤ h.pages) = false) := by
      by_cases h0 : h.spare = 0
      · exact Or.inr ⟨by simpa using h0, decide_eq_false (fun h1 => hg1 ⟨h0, h1⟩)⟩
      · exact Or.inl (by simpa using h0)
    generalize hX : takeM h S = X at *
    obtain ⟨⟨n, h', e1⟩, S'⟩ := X
    simp only at HW HSM
    unfold takeV hV at HT
    simp only at HT
    clear A0 ha0 hS hc hf hg1 hX e
    rcases hq with hq | ⟨hq, hq2⟩
    all_goals
      go_enter Tryz.func25, Tryz.ntmps25
      go_wp2_with fail
      refine HC.out.mono ?_
      rintro e w ⟨rfl, A, hC0⟩
      have HC0 := hid hC0
      have HA := hid A
      have hA2 := A.blk
      obtain ⟨c0, c1, c2, c3, c4, c5, c6, c7, c8⟩ := A.blk.cells
      have hlt := A.lt.1
      clear A hC0
      go_wp2_with fail
      go_quiet (fail)
      rename_i nq
      have HB := hid (below_drewN (Below.refl w.heap.size w) nq)
      have hb2 : ShBlk s d lim h arm (w.drewN nq) := hA2
      have HD2 : Hid (DeskR (· = d) (w.drewN nq) d 0 S) := hid (HA.out.pages.on HB.out)
      have HN2 : Hid (s < (w.drewN nq).heap.size ∧ d < (w.drewN nq).heap.size ∧ s ≠ d) := hid ⟨HA.out.lt.1, HA.out.lt.2, HA.out.ne⟩
      clear c0 c1 c2 c3 c4 c5 c6 c7 c8 hA2
      generalize w.drewN nq = w2 at *
      obtain ⟨c1, c2, c3, c4, c5, c6, c7⟩ := hb2.seven
      have K2 := hid hb2
      clear hb2
      go_upto_region 6 with fail
      have HTA := hid (HT.out w2.drew (HD2.out.on (Below.refl _ _).drew))
      have HTB := hid (HT.out (w2.alloc zObj).drew (HD2.out.on ((Below.refl _ _).alloc (Nat.le_refl _) zObj).drew))
      have KA := hid (ShBlk.seven (show ShBlk s d lim h arm w2.drew from K2.out))
      have KB := hid (ShBlk.seven (show ShBlk s d lim h arm (w2.alloc zObj).drew from K2.out.beside zObj))
      go_region_held3 (fun W => W.cell? ⟨s, 1, none⟩ = some (.int .i64 h.mode) ∧ W.cell? ⟨s, 2, none⟩ = some (.int .i64 h.pages) ∧ W.cell? ⟨s, 3, none⟩ = some (.int .i64 h.trunk) ∧ W.cell? ⟨s, 4, none⟩ = some (.int .i64 h.spare) ∧ W.cell? ⟨s, 5, none⟩ = some (.int .i64 h.root) ∧ W.cell? ⟨s, 6, none⟩ = some (.int .u64 (h.change : Nat)) ∧ W.cell? ⟨s, 7, none⟩ = some (.map (some d)))
        (first | with_reducible exact KA.out | with_reducible exact KB.out | with_reducible exact K3.out | with_reducible exact K4.out | with_reducible exact K5.out)
        (first
          | go_at_call 42; with_reducible refine HTA.out.mono ?_; rintro e w3 ⟨rfl, hd3, hc3⟩; have F3 := hid (take_callA K2.out HD2.out HN2.out hd3 hc3); have K3 := hid (ShBlk.seven F3.out.1); have K4 := hid (ShBlk.seven (F3.out.1.beside zObj)); have K5 := hid (ShBlk.seven (F3.out.1.beside (hObj h'))); clear hd3 hc3
          | go_at_call 42; with_reducible refine HTB.out.mono ?_; rintro e w3 ⟨rfl, hd3, hc3⟩; have F3 := hid (take_callB K2.out HD2.out HN2.out hd3 hc3); have K3 := hid (ShBlk.seven F3.out.1); have K5 := hid (ShBlk.seven (ShBlk.box6 F3.out.1 (F3.out.2.1) h')); obtain ⟨x0, x1, x2, x3, x4, x5⟩ := F3.out.2.2.1.cells; obtain ⟨z0, z1, z2, z3, z4, z5⟩ := F3.out.2.2.1.free; have hxl := F3.out.2.2.1.lt; clear hd3 hc3)
      · have E4 := hid (fin_A F3.out h')
        generalize hg : w3.heap.size = g at *
        generalize w3.alloc (.cells #[.int .i64 h'.mode, .int .i64 h'.pages, .int .i64 h'.trunk, .int .i64 h'.spare, .int .i64 h'.root, .int .u64 (h'.change : Nat)] tH) = w4 at *
        obtain ⟨q0, q1, q2, q3, q4, q5, q6, q7, q8⟩ := E4.out.at'.blk.cells
        obtain ⟨f1, f2, f3, f4, f5, f6, f8⟩ := E4.out.at'.blk.free
        obtain ⟨x0, x1, x2, x3, x4, x5⟩ := E4.out.hb.cells
        have l1 := E4.out.at'.lt.1
        have l2 := E4.out.hb.lt
        by_cases he : e1 = 0
        · subst he
          have hm : more ((n, h', 0), S') h = ((n, 0), h', S'.set n (zeros 232)) := if_neg (fun e => e rfl)
          have HM := hid hm
          have hwn := HW.out rfl
          have HA5 := hid (E4.out.at'.putA h')
          have HP5 := hid (fun (w6 : World) (A6 : ShAt s d lim h' arm S' w6) => A6.page HSM.out.1 (by have := HSM.out.2; omega) hwn (zeros 232) (zeros_len 232))
          clear hm hwn
          go_upto_region 10 with fail
          clear q0 q1 q2 q3 q4 q5 q6 q7 q8 f1 f2 f3 f4 f5 f6 f8 x0 x1 x2 x3 x4 x5 l1 l2
          unfold putH at HA5
          generalize (((((w4.setCell ⟨s, 1, none⟩ (.int .i64 h'.mode)).setCell ⟨s, 2, none⟩ (.int .i64 h'.pages)).setCell ⟨s, 3, none⟩ (.int .i64 h'.trunk)).setCell ⟨s, 4, none⟩ (.int .i64 h'.spare)).setCell ⟨s, 5, none⟩ (.int .i64 h'.root)).setCell ⟨s, 6, none⟩ (.int .u64 (h'.change : Nat)) = w5 at *
          have HRZ := hid (zeros_any w5.drew)
          have J5 := hid (ShBlk.map7 (show ShBlk s d lim h' arm w5.drew from HA5.out.1.blk))
          go_region_held3 (fun W => W.cell? ⟨s, 7, none⟩ = some (.map (some d)))
            (first | with_reducible exact J5.out | with_reducible exact J6.out | with_reducible exact J7.out)
            (first
              | go_at_call 43; with_reducible refine HRZ.out.mono ?_; rintro e w6 ⟨rfl, hb6⟩; obtain ⟨w7, hrun, hA7, hC7⟩ := put_fin HA5.out.1 hb6 HP5.out; have J6 := hid (ShBlk.map7 (hA7.1)); have J7 := hid (ShBlk.map7 hA7.2.blk); have K7 := hid (And.intro hA7.2 hC7); clear hb6 hA7 hC7)
          go_wp2
          go_ret2
          have HM := HM.out
          rw [HM]
          exact ⟨rfl, K7.out.1, ((HC0.out.trans (Chg.of_below HB.out)).trans (E4.out.chg.mono (fun _ _ e => Or.inr e))).trans ((HA5.out.2.mono (fun _ _ e => Or.inl e)).trans K7.out.2)⟩
        · have hm : more ((n, h', e1), S') h = ((0, e1), h, S') := if_pos he
          have HM := hid hm
          have he2 : (e1 != 0) = true := by simpa using he
          clear hm he
          go_wp2
          go_ret2
          have HM := HM.out
          rw [HM]
          exact ⟨rfl, E4.out.at', (HC0.out.trans (Chg.of_below HB.out)).trans (E4.out.chg.mono (fun _ _ e => Or.inr e))⟩
      · have E4 := hid (fin_B F3.out HN2.out h')
        unfold put6 at E4
        generalize hg : w2.heap.size = g at *
        clear x0 x1 x2 x3 x4 x5 z0 z1 z2 z3 z4 z5 hxl
        generalize (((((w3.setCell ⟨g, 0, none⟩ (.int .i64 h'.mode)).setCell ⟨g, 1, none⟩ (.int .i64 h'.pages)).setCell ⟨g, 2, none⟩ (.int .i64 h'.trunk)).setCell ⟨g, 3, none⟩ (.int .i64 h'.spare)).setCell ⟨g, 4, none⟩ (.int .i64 h'.root)).setCell ⟨g, 5, none⟩ (.int .u64 (h'.change : Nat)) = w4 at *
        obtain ⟨q0, q1, q2, q3, q4, q5, q6, q7, q8⟩ := E4.out.at'.blk.cells
        obtain ⟨f1, f2, f3, f4, f5, f6, f8⟩ := E4.out.at'.blk.free
        obtain ⟨x0, x1, x2, x3, x4, x5⟩ := E4.out.hb.cells
        have l1 := E4.out.at'.lt.1
        have l2 := E4.out.hb.lt
        by_cases he : e1 = 0
        · subst he
          have hm : more ((n, h', 0), S') h = ((n, 0), h', S'.set n (zeros 232)) := if_neg (fun e => e rfl)
          have HM := hid hm
          have hwn := HW.out rfl
          have HA5 := hid (E4.out.at'.putA h')
          have HP5 := hid (fun (w6 : World) (A6 : ShAt s d lim h' arm S' w6) => A6.page HSM.out.1 (by have := HSM.out.2; omega) hwn (zeros 232) (zeros_len 232))
          clear hm hwn
          go_upto_region 10 with fail
          clear q0 q1 q2 q3 q4 q5 q6 q7 q8 f1 f2 f3 f4 f5 f6 f8 x0 x1 x2 x3 x4 x5 l1 l2
          unfold putH at HA5
          generalize (((((w4.setCell ⟨s, 1, none⟩ (.int .i64 h'.mode)).setCell ⟨s, 2, none⟩ (.int .i64 h'.pages)).setCell ⟨s, 3, none⟩ (.int .i64 h'.trunk)).setCell ⟨s, 4, none⟩ (.int .i64 h'.spare)).setCell ⟨s, 5, none⟩ (.int .i64 h'.root)).setCell ⟨s, 6, none⟩ (.int .u64 (h'.change : Nat)) = w5 at *
          have HRZ := hid (zeros_any w5.drew)
          have J5 := hid (ShBlk.map7 (show ShBlk s d lim h' arm w5.drew from HA5.out.1.blk))
          go_region_held3 (fun W => W.cell? ⟨s, 7, none⟩ = some (.map (some d)))
            (first | with_reducible exact J5.out | with_reducible exact J6.out | with_reducible exact J7.out)
            (first
              | go_at_call 43; with_reducible refine HRZ.out.mono ?_; rintro e w6 ⟨rfl, hb6⟩; obtain ⟨w7, hrun, hA7, hC7⟩ := put_fin HA5.out.1 hb6 HP5.out; have J6 := hid (ShBlk.map7 (hA7.1)); have J7 := hid (ShBlk.map7 hA7.2.blk); have K7 := hid (And.intro hA7.2 hC7); clear hb6 hA7 hC7)
          go_wp2
          go_ret2
          have HM := HM.out
          rw [HM]
          exact ⟨rfl, K7.out.1, ((HC0.out.trans (Chg.of_below HB.out)).trans (E4.out.chg.mono (fun _ _ e => Or.inr e))).trans ((HA5.out.2.mono (fun _ _ e => Or.inl e)).trans K7.out.2)⟩
        · have hm : more ((n, h', e1), S') h = ((0, e1), h, S') := if_pos he
          have HM := hid hm
          have he2 : (e1 != 0) = true := by simpa using he
          clear hm he
          go_wp2
          go_ret2
          have HM := HM.out
          rw [HM]
          exact ⟨rfl, E4.out.at', (HC0.out.trans (Chg.of_below HB.out)).trans (E4.out.chg.mono (fun _ _ e => Or.inr e))⟩
/-! ### with what a walk carries -/
variable {N cnt : Nat} {w0 : World} {U F : List Int}
theorem calm_spend {arm : Int} (h : Calm arm) : spend arm ≤ 1000 := by
  unfold Calm at h
  unfold spend
  split <;> omega
theorem ShL.takeA (k : ShL s d N cnt lim h arm S w0 w) (ha : Calm arm) (hc : cnt ≤ 20000) (inv : Inv h S U F) (hl : lim ≤ 4096) (hp : h.pages ≤ lim) (hroom : ¬ (F.length = 0 ∧ lim ≤ h.pages)) :
    Calls Tryz.prog 25 #[ptr s] w fun e w' => ∃ (n : Int) (h' : Hd) (S' : St) (F' : List Int), e = .returned (.tuple #[.int .i64 n, .int .i64 0]) ∧ ShL s d N (cnt + 3) lim h' (spend arm) S' w0 w' ∧ Inv h' S' (U ++ [n]) F' ∧ (h'.pages ≤ lim ∧ h'.pages = h.pages + (if F.length = 0 then 1 else 0)) ∧ n ∉ U ∧ 1 ≤ n ∧ n < h'.pages ∧ F'.length = F.length - 1 ∧ (∀ x, x ∈ U → S'.f x = S.f x) ∧ Chg (Two s d) w w' := by
  obtain ⟨n, h', S', F', hg, h1, h2, h3, h4, h5, h6, h7, h8⟩ := inv_take inv (by have := inv.sp; omega) (zeros 232)
  have hspare : h.spare = F.length := inv.sp
  have hq : newM lim h S = ((n, 0), h', S'.set n (zeros 232)) := by
    unfold newM
    rw [if_neg (by omega), hg]
    exact if_neg (fun e => e rfl)
  refine (new_arm k.at' ha (inv.fit (by omega)) k.sm (by omega)).mono ?_
  rintro e w' ⟨rfl, hA, hC⟩
  rw [hq] at hA ⊢
  have hm : Small (cnt + 3) (S'.set n (zeros 232)) := by
    have := k.sm
    unfold Small at *
    show S'.n + 1 ≤ _
    omega
  refine ⟨n, h', _, F', rfl, k.turned hA hC hm, h6, ⟨?_, h8⟩, h3, h4, h5, h7, h2, hC⟩
  rw [h8]
  split
  · rename_i h9
    have : ¬ lim ≤ h.pages := fun e => hroom ⟨h9, e⟩
    omega
  · omega
theorem ShL.fullA (k : ShL s d N cnt lim h arm S w0 w) (ha : Calm arm) (hc : cnt ≤ 20000) (inv : Inv h S U F) (hp4 : h.pages ≤ 4096) (hF : F.length = 0) (hp : lim ≤ h.pages) :
    Calls Tryz.prog 25 #[ptr s] w fun e w' => e = .returned (.tuple #[.int .i64 0, .int .i64 22]) ∧ ShL s d N cnt lim h (spend arm) S w0 w' ∧ Chg (Two s d) w w' := by
  have hspare : h.spare = F.length := inv.sp
  have hq : newM lim h S = ((0, 22), h, S) := if_pos ⟨by omega, hp⟩
  refine (new_arm k.at' ha (inv.fit hp4) k.sm (by omega)).mono ?_
  rintro e w' ⟨rfl, hA, hC⟩
  rw [hq] at hA ⊢
  exact ⟨rfl, k.turned hA hC k.sm, hC⟩
theorem ShL.putA (k : ShL s d N cnt lim h arm S w0 w) (ha : Calm arm) (hc : cnt ≤ 20000) (inv : Inv h S U F) (hp : h.pages ≤ 4096) {n : Int} (hn : n ∈ U) (x : Bs) (hx : x.length = 232) :
    Calls Tryz.prog 26 #[ptr s, .int .i64 n, .string (bs x)] w fun e w' => e = .returned (.int .i64 0) ∧ ShL s d N (cnt + 3) lim h (spend arm) (S.set n x) w0 w' ∧ Inv h (S.set n x) U F ∧ Chg (Two s d) w w' := by
  have hr := inv.rg n (List.mem_append_left F hn)
  obtain ⟨y, hy⟩ := inv.dom.yes hr.1 hr.2
  refine (put_arm k.at' ha k.sm (by omega) (wf_of (by omega) (by omega)) x).mono ?_
  rintro e w' ⟨rfl, hA, hC⟩
  rw [put_yes hy hx] at hA ⊢
  have hm : Small (cnt + 3) (S.set n x) := by
    have := k.sm
    unfold Small at *
    show S.n + 1 ≤ _
    omega
  exact ⟨rfl, k.turned hA hC hm, inv.put hn x, hC⟩
theorem ShL.getA (k : ShL s d N cnt lim h arm S w0 w) (ha : Calm arm) {n : Int} (hn : Wf n) :
    Calls Tryz.prog 20 #[ptr s, .int .i64 n] w fun e w' => e = .returned (.tuple #[.string (bs (S.get n).1.1), .int .i64 (S.get n).1.2]) ∧ ShL s d N cnt lim h (spend arm) S w0 w' ∧ Chg (Two s d) w w' := by
  refine (get_arm k.at' ha hn).mono ?_
  rintro e w' ⟨rfl, hA, hC⟩
  exact ⟨rfl, k.turned hA hC k.sm, hC⟩
theorem new_lim (lim : Int) (h1' : lim < 1) (w : World) :
    Calls Tryz.prog 14 #[.int .i64 lim] w fun e w' => ∃ s d, e = .returned (ptr s) ∧ ShAt s d 1 h1 0 S0 w' ∧ Below w.heap.size w w' ∧ w.heap.size ≤ s ∧ w.heap.size ≤ d := by
  have hmk := fun (w : World) => run_makeMap (P := Tryz.prog) tMp w
  have hm : min (max lim 1) 4096 = 1 := by omega
  have HN := hid (fun w => shelf_new w 1)
  have HF := hid (fun w => fresh_head w)
  unfold hV h1 at HF
  simp only at HF
  clear h1'
  go_enter Tryz.func14, Tryz.ntmps14
  go_wp2_with fail
  refine (HF.out _).mono ?_
  rintro e w1 ⟨rfl, hb⟩
  have HB := hid hb
  have hmk := hmk w1
  clear hb
  go_wp2
  go_ret
  obtain ⟨k1, k2⟩ := HN.out w1
  have hs := HB.out.size
  exact ⟨_, _, rfl, k1, HB.out.trans (k2.mono hs), by omega, by omega⟩
theorem ShL.newL (lim : Int) (h2' : lim ≤ 4096) {w0 w : World} (hb0 : Below w0.heap.size w0 w) :
    Calls Tryz.prog 14 #[.int .i64 lim] w fun e w' => ∃ s d, e = .returned (ptr s) ∧ ShL s d w0.heap.size 0 (max lim 1) h1 0 S0 w0 w' := by
  have hs0 := hb0.size
  by_cases h : 1 ≤ lim
  · rw [Int.max_eq_left h]
    exact ShL.new lim h h2' hb0
  · rw [Int.max_eq_right (by omega)]
    refine (new_lim lim (by omega) w).mono ?_
    rintro e w' ⟨s, d, rfl, hA, hb, hs, hd⟩
    exact ⟨s, d, rfl, hA, by omega, by omega, hb0.trans (hb.mono hs0), small0⟩
end Sh
end Go.Proofs.YtkoglikaaehhjaaGreatDoor
