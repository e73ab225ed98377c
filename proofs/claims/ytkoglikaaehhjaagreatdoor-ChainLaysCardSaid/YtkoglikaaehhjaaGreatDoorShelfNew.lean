/-
  Contracts of the shelf's New and Free, and of New(limit).
-/
import Derived.Test.YtkoglikaaehhjaaGreatDoorShelfObj
namespace Go.Proofs.YtkoglikaaehhjaaGreatDoor
open Go.RowKit
namespace Sh
open Sp
open Num (hid)
open Mem (Bs bs IAt tI tS tIs tSs Chg Row ptr blk_cell blk_free blk_new blk_set blk_other blk_alloc row_kept row_shape row_type)
variable {s d g : Nat} {lim : Int} {h : Hd} {arm : Int} {S : St} {w w' : World}
/-- A page of noughts is put. -/
def more (x : (Int × Hd × Int) × St) (h : Hd) : (Int × Int) × Hd × St := if x.1.2.2 ≠ 0 then ((0, x.1.2.2), h, x.2) else ((x.1.1, 0), x.1.2.1, x.2.set x.1.1 (zeros 232))
def newM (lim : Int) (h : Hd) (S : St) : (Int × Int) × Hd × St := if h.spare = 0 ∧ lim ≤ h.pages then ((0, 22), h, S) else more (takeM h S) h
def after (x : (Hd × Int) × St) (h : Hd) : Int × Hd × St := if x.1.2 ≠ 0 then (x.1.2, h, x.2) else (0, x.1.1, x.2)
def freeM (h : Hd) (S : St) (n : Int) : Int × Hd × St := if S.f n = none then (21, h, S) else after (giveM h S n) h
theorem take_wf (hf : Fit h) (S : St) (he : (takeM h S).1.2.2 = 0) : Wf (takeM h S).1.1 := by
  have ht : Wf h.trunk := wf_of (by unfold Fit at hf; omega) (by unfold Fit at hf; omega)
  unfold takeM at he ⊢
  split at he
  · rename_i h1
    rw [if_pos h1]
    unfold takeNew at he ⊢
    split at he
    · cases he
    · rename_i h2
      rw [if_neg h2]
      exact wf_of (by show _ ≤ h.pages; unfold Fit at hf; omega) (by show h.pages ≤ _; omega)
  · rename_i h1
    rw [if_neg h1]
    unfold takeOf at he ⊢
    split at he
    · rename_i h2; exact absurd he h2
    · rename_i h2
      rw [if_neg h2]
      split at he
      · cases he
      · rename_i h3
        rw [if_neg h3]
        split at he
        · rename_i h4
          rw [if_pos h4]
          unfold takeTrunk at he ⊢
          split at he
          · cases he
          · rename_i h5
            rw [if_neg h5]
            exact ht
        · rename_i h4
          rw [if_neg h4]
          split at he
          · rename_i h5; exact absurd he h5
          · rename_i h5
            rw [if_neg h5]
            have hok := (okT_iff _).1 (tat_okT S h.trunk (by simpa using h2))
            have := hok.2.2 _ (last_split h4).2
            exact wf_of (by show _ ≤ (trunkAt S h.trunk).1.1.list.getLastD 0; omega) (by show (trunkAt S h.trunk).1.1.list.getLastD 0 ≤ _; omega)
/-- A head's box made beside the shelf. -/
theorem ShBlk.beside (b : ShBlk s d lim h arm w) (o : Obj) : ShBlk s d lim h arm (w.alloc o) := blk_alloc b o
theorem ShBlk.box6 (b : ShBlk s d lim h arm w) {g : Nat} (hg : s ≠ g) (x : Hd) : ShBlk s d lim h arm (put6 w g x) :=
  blk_other (blk_other (blk_other (blk_other (blk_other (blk_other b hg _) hg _) hg _) hg _) hg _) hg _
theorem ShBlk.seven (b : ShBlk s d lim h arm w) : w.cell? ⟨s, 1, none⟩ = some (.int .i64 h.mode) ∧ w.cell? ⟨s, 2, none⟩ = some (.int .i64 h.pages) ∧ w.cell? ⟨s, 3, none⟩ = some (.int .i64 h.trunk) ∧ w.cell? ⟨s, 4, none⟩ = some (.int .i64 h.spare) ∧ w.cell? ⟨s, 5, none⟩ = some (.int .i64 h.root) ∧ w.cell? ⟨s, 6, none⟩ = some (.int .u64 (h.change : Nat)) ∧ w.cell? ⟨s, 7, none⟩ = some (.map (some d)) :=
  ⟨blk_cell b 1, blk_cell b 2, blk_cell b 3, blk_cell b 4, blk_cell b 5, blk_cell b 6, blk_cell b 7⟩
theorem zb (w : World) : (w.alloc zObj).drew.heap[w.heap.size]? = some zObj := blk_new w zObj
theorem zb_free {g : Nat} (h : w.heap[g]? = some zObj) : Hb g hd0 w := h
theorem take_callA {w2 w3 : World} {S' : St} (k : ShBlk s d lim h arm w2) (_hD : DeskR (· = d) w2 d 0 S) (hN : s < w2.heap.size ∧ d < w2.heap.size ∧ s ≠ d) (hd3 : DeskR (· = d) w3 d 0 S') (hc : Chg (· = d) w2.drew w3) :
    ShBlk s d lim h arm w3 ∧ s ≠ w3.heap.size ∧ DeskR (· = d) w3 d 0 S' ∧ Chg (· = d) w2 w3 := by
  have hc2 : Chg (· = d) w2 w3 := (Chg.refl _ w2).drew.trans hc
  have hb : ShBlk s d lim h arm w3 := hc2.at k hN.2.2
  exact ⟨hb, Nat.ne_of_lt (lt_of_block hb), hd3, hc2⟩
theorem take_callB {w2 w3 : World} {S' : St} (k : ShBlk s d lim h arm w2) (_hD : DeskR (· = d) w2 d 0 S) (hN : s < w2.heap.size ∧ d < w2.heap.size ∧ s ≠ d) (hd3 : DeskR (· = d) w3 d 0 S') (hc : Chg (· = d) (w2.alloc zObj).drew w3) :
    ShBlk s d lim h arm w3 ∧ s ≠ w2.heap.size ∧ Hb w2.heap.size hd0 w3 ∧ DeskR (· = d) w3 d 0 S' ∧ Chg (· = d) w2 w3 := by
  have hc2 : Chg (· = d) w2 w3 := ((Chg.refl _ w2).alloc zObj).drew.trans hc
  have hb : ShBlk s d lim h arm w3 := hc2.at k hN.2.2
  have hz : (w2.alloc zObj).drew.heap[w2.heap.size]? = some zObj := blk_new w2 zObj
  exact ⟨hb, Nat.ne_of_lt hN.1, hc.at hz (Nat.ne_of_gt hN.2.1), hd3, hc2⟩
theorem small_takeM {c : Nat} {S : St} (h : Small c S) (hd : Hd) : Small (c + 2) (takeM hd S).2 := by
  unfold takeM
  split
  · exact h.more (by omega)
  · have h1 := small_tat h hd.trunk
    unfold takeOf
    split
    · exact h1.more (by omega)
    · split
      · exact h1.more (by omega)
      · split
        · exact h1.more (by omega)
        · split
          · exact small_ptr h1 _ _
          · exact small_ptr h1 _ _
theorem small_giveM {c : Nat} {S : St} (h : Small c S) (hd : Hd) (n : Int) : Small (c + 2) (giveM hd S n).2 := by
  unfold giveM
  split
  · exact h.more (by omega)
  · split
    · exact h.more (by omega)
    · have h1 := (tf_len hd S n).2 c h
      unfold giveOf
      split
      · exact h1.more (by omega)
      · split
        · exact small_ptr h1 _ _
        · exact small_ptr h1 _ _
theorem ShAt.putA (A : ShAt s d lim h arm S w) (x : Hd) : ShAt s d lim x arm S (putH w s x) ∧ Chg (· = s) w (putH w s x) := by
  have hc : Chg (· = s) w (putH w s x) := ((((((Chg.refl _ w).root 1 _).root 2 _).root 3 _).root 4 _).root 5 _).root 6 _
  exact ⟨⟨A.blk.put x, A.pages.apart hc (fun k hk e => A.ne (hk.symm.trans e))⟩, hc⟩
theorem zeros_any (w : World) : Calls Tryz.prog 43 #[.string ⟨#[0]⟩, .int .i64 232] w fun e w' => e = .returned (.string (bs (zeros 232))) ∧ Below w.heap.size w w' := repeat_any 232 (by decide) w
theorem ShAt.page (A : ShAt s d lim h arm S w) {c : Nat} (hS : Small c S) (hc : c ≤ 50000) {n : Int} (hn : Wf n) (x : Bs) (hx : x.length = 232) :
    ∃ w', (Instr.mapUpdate tMp (.map (some d)) (.int .i64 n) (.string (bs x))).run Tryz.prog w = .ok () w' ∧ ShAt s d lim h arm (S.set n x) w' ∧ Chg (· = d) w w' := by
  obtain ⟨w', hr, hd, hc2⟩ := A.pages.put hS hc hn x hx
  exact ⟨w', hr, ⟨hc2.at A.blk A.ne, hd⟩, hc2⟩
theorem ShBlk.map7 (b : ShBlk s d lim h arm w) : w.cell? ⟨s, 7, none⟩ = some (.map (some d)) := blk_cell b 7
theorem put_fin {w5 w6 : World} {S'' : St} {n : Int} {x : ByteArray} (A : ShAt s d lim h arm S w5) (hb : Below w5.drew.heap.size w5.drew w6) (hp : ∀ w6, ShAt s d lim h arm S w6 → ∃ w', (Instr.mapUpdate tMp (.map (some d)) (.int .i64 n) (.string x)).run Tryz.prog w6 = .ok () w' ∧ ShAt s d lim h arm S'' w' ∧ Chg (· = d) w6 w') :
    ∃ w7, (Instr.mapUpdate tMp (.map (some d)) (.int .i64 n) (.string x)).run Tryz.prog w6 = .ok () w7 ∧ (ShBlk s d lim h arm w6 ∧ ShAt s d lim h arm S'' w7) ∧ Chg (Two s d) w5 w7 := by
  have hb2 : Below w5.heap.size w5 w6 := (Below.refl _ w5).drew.trans hb
  have A6 := A.on hb2
  obtain ⟨w7, hr, hA, hC⟩ := hp w6 A6
  exact ⟨w7, hr, ⟨A6.blk, hA⟩, (Chg.of_below hb2).trans (hC.mono (fun _ _ e => Or.inr e))⟩
/-- Behind Take: the shelf's box as it was, the new head's box. -/
structure Fin (s d : Nat) (lim : Int) (h : Hd) (arm : Int) (S' : St) (h' : Hd) (g : Nat) (w2 w4 : World) : Prop where
  at' : ShAt s d lim h arm S' w4
  hb : Hb g h' w4
  chg : Chg (· = d) w2 w4
theorem fin_put {w2 w : World} {S' : St} (k : ShBlk s d lim h arm w) (hg : s ≠ g) (hdg : d ≠ g) {z : Hd} (hz : Hb g z w) (hD : DeskR (· = d) w d 0 S') (hc : Chg (· = d) w2 w) (hl : w2.heap.size ≤ g) (h' : Hd) : Fin s d lim h arm S' h' g w2 (put6 w g h') :=
  ⟨⟨ShBlk.box6 k hg h', desk_put6 hD (fun e => hdg e.symm) h'⟩, hz.put h', chg_put6 hc (Or.inl hl) h'⟩
theorem fin_A {w2 w3 : World} {S' : St} (F : ShBlk s d lim h arm w3 ∧ s ≠ w3.heap.size ∧ DeskR (· = d) w3 d 0 S' ∧ Chg (· = d) w2 w3) (h' : Hd) : Fin s d lim h arm S' h' w3.heap.size w2 (w3.alloc (hObj h')) := by
  have hb : Below w3.heap.size w3 (w3.alloc (hObj h')) := (Below.refl _ _).alloc (Nat.le_refl _) _
  exact ⟨⟨F.1.beside _, F.2.2.1.on hb⟩, Hb.new h' w3, F.2.2.2.trans (Chg.of_below hb)⟩
theorem fin_B {w2 w3 : World} {S' : St} (F : ShBlk s d lim h arm w3 ∧ s ≠ w2.heap.size ∧ Hb w2.heap.size hd0 w3 ∧ DeskR (· = d) w3 d 0 S' ∧ Chg (· = d) w2 w3) (hN : s < w2.heap.size ∧ d < w2.heap.size ∧ s ≠ d) (h' : Hd) : Fin s d lim h arm S' h' w2.heap.size w2 (put6 w3 w2.heap.size h') :=
  fin_put F.1 F.2.1 (Nat.ne_of_lt hN.2.1) F.2.2.1 F.2.2.2.1 F.2.2.2.2 (Nat.le_refl _) h'
set_option maxRecDepth 100000 in
set_option maxHeartbeats 4000000 in
theorem new_any (A : ShAt s d lim h arm S w) (ha : arm < 1) (hf : Fit h) {c : Nat} (hS : Small c S) (hc : c ≤ 30000) :
    Calls Tryz.prog 25 #[ptr s] w fun e w' => e = .returned (.tuple #[.int .i64 (newM lim h S).1.1, .int .i64 (newM lim h S).1.2]) ∧ ShAt s d lim (newM lim h S).2.1 arm (newM lim h S).2.2 w' ∧ Chg (Two s d) w w' := by
  have HC := hid (call_ok A.blk ha)
  obtain ⟨c0, c1, c2, c3, c4, c5, c6, c7, c8⟩ := A.blk.cells
  have hlt := A.lt.1
  have HA := hid A
  have HT := hid (fun (wz : World) (D : DeskR (· = d) wz d 0 S) => take_map D hS hc h hf)
  have HW := hid (take_wf hf S)
  have HSM := hid (And.intro (small_takeM hS h) hc)
  by_cases hg1 : h.spare = 0 ∧ lim ≤ h.pages
  · obtain ⟨g1, g2⟩ := hg1
    have e : newM lim h S = ((0, 22), h, S) := if_pos ⟨g1, g2⟩
    rw [e]
    have h1 : (h.spare == 0) = true := by simpa using g1
    have h2 : decide (lim ≤ h.pages) = true := decide_eq_true g2
    clear A ha hS hc hf g1 HT HW e
    go_enter Tryz.func25, Tryz.ntmps25
    go_wp2_with fail
    refine HC.out.mono ?_
    rintro e w1 ⟨rfl, rfl⟩
    go_wp2_with fail
    go_quiet (fail)
    rename_i nq
    have HB := hid (below_drewN (Below.refl w.heap.size w) nq)
    go_wp2
    go_ret2
    exact ⟨rfl, HA.out.on HB.out, Chg.of_below HB.out⟩
  · have e : newM lim h S = more (takeM h S) h := if_neg hg1
    rw [e]
    have hq : (h.spare == 0) = false ∨ ((h.spare == 0) = true ∧ decide (lim ≤ h.pages) = false) := by
      by_cases h0 : h.spare = 0
      · exact Or.inr ⟨by simpa using h0, decide_eq_false (fun h1 => hg1 ⟨h0, h1⟩)⟩
      · exact Or.inl (by simpa using h0)
    generalize hX : takeM h S = X at *
    obtain ⟨⟨n, h', e1⟩, S'⟩ := X
    simp only at HW HSM
    have hA2 := A.blk
    unfold takeV hV at HT
    simp only at HT
    clear A ha hS hc hf hg1 hX e
    rcases hq with hq | ⟨hq, hq2⟩
    all_goals
      go_enter Tryz.func25, Tryz.ntmps25
      go_wp2_with fail
      refine HC.out.mono ?_
      rintro e w1 ⟨rfl, rfl⟩
      go_wp2_with fail
      go_quiet (fail)
      rename_i nq
      have HB := hid (below_drewN (Below.refl w.heap.size w) nq)
      have hb2 : ShBlk s d lim h arm (w.drewN nq) := hA2
      have HD2 : Hid (DeskR (· = d) (w.drewN nq) d 0 S) := hid (HA.out.pages.on HB.out)
      have HN2 : Hid (s < (w.drewN nq).heap.size ∧ d < (w.drewN nq).heap.size ∧ s ≠ d) := hid ⟨HA.out.lt.1, HA.out.lt.2, HA.out.ne⟩
      clear c0 c1 c2 c3 c4 c5 c6 c7 c8 hA2
      generalize w.drewN nq = w2 at *
      obtain ⟨c1, c2, c3, c4, c5, c6, c7⟩ := hb2.seven
      have K2 := hid hb2
      clear hb2
      go_upto_region 6 with fail
      have HTA := hid (HT.out w2.drew (HD2.out.on (Below.refl _ _).drew))
      have HTB := hid (HT.out (w2.alloc zObj).drew (HD2.out.on ((Below.refl _ _).alloc (Nat.le_refl _) zObj).drew))
      have KA := hid (ShBlk.seven (show ShBlk s d lim h arm w2.drew from K2.out))
      have KB := hid (ShBlk.seven (show ShBlk s d lim h arm (w2.alloc zObj).drew from K2.out.beside zObj))
      go_region_held3 (fun W => W.cell? ⟨s, 1, none⟩ = some (.int .i64 h.mode) ∧ W.cell? ⟨s, 2, none⟩ = some (.int .i64 h.pages) ∧ W.cell? ⟨s, 3, none⟩ = some (.int .i64 h.trunk) ∧ W.cell? ⟨s, 4, none⟩ = some (.int .i64 h.spare) ∧ W.cell? ⟨s, 5, none⟩ = some (.int .i64 h.root) ∧ W.cell? ⟨s, 6, none⟩ = some (.int .u64 (h.change : Nat)) ∧ W.cell? ⟨s, 7, none⟩ = some (.map (some d)))
        (first | with_reducible exact KA.out | with_reducible exact KB.out | with_reducible exact K3.out | with_reducible exact K4.out | with_reducible exact K5.out)
        (first
          | go_at_call 42; with_reducible refine HTA.out.mono ?_; rintro e w3 ⟨rfl, hd3, hc3⟩; have F3 := hid (take_callA K2.out HD2.out HN2.out hd3 hc3); have K3 := hid (ShBlk.seven F3.out.1); have K4 := hid (ShBlk.seven (F3.out.1.beside zObj)); have K5 := hid (ShBlk.seven (F3.out.1.beside (hObj h'))); clear hd3 hc3
          | go_at_call 42; with_reducible refine HTB.out.mono ?_; rintro e w3 ⟨rfl, hd3, hc3⟩; have F3 := hid (take_callB K2.out HD2.out HN2.out hd3 hc3); have K3 := hid (ShBlk.seven F3.out.1); have K5 := hid (ShBlk.seven (ShBlk.box6 F3.out.1 (F3.out.2.1) h')); obtain ⟨x0, x1, x2, x3, x4, x5⟩ := F3.out.2.2.1.cells; obtain ⟨z0, z1, z2, z3, z4, z5⟩ := F3.out.2.2.1.free; have hxl := F3.out.2.2.1.lt; clear hd3 hc3)
      · have E4 := hid (fin_A F3.out h')
        generalize hg : w3.heap.size = g at *
        generalize w3.alloc (.cells #[.int .i64 h'.mode, .int .i64 h'.pages, .int .i64 h'.trunk, .int .i64 h'.spare, .int .i64 h'.root, .int .u64 (h'.change : Nat)] tH) = w4 at *
        obtain ⟨q0, q1, q2, q3, q4, q5, q6, q7, q8⟩ := E4.out.at'.blk.cells
        obtain ⟨f1, f2, f3, f4, f5, f6, f8⟩ := E4.out.at'.blk.free
        obtain ⟨x0, x1, x2, x3, x4, x5⟩ := E4.out.hb.cells
        have l1 := E4.out.at'.lt.1
        have l2 := E4.out.hb.lt
        by_cases he : e1 = 0
        · subst he
          have hm : more ((n, h', 0), S') h = ((n, 0), h', S'.set n (zeros 232)) := if_neg (fun e => e rfl)
          have HM := hid hm
          have hwn := HW.out rfl
          have HA5 := hid (E4.out.at'.putA h')
          have HP5 := hid (fun (w6 : World) (A6 : ShAt s d lim h' arm S' w6) => A6.page HSM.out.1 (by have := HSM.out.2; omega) hwn (zeros 232) (zeros_len 232))
          clear hm hwn
          go_upto_region 10 with fail
          clear q0 q1 q2 q3 q4 q5 q6 q7 q8 f1 f2 f3 f4 f5 f6 f8 x0 x1 x2 x3 x4 x5 l1 l2
          unfold putH at HA5
          generalize (((((w4.setCell ⟨s, 1, none⟩ (.int .i64 h'.mode)).setCell ⟨s, 2, none⟩ (.int .i64 h'.pages)).setCell ⟨s, 3, none⟩ (.int .i64 h'.trunk)).setCell ⟨s, 4, none⟩ (.int .i64 h'.spare)).setCell ⟨s, 5, none⟩ (.int .i64 h'.root)).setCell ⟨s, 6, none⟩ (.int .u64 (h'.change : Nat)) = w5 at *
          have HRZ := hid (zeros_any w5.drew)
          have J5 := hid (ShBlk.map7 (show ShBlk s d lim h' arm w5.drew from HA5.out.1.blk))
          go_region_held3 (fun W => W.cell? ⟨s, 7, none⟩ = some (.map (some d)))
            (first | with_reducible exact J5.out | with_reducible exact J6.out | with_reducible exact J7.out)
            (first
              | go_at_call 43; with_reducible refine HRZ.out.mono ?_; rintro e w6 ⟨rfl, hb6⟩; obtain ⟨w7, hrun, hA7, hC7⟩ := put_fin HA5.out.1 hb6 HP5.out; have J6 := hid (ShBlk.map7 (hA7.1)); have J7 := hid (ShBlk.map7 hA7.2.blk); have K7 := hid (And.intro hA7.2 hC7); clear hb6 hA7 hC7)
          go_wp2
          go_ret2
          have HM := HM.out
          rw [HM]
          exact ⟨rfl, K7.out.1, ((Chg.of_below HB.out).trans (E4.out.chg.mono (fun _ _ e => Or.inr e))).trans ((HA5.out.2.mono (fun _ _ e => Or.inl e)).trans K7.out.2)⟩
        · have hm : more ((n, h', e1), S') h = ((0, e1), h, S') := if_pos he
          have HM := hid hm
          have he2 : (e1 != 0) = true := by simpa using he
          clear hm he
          go_wp2
          go_ret2
          have HM := HM.out
          rw [HM]
          exact ⟨rfl, E4.out.at', (Chg.of_below HB.out).trans (E4.out.chg.mono (fun _ _ e => Or.inr e))⟩
      · have E4 := hid (fin_B F3.out HN2.out h')
        unfold put6 at E4
        generalize hg : w2.heap.size = g at *
        clear x0 x1 x2 x3 x4 x5 z0 z1 z2 z3 z4 z5 hxl
        generalize (((((w3.setCell ⟨g, 0, none⟩ (.int .i64 h'.mode)).setCell ⟨g, 1, none⟩ (.int .i64 h'.pages)).setCell ⟨g, 2, none⟩ (.int .i64 h'.trunk)).setCell ⟨g, 3, none⟩ (.int .i64 h'.spare)).setCell ⟨g, 4, none⟩ (.int .i64 h'.root)).setCell ⟨g, 5, none⟩ (.int .u64 (h'.change : Nat)) = w4 at *
        obtain ⟨q0, q1, q2, q3, q4, q5, q6, q7, q8⟩ := E4.out.at'.blk.cells
        obtain ⟨f1, f2, f3, f4, f5, f6, f8⟩ := E4.out.at'.blk.free
        obtain ⟨x0, x1, x2, x3, x4, x5⟩ := E4.out.hb.cells
        have l1 := E4.out.at'.lt.1
        have l2 := E4.out.hb.lt
        by_cases he : e1 = 0
        · subst he
          have hm : more ((n, h', 0), S') h = ((n, 0), h', S'.set n (zeros 232)) := if_neg (fun e => e rfl)
          have HM := hid hm
          have hwn := HW.out rfl
          have HA5 := hid (E4.out.at'.putA h')
          have HP5 := hid (fun (w6 : World) (A6 : ShAt s d lim h' arm S' w6) => A6.page HSM.out.1 (by have := HSM.out.2; omega) hwn (zeros 232) (zeros_len 232))
          clear hm hwn
          go_upto_region 10 with fail
          clear q0 q1 q2 q3 q4 q5 q6 q7 q8 f1 f2 f3 f4 f5 f6 f8 x0 x1 x2 x3 x4 x5 l1 l2
          unfold putH at HA5
          generalize (((((w4.setCell ⟨s, 1, none⟩ (.int .i64 h'.mode)).setCell ⟨s, 2, none⟩ (.int .i64 h'.pages)).setCell ⟨s, 3, none⟩ (.int .i64 h'.trunk)).setCell ⟨s, 4, none⟩ (.int .i64 h'.spare)).setCell ⟨s, 5, none⟩ (.int .i64 h'.root)).setCell ⟨s, 6, none⟩ (.int .u64 (h'.change : Nat)) = w5 at *
          have HRZ := hid (zeros_any w5.drew)
          have J5 := hid (ShBlk.map7 (show ShBlk s d lim h' arm w5.drew from HA5.out.1.blk))
          go_region_held3 (fun W => W.cell? ⟨s, 7, none⟩ = some (.map (some d)))
            (first | with_reducible exact J5.out | with_reducible exact J6.out | with_reducible exact J7.out)
            (first
              | go_at_call 43; with_reducible refine HRZ.out.mono ?_; rintro e w6 ⟨rfl, hb6⟩; obtain ⟨w7, hrun, hA7, hC7⟩ := put_fin HA5.out.1 hb6 HP5.out; have J6 := hid (ShBlk.map7 (hA7.1)); have J7 := hid (ShBlk.map7 hA7.2.blk); have K7 := hid (And.intro hA7.2 hC7); clear hb6 hA7 hC7)
          go_wp2
          go_ret2
          have HM := HM.out
          rw [HM]
          exact ⟨rfl, K7.out.1, ((Chg.of_below HB.out).trans (E4.out.chg.mono (fun _ _ e => Or.inr e))).trans ((HA5.out.2.mono (fun _ _ e => Or.inl e)).trans K7.out.2)⟩
        · have hm : more ((n, h', e1), S') h = ((0, e1), h, S') := if_pos he
          have HM := hid hm
          have he2 : (e1 != 0) = true := by simpa using he
          clear hm he
          go_wp2
          go_ret2
          have HM := HM.out
          rw [HM]
          exact ⟨rfl, E4.out.at', (Chg.of_below HB.out).trans (E4.out.chg.mono (fun _ _ e => Or.inr e))⟩
end Sh
end Go.Proofs.YtkoglikaaehhjaaGreatDoor
