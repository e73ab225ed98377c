/-
  Contracts of the shelf's Free, and of New(limit).
-/
import Derived.Test.YtkoglikaaehhjaaGreatDoorShelfNew
namespace Go.Proofs.YtkoglikaaehhjaaGreatDoor
open Go.RowKit
namespace Sh
open Sp
open Num (hid)
open Mem (Bs bs IAt tI tS tIs tSs Chg Row ptr blk_cell blk_free blk_new blk_set blk_other blk_alloc row_kept row_shape row_type)
variable {s d g : Nat} {lim : Int} {h : Hd} {arm : Int} {S : St} {w w' : World}
set_option maxRecDepth 100000 in
set_option maxHeartbeats 4000000 in
theorem free_any (A : ShAt s d lim h arm S w) (ha : arm < 1) (hf : Fit h) {c : Nat} (hS : Small c S) (hc : c ≤ 30000) {n : Int} (hn : Wf n) :
    Calls Tryz.prog 151 #[ptr s, .int .i64 n] w fun e w' => e = .returned (.int .i64 (freeM h S n).1) ∧ ShAt s d lim (freeM h S n).2.1 arm (freeM h S n).2.2 w' ∧ Chg (Two s d) w w' := by
  have HC := hid (call_ok A.blk ha)
  have HH := hid (has_any A.pages hn)
  obtain ⟨-, -, -, -, -, -, -, c7, -⟩ := A.blk.cells
  have HA := hid A
  have HT := hid (fun (wz : World) (D : DeskR (· = d) wz d 0 S) => give_map D hS hc h hf n)
  cases ef : S.f n with
  | none =>
    have e : freeM h S n = (21, h, S) := if_pos ef
    rw [e]
    rw [ef] at HH
    clear A ha hS hc hf e ef HT hn
    go_enter Tryz.func151, Tryz.ntmps151
    go_wp2_with fail
    refine HC.out.mono ?_
    rintro e w1 ⟨rfl, rfl⟩
    go_wp2_with fail
    refine HH.out.mono ?_
    rintro e w1 ⟨rfl, rfl⟩
    go_wp2
    go_ret
    exact ⟨rfl, HA.out, Chg.refl _ _⟩
  | some x =>
    have e : freeM h S n = after (giveM h S n) h := if_neg (by rw [ef]; simp)
    rw [e]
    rw [ef] at HH
    generalize hX : giveM h S n = X at *
    obtain ⟨⟨h', e1⟩, S'⟩ := X
    have hA2 := A.blk
    unfold giveV hV at HT
    simp only at HT
    clear A ha hS hc hf hX e ef hn
    go_enter Tryz.func151, Tryz.ntmps151
    go_wp2_with fail
    refine HC.out.mono ?_
    rintro e w1 ⟨rfl, rfl⟩
    go_wp2_with fail
    refine HH.out.mono ?_
    rintro e w2 ⟨rfl, ew⟩
    have HD2 : Hid (DeskR (· = d) w d 0 S) := hid HA.out.pages
    have HN2 : Hid (s < w.heap.size ∧ d < w.heap.size ∧ s ≠ d) := hid ⟨HA.out.lt.1, HA.out.lt.2, HA.out.ne⟩
    clear c7
    subst ew
    obtain ⟨c1, c2, c3, c4, c5, c6, c7⟩ := hA2.seven
    have K2 := hid hA2
    clear hA2
    go_upto_region 6 with fail
    have HTA := hid (HT.out w.drew (HD2.out.on (Below.refl _ _).drew))
    have HTB := hid (HT.out (w.alloc zObj).drew (HD2.out.on ((Below.refl _ _).alloc (Nat.le_refl _) zObj).drew))
    have KA := hid (ShBlk.seven (show ShBlk s d lim h arm w.drew from K2.out))
    have KB := hid (ShBlk.seven (show ShBlk s d lim h arm (w.alloc zObj).drew from K2.out.beside zObj))
    go_region_held3 (fun W => W.cell? ⟨s, 1, none⟩ = some (.int .i64 h.mode) ∧ W.cell? ⟨s, 2, none⟩ = some (.int .i64 h.pages) ∧ W.cell? ⟨s, 3, none⟩ = some (.int .i64 h.trunk) ∧ W.cell? ⟨s, 4, none⟩ = some (.int .i64 h.spare) ∧ W.cell? ⟨s, 5, none⟩ = some (.int .i64 h.root) ∧ W.cell? ⟨s, 6, none⟩ = some (.int .u64 (h.change : Nat)) ∧ W.cell? ⟨s, 7, none⟩ = some (.map (some d)))
      (first | with_reducible exact KA.out | with_reducible exact KB.out | with_reducible exact K3.out | with_reducible exact K4.out | with_reducible exact K5.out)
      (first
        | go_at_call 152; with_reducible refine HTA.out.mono ?_; rintro e w3 ⟨rfl, hd3, hc3⟩; have F3 := hid (take_callA K2.out HD2.out HN2.out hd3 hc3); have K3 := hid (ShBlk.seven F3.out.1); have K4 := hid (ShBlk.seven (F3.out.1.beside zObj)); have K5 := hid (ShBlk.seven (F3.out.1.beside (hObj h'))); clear hd3 hc3
        | go_at_call 152; with_reducible refine HTB.out.mono ?_; rintro e w3 ⟨rfl, hd3, hc3⟩; have F3 := hid (take_callB K2.out HD2.out HN2.out hd3 hc3); have K3 := hid (ShBlk.seven F3.out.1); have K5 := hid (ShBlk.seven (ShBlk.box6 F3.out.1 (F3.out.2.1) h')); obtain ⟨x0, x1, x2, x3, x4, x5⟩ := F3.out.2.2.1.cells; obtain ⟨z0, z1, z2, z3, z4, z5⟩ := F3.out.2.2.1.free; have hxl := F3.out.2.2.1.lt; clear hd3 hc3)
    · have E4 := hid (fin_A F3.out h')
      generalize hg : w3.heap.size = g at *
      generalize w3.alloc (.cells #[.int .i64 h'.mode, .int .i64 h'.pages, .int .i64 h'.trunk, .int .i64 h'.spare, .int .i64 h'.root, .int .u64 (h'.change : Nat)] tH) = w4 at *
      obtain ⟨q0, q1, q2, q3, q4, q5, q6, q7, q8⟩ := E4.out.at'.blk.cells
      obtain ⟨f1, f2, f3, f4, f5, f6, f8⟩ := E4.out.at'.blk.free
      obtain ⟨x0, x1, x2, x3, x4, x5⟩ := E4.out.hb.cells
      have l1 := E4.out.at'.lt.1
      have l2 := E4.out.hb.lt
      by_cases he : e1 = 0
      · subst he
        have hm : after ((h', 0), S') h = (0, h', S') := if_neg (fun e => e rfl)
        have HM := hid hm
        have HA5 := hid (E4.out.at'.putA h')
        clear hm
        go_wp2
        go_ret
        have HM := HM.out
        rw [HM]
        exact ⟨rfl, HA5.out.1, ((E4.out.chg.mono (fun _ _ e => Or.inr e)).trans (HA5.out.2.mono (fun _ _ e => Or.inl e)))⟩
      · have hm : after ((h', e1), S') h = (e1, h, S') := if_pos he
        have HM := hid hm
        have he2 : (e1 != 0) = true := by simpa using he
        clear hm he
        go_wp2
        go_ret
        have HM := HM.out
        rw [HM]
        exact ⟨rfl, E4.out.at', (E4.out.chg.mono (fun _ _ e => Or.inr e))⟩
    · have E4 := hid (fin_B F3.out HN2.out h')
      unfold put6 at E4
      generalize hg : w.heap.size = g at *
      clear x0 x1 x2 x3 x4 x5 z0 z1 z2 z3 z4 z5 hxl
      generalize (((((w3.setCell ⟨g, 0, none⟩ (.int .i64 h'.mode)).setCell ⟨g, 1, none⟩ (.int .i64 h'.pages)).setCell ⟨g, 2, none⟩ (.int .i64 h'.trunk)).setCell ⟨g, 3, none⟩ (.int .i64 h'.spare)).setCell ⟨g, 4, none⟩ (.int .i64 h'.root)).setCell ⟨g, 5, none⟩ (.int .u64 (h'.change : Nat)) = w4 at *
      obtain ⟨q0, q1, q2, q3, q4, q5, q6, q7, q8⟩ := E4.out.at'.blk.cells
      obtain ⟨f1, f2, f3, f4, f5, f6, f8⟩ := E4.out.at'.blk.free
      obtain ⟨x0, x1, x2, x3, x4, x5⟩ := E4.out.hb.cells
      have l1 := E4.out.at'.lt.1
      have l2 := E4.out.hb.lt
      by_cases he : e1 = 0
      · subst he
        have hm : after ((h', 0), S') h = (0, h', S') := if_neg (fun e => e rfl)
        have HM := hid hm
        have HA5 := hid (E4.out.at'.putA h')
        clear hm
        go_wp2
        go_ret
        have HM := HM.out
        rw [HM]
        exact ⟨rfl, HA5.out.1, ((E4.out.chg.mono (fun _ _ e => Or.inr e)).trans (HA5.out.2.mono (fun _ _ e => Or.inl e)))⟩
      · have hm : after ((h', e1), S') h = (e1, h, S') := if_pos he
        have HM := hid hm
        have he2 : (e1 != 0) = true := by simpa using he
        clear hm he
        go_wp2
        go_ret
        have HM := HM.out
        rw [HM]
        exact ⟨rfl, E4.out.at', (E4.out.chg.mono (fun _ _ e => Or.inr e))⟩
/-! ### New(limit) -/
def h1 : Hd := ⟨1, 1, 0, 0, 0, 0⟩
def S0 : St := ⟨fun _ => none, 0⟩
theorem fit1 : Fit h1 := by unfold Fit; decide
theorem small0 : Small 0 S0 := Nat.le_refl _
theorem dom0 : Dom h1 S0 := inv_new.dom
theorem fresh_head (w : World) : Calls Tryz.prog 34 #[] w fun e w' => e = .returned (hV h1) ∧ Below w.heap.size w w' := by
  go_enter Tryz.func34, Tryz.ntmps34
  go_wp2
  exact bodyPost_ret (v := hV h1) (by simp [results, hV, h1, go_sem]) rfl ⟨rfl, (Below.refl _ _).alloc (Nat.le_refl _) _⟩
theorem map_new (w : World) : DeskR (· = w.heap.size) (w.alloc (.map #[] 0)) w.heap.size 0 S0 := by
  have hno : ∀ k x, ¬ S0.f k = some x := fun k x h => absurd (show (none : Option Bs) = some x from h) (by simp)
  exact { own := rfl, len := fun k x h => absurd h (hno k x), map := ⟨_, World.ownsMap_made w Tryz.prog tI (plainElem (H := Unit) Tryz.prog tS), ⟨fun k x _ h => absurd h (hno k x), fun k _ _ => rfl⟩⟩ }
theorem shelf_new (w : World) (lim : Int) : ShAt (w.heap.size + 1) w.heap.size lim h1 0 S0 ((w.alloc (.map #[] 0)).alloc (.cells (shC lim h1 w.heap.size 0) tSh)) ∧ Below w.heap.size w ((w.alloc (.map #[] 0)).alloc (.cells (shC lim h1 w.heap.size 0) tSh)) := by
  have hb := blk_new (w.alloc (.map #[] 0)) (.cells (shC lim h1 w.heap.size 0) tSh)
  have e1 : (w.alloc (.map #[] 0)).heap.size = w.heap.size + 1 := by simp
  rw [e1] at hb
  have hb2 : Below (w.alloc (.map #[] 0)).heap.size (w.alloc (.map #[] 0)) ((w.alloc (.map #[] 0)).alloc (.cells (shC lim h1 w.heap.size 0) tSh)) := (Below.refl _ _).alloc (Nat.le_refl _) _
  exact ⟨⟨hb, (map_new w).on hb2⟩, ((Below.refl _ _).alloc (Nat.le_refl _) _).alloc (by rw [e1]; omega) _⟩
set_option maxRecDepth 100000 in
set_option maxHeartbeats 1000000 in
theorem newS_any (lim : Int) (h1' : 1 ≤ lim) (h2' : lim ≤ 4096) (w : World) :
    Calls Tryz.prog 14 #[.int .i64 lim] w fun e w' => ∃ s d, e = .returned (ptr s) ∧ ShAt s d lim h1 0 S0 w' ∧ Below w.heap.size w w' ∧ w.heap.size ≤ s ∧ w.heap.size ≤ d := by
  have hmk := fun (w : World) => run_makeMap (P := Tryz.prog) tMp w
  have hm : min (max lim 1) 4096 = lim := by omega
  have HN := hid (fun w => shelf_new w lim)
  have HF := hid (fun w => fresh_head w)
  unfold hV h1 at HF
  simp only at HF
  clear h1' h2'
  go_enter Tryz.func14, Tryz.ntmps14
  go_wp2_with fail
  refine (HF.out _).mono ?_
  rintro e w1 ⟨rfl, hb⟩
  have HB := hid hb
  have hmk := hmk w1
  clear hb
  go_wp2
  go_ret
  obtain ⟨k1, k2⟩ := HN.out w1
  have hs := HB.out.size
  exact ⟨_, _, rfl, k1, HB.out.trans (k2.mono hs), by omega, by omega⟩
end Sh
end Go.Proofs.YtkoglikaaehhjaaGreatDoor
