/-
  The reference's shelf: New(limit), and a page more.
-/
import Derived.Test.YtkoglikaaehhjaaGreatDoorChainRef
namespace Go.Proofs.YtkoglikaaehhjaaGreatDoor
open Go.RowKit
namespace Rf
open Sp
open Num (hid)
open Mem (Bs bs tI tS Chg ptr blk_new blk_cell blk_free blk_set blk_alloc)
open Sh (putH)
variable {N : Nat → Prop} {r b : Nat} {lim : Int} {h : Hd} {B : Book} {w w' : World}
theorem h1_is : (⟨1, 1, 0, 0, 0, 0⟩ : Hd) = Sh.h1 := rfl
theorem rfresh_head (w : World) : Calls Tryz.prog 35 #[] w fun e w' => e = .returned (hV Sh.h1) ∧ Below w.heap.size w w' := by
  go_enter Tryz.func35, Tryz.ntmps35
  go_wp2
  first
    | exact bodyPost_ret (v := hV Sh.h1) (by simp [results, hV, Sh.h1, go_sem]) rfl ⟨rfl, (Below.refl _ _).alloc (Nat.le_refl _) _⟩
    | exact bodyPost_ret (v := hV Sh.h1) (by simp [results, hV, Sh.h1, go_sem]) rfl ⟨rfl, Below.refl _ _⟩
set_option maxRecDepth 100000 in
set_option maxHeartbeats 1000000 in
theorem rnewS_any (lim : Int) (h1' : 1 ≤ lim) (h2' : lim ≤ 4096) (w : World) :
    Calls Tryz.prog 17 #[.int .i64 lim] w fun e w' => ∃ r b, e = .returned (ptr r) ∧ RAt (fun k => w.heap.size ≤ k) r b lim Sh.h1 [] w' ∧ Below w.heap.size w w' := by
  have hm1 : ¬ lim < 1 := by omega
  have hm2 : ¬ (4096 : Int) < lim := by omega
  have HF := hid (fun w => rfresh_head w)
  unfold hV Sh.h1 at HF
  simp only at HF
  clear h1' h2'
  go_enter Tryz.func17, Tryz.ntmps17
  go_wp2_with fail
  refine (HF.out _).mono ?_
  rintro e w1 ⟨rfl, hb⟩
  have hs := hb.size
  have e1 : (w1.alloc (.cells #[.slice none 0 0, .slice none 0 0] tBk)).heap.size = w1.heap.size + 1 := by simp
  have hb2 : Below w1.heap.size w1 (w1.alloc (.cells #[.slice none 0 0, .slice none 0 0] tBk)) := (Below.refl _ _).alloc (Nat.le_refl _) _
  have hb3 : Below (w1.alloc (.cells #[.slice none 0 0, .slice none 0 0] tBk)).heap.size (w1.alloc (.cells #[.slice none 0 0, .slice none 0 0] tBk)) ((w1.alloc (.cells #[.slice none 0 0, .slice none 0 0] tBk)).alloc (.cells (rsC lim Sh.h1 w1.heap.size) tRs)) := (Below.refl _ _).alloc (Nat.le_refl _) _
  have hbk : BookR (Bk (fun k => w.heap.size ≤ k) (w1.heap.size + 1)) (w1.alloc (.cells #[.slice none 0 0, .slice none 0 0] tBk)) w1.heap.size [] := book_new w1 ⟨hs, by omega⟩
  have hrb := blk_new (w1.alloc (.cells #[.slice none 0 0, .slice none 0 0] tBk)) (.cells (rsC lim Sh.h1 w1.heap.size) tRs)
  rw [e1] at hrb
  have KF : Hid (RAt (fun k => w.heap.size ≤ k) (w1.heap.size + 1) w1.heap.size lim Sh.h1 [] ((w1.alloc (.cells #[.slice none 0 0, .slice none 0 0] tBk)).alloc (.cells (rsC lim Sh.h1 w1.heap.size) tRs))) := hid ⟨hrb, hbk.on hb3, by show w.heap.size ≤ _; omega, fun x hx => by simp at hx, Nat.zero_le _, fun k hk => by
    have h9 := hb3.size
    rw [e1] at h9
    show w.heap.size ≤ k
    omega⟩
  have KB := hid (hb.trans ((hb2.trans (hb3.mono (by rw [e1]; omega))).mono hs))
  clear hb hs e1 hb2 hb3 hbk hrb
  go_wp2
  go_ret
  exact ⟨_, _, rfl, KF.out, KB.out⟩
/-! ### a page more -/
theorem RBlk.beside (k : RBlk r b lim h w) (o : Obj) : RBlk r b lim h (w.alloc o) := blk_alloc k o
/-- What the region of Take leaves, whichever way. -/
structure FinR (N : Nat → Prop) (r b : Nat) (lim : Int) (h : Hd) (B : Book) (h' : Hd) (g : Nat) (w2 w4 : World) : Prop where
  at' : RAt N r b lim h B w4
  hb : Hb g h' w4
  be : Below w2.heap.size w2 w4
  lt : w2.heap.size ≤ g
theorem finr_A {w2 w3 : World} (A : RAt N r b lim h B w2) (hb3 : Below w2.heap.size w2 w3) (h' : Hd) : FinR N r b lim h B h' w3.heap.size w2 (w3.alloc (hObj h')) := by
  have hb : Below w3.heap.size w3 (w3.alloc (hObj h')) := (Below.refl _ _).alloc (Nat.le_refl _) _
  exact ⟨(A.on hb3).on hb, Hb.new h' w3, hb3.trans (hb.mono hb3.size), hb3.size⟩
theorem finr_B {w2 w3 : World} (A : RAt N r b lim h B w2) (hb3 : Below (w2.alloc zObj).heap.size (w2.alloc zObj) w3) (h' : Hd) : FinR N r b lim h B h' w2.heap.size w2 (put6 w3 w2.heap.size h') ∧ Hb w2.heap.size hd0 w3 := by
  have hba : Below w2.heap.size w2 (w2.alloc zObj) := (Below.refl _ _).alloc (Nat.le_refl _) _
  have e1 : (w2.alloc zObj).heap.size = w2.heap.size + 1 := by simp
  have z : Hb w2.heap.size hd0 w3 := (hb3.block _ (by rw [e1]; omega)).trans (blk_new w2 zObj)
  have hbb := hba.trans (hb3.mono (by rw [e1]; omega))
  have A3 := A.on hbb
  have hc : Chg (· = w2.heap.size) w3 (put6 w3 w2.heap.size h') := ((((((Chg.refl _ w3).root _ _).root _ _).root _ _).root _ _).root _ _).root _ _
  have hl := A.lt
  refine ⟨⟨⟨hc.at A3.blk (by omega), ?_, A.nr, A.len, A.cnt, fun k hk => A.up k (Nat.le_trans hbb.size (Nat.le_trans hc.size hk))⟩, z.put h', hbb.trans (hc.below hbb.size (fun k hk e => by omega)), Nat.le_refl _⟩, z⟩
  have h2 := (A.book.mono (R' := fun k => Bk N r k ∧ k < w2.heap.size) (fun k hk e => ⟨e, hk⟩))
  exact ((h2.on hbb).apart hc (fun k hk e => by have := e.2; omega)).mono (fun k _ e => e.1)
theorem RAt.putA (A : RAt N r b lim h B w) (x : Hd) : RAt N r b lim x B (putH w r x) ∧ Chg (· = r) w (putH w r x) := by
  have hc : Chg (· = r) w (putH w r x) := ((((((Chg.refl _ w).root 1 _).root 2 _).root 3 _).root 4 _).root 5 _).root 6 _
  exact ⟨⟨A.blk.put x, A.book.apart hc (fun k hk e => e.2 hk), A.nr, A.len, A.cnt, fun k hk => A.up k (Nat.le_trans hc.size hk)⟩, hc⟩
theorem RBlk.seven (k : RBlk r b lim h w) : w.cell? ⟨r, 1, none⟩ = some (.int .i64 h.mode) ∧ w.cell? ⟨r, 2, none⟩ = some (.int .i64 h.pages) ∧ w.cell? ⟨r, 3, none⟩ = some (.int .i64 h.trunk) ∧ w.cell? ⟨r, 4, none⟩ = some (.int .i64 h.spare) ∧ w.cell? ⟨r, 5, none⟩ = some (.int .i64 h.root) ∧ w.cell? ⟨r, 6, none⟩ = some (.int .u64 (h.change : Nat)) ∧ w.cell? ⟨r, 7, none⟩ = some (ptr b) :=
  ⟨k.cells.2.1, k.cells.2.2.1, k.cells.2.2.2.1, k.cells.2.2.2.2.1, k.cells.2.2.2.2.2.1, k.cells.2.2.2.2.2.2.1, k.cells.2.2.2.2.2.2.2.1⟩
theorem full0 (w : World) : Calls Tryz.prog 27 #[.string ⟨#[]⟩] w fun e w' => e = .returned (.string (bs (zeros 232))) ∧ Below w.heap.size w w' := Sp.full_none w
abbrev more1 (h : Hd) : Hd := { h with pages := h.pages + 1 }
set_option maxRecDepth 100000 in
set_option maxHeartbeats 4000000 in
theorem rnew_any (A : RAt N r b lim h B w) (hc : B.length ≤ 4000) (h0 : h.spare = 0) (hp0 : 0 ≤ h.pages) (hp : h.pages < lim) (hl : lim ≤ 4096) :
    Calls Tryz.prog 19 #[ptr r] w fun e w' => e = .returned (.tuple #[.int .i64 h.pages, .int .i64 0]) ∧ RAt N r b lim (more1 h) (putB B h.pages (zeros 232)) w' ∧ Chg N w w' := by
  have HB := hid (begin_any A.blk)
  have HA := hid A
  have hA2 := A.blk
  have HT := hid (fun (wz : World) (D : BookR (Bk N r) wz b B) => rtake0 D h h0 (by omega) hp0)
  unfold takeV hV at HT
  simp only at HT
  have h0' : (h.spare == 0) = true := by simpa using h0
  have h2 : ¬ lim ≤ h.pages := by omega
  have h2' : decide (lim ≤ h.pages) = false := decide_eq_false h2
  have HCN := hid hc
  obtain ⟨c0, c1, c2, c3, c4, c5, c6, c7, c8⟩ := RBlk.cells A.blk
  have hlt := A.lt.1
  clear A h0 hp0 hp hl hc h2
  go_enter Tryz.func19, Tryz.ntmps19
  go_wp2_with fail
  refine HB.out.mono ?_
  rintro e w1 ⟨rfl, rfl⟩
  go_wp2_with fail
  go_quiet (fail)
  rename_i nq
  have HBL := hid (below_drewN (Below.refl w.heap.size w) nq)
  have A2 := hid (HA.out.on HBL.out)
  clear c0 c1 c2 c3 c4 c5 c6 c7 c8 hA2 hlt
  generalize w.drewN nq = w2 at *
  obtain ⟨c1, c2, c3, c4, c5, c6, c7⟩ := A2.out.blk.seven
  go_upto_region 6 with fail
  have HTA := hid (HT.out w2.drew (A2.out.on (Below.refl _ _).drew).book)
  have HTB := hid (HT.out (w2.alloc zObj).drew (A2.out.on ((Below.refl _ _).alloc (Nat.le_refl _) zObj).drew).book)
  have KA := hid (A2.out.on (Below.refl _ _).drew).blk.seven
  have KB := hid (A2.out.on ((Below.refl _ _).alloc (Nat.le_refl _) zObj).drew).blk.seven
  go_region_held3 (fun W => W.cell? ⟨r, 1, none⟩ = some (.int .i64 h.mode) ∧ W.cell? ⟨r, 2, none⟩ = some (.int .i64 h.pages) ∧ W.cell? ⟨r, 3, none⟩ = some (.int .i64 h.trunk) ∧ W.cell? ⟨r, 4, none⟩ = some (.int .i64 h.spare) ∧ W.cell? ⟨r, 5, none⟩ = some (.int .i64 h.root) ∧ W.cell? ⟨r, 6, none⟩ = some (.int .u64 (h.change : Nat)) ∧ W.cell? ⟨r, 7, none⟩ = some (ptr b))
    (first | with_reducible exact KA.out | with_reducible exact KB.out | with_reducible exact K3.out | with_reducible exact K4.out | with_reducible exact K5.out)
    (first
      | go_at_call 37; (with_reducible refine HTA.out.mono ?_); rintro e w3 ⟨rfl, -, hb3⟩; have HB3 := hid ((Below.refl w2.heap.size w2).drew.trans hb3); have K3 := hid (A2.out.on HB3.out).blk.seven; have K4 := hid ((A2.out.on HB3.out).blk.beside zObj).seven; have K5 := hid ((A2.out.on HB3.out).blk.beside (.cells #[.int .i64 h.mode, .int .i64 (h.pages + 1), .int .i64 h.trunk, .int .i64 h.spare, .int .i64 h.root, .int .u64 (h.change : Nat)] tH)).seven; clear hb3
      | go_at_call 37; (with_reducible refine HTB.out.mono ?_); rintro e w3 ⟨rfl, -, hb3⟩; have F3 := hid (finr_B (w3 := w3) A2.out ((Below.refl (w2.alloc zObj).heap.size (w2.alloc zObj)).drew.trans hb3) (more1 h)); have K3 := hid (A2.out.on (((Below.refl w2.heap.size w2).alloc (Nat.le_refl _) zObj).trans (((Below.refl (w2.alloc zObj).heap.size (w2.alloc zObj)).drew.trans hb3).mono (by simp)))).blk.seven; have K5 := hid F3.out.1.at'.blk.seven; obtain ⟨x0, x1, x2, x3, x4, x5⟩ := F3.out.2.cells; obtain ⟨z0, z1, z2, z3, z4, z5⟩ := F3.out.2.free; have hxl := F3.out.2.lt; clear hb3)
  · have E4 : Hid (FinR N r b lim h B (more1 h) w3.heap.size w2 (w3.alloc (.cells #[.int .i64 h.mode, .int .i64 (h.pages + 1), .int .i64 h.trunk, .int .i64 h.spare, .int .i64 h.root, .int .u64 (h.change : Nat)] tH))) := hid (finr_A A2.out HB3.out (more1 h))
    generalize hg : w3.heap.size = g at *
    generalize w3.alloc (.cells #[.int .i64 h.mode, .int .i64 (h.pages + 1), .int .i64 h.trunk, .int .i64 h.spare, .int .i64 h.root, .int .u64 (h.change : Nat)] tH) = w4 at *
    obtain ⟨q0, q1, q2, q3, q4, q5, q6, q7, q8⟩ := RBlk.cells E4.out.at'.blk
    obtain ⟨f1, f2, f3, f4, f5, f6⟩ := RBlk.free E4.out.at'.blk
    have hc4 : Sp.Hb g (more1 h) w4 := E4.out.hb
    obtain ⟨x0, x1, x2, x3, x4, x5⟩ : w4.cell? ⟨g, 0, none⟩ = some (.int .i64 h.mode) ∧ w4.cell? ⟨g, 1, none⟩ = some (.int .i64 (h.pages + 1)) ∧ w4.cell? ⟨g, 2, none⟩ = some (.int .i64 h.trunk) ∧ w4.cell? ⟨g, 3, none⟩ = some (.int .i64 h.spare) ∧ w4.cell? ⟨g, 4, none⟩ = some (.int .i64 h.root) ∧ w4.cell? ⟨g, 5, none⟩ = some (.int .u64 (h.change : Nat)) := hc4.cells
    have l1 := E4.out.at'.lt.1
    have l2 := E4.out.hb.lt
    have A5 : Hid (RAt N r b lim (more1 h) B ((((((w4.setCell ⟨r, 1, none⟩ (.int .i64 h.mode)).setCell ⟨r, 2, none⟩ (.int .i64 (h.pages + 1))).setCell ⟨r, 3, none⟩ (.int .i64 h.trunk)).setCell ⟨r, 4, none⟩ (.int .i64 h.spare)).setCell ⟨r, 5, none⟩ (.int .i64 h.root)).setCell ⟨r, 6, none⟩ (.int .u64 (h.change : Nat))) ∧ Chg (· = r) w4 ((((((w4.setCell ⟨r, 1, none⟩ (.int .i64 h.mode)).setCell ⟨r, 2, none⟩ (.int .i64 (h.pages + 1))).setCell ⟨r, 3, none⟩ (.int .i64 h.trunk)).setCell ⟨r, 4, none⟩ (.int .i64 h.spare)).setCell ⟨r, 5, none⟩ (.int .i64 h.root)).setCell ⟨r, 6, none⟩ (.int .u64 (h.change : Nat)))) := hid (E4.out.at'.putA (more1 h))
    clear hc4
    go_upto_region 10 with fail
    clear q0 q1 q2 q3 q4 q5 q6 q7 q8 f1 f2 f3 f4 f5 f6 x0 x1 x2 x3 x4 x5 l1 l2
    generalize (((((w4.setCell ⟨r, 1, none⟩ (.int .i64 h.mode)).setCell ⟨r, 2, none⟩ (.int .i64 (h.pages + 1))).setCell ⟨r, 3, none⟩ (.int .i64 h.trunk)).setCell ⟨r, 4, none⟩ (.int .i64 h.spare)).setCell ⟨r, 5, none⟩ (.int .i64 h.root)).setCell ⟨r, 6, none⟩ (.int .u64 (h.change : Nat)) = w5 at *
    have y7 : Hid (∀ wx, Below w5.heap.size w5 wx → wx.cell? ⟨r, 7, none⟩ = some (ptr b)) := hid (fun wx hx => (RBlk.seven (A5.out.1.on hx).blk).2.2.2.2.2.2)
    refine Tail.wp_region_quiet_tail 6 (fun wx => Below w5.heap.size w5 wx) (by kernel_rfl) (by kernel_rfl) (Below.refl _ w5).drew ?_
    simp only [List.take_succ_cons, List.take_zero, List.drop_succ_cons, List.drop_zero]
    go_big_quiet_want
    go_big_quiet_op
    go_big_quiet_on
    go_big_quiet_want
    go_big_quiet_op
    refine ⟨ptr r, fun wx hx => ?_, ?_⟩
    · first | rfl | simp [go_sem]
    go_big_quiet_on
    go_big_quiet_want
    go_big_quiet_op
    refine ⟨.pointer (some ⟨r, 7, none⟩), fun wx hx => ?_, ?_⟩
    · first | rfl | simp [go_sem]
    go_big_quiet_on
    go_big_quiet_want
    go_big_quiet_op
    refine ⟨ptr b, fun wx hx => ?_, ?_⟩
    · have c := y7.out wx hx
      simp [go_sem, c]
    go_big_quiet_on
    go_big_quiet_want
    go_big_quiet_op
    go_big_quiet_on
    go_big_quiet_want
    go_big_quiet_op
    refine ⟨.string (bs (zeros 232)), fun wx hx => ?_, ?_⟩
    · refine (full0 wx).mono ?_
      rintro e w9 ⟨rfl, hb9⟩
      exact ⟨rfl, hx.trans (hb9.mono hx.size)⟩
    go_big_quiet_on
    refine wpQuiet_nil ?_
    intro wq hq
    have hcw : Chg N w wq := by
      have h1 : Chg N w w4 := Chg.of_below (HBL.out.trans (E4.out.be.mono HBL.out.size))
      have h2 : Chg N w4 w5 := A5.out.2.mono (fun k _ e => by have e2 : k = r := e; rw [e2]; exact A5.out.1.nr)
      exact (h1.trans h2).trans (Chg.of_below hq)
    have HCW := hid hcw
    have HPT := hid ((A5.out.1.on hq).bput HCN.out h.pages (zeros 232) (zeros_len 232))
    clear hq hcw
    go_wp2_with fail
    refine HPT.out.mono ?_
    rintro e w6 ⟨rfl, hA6, hC6⟩
    have HF := hid (And.intro hA6 (HCW.out.trans hC6))
    clear hA6 hC6
    go_wp2
    go_ret2
    exact ⟨rfl, HF.out.1, HF.out.2⟩
  · have E4 : Hid (FinR N r b lim h B (more1 h) w2.heap.size w2 ((((((w3.setCell ⟨w2.heap.size, 0, none⟩ (.int .i64 h.mode)).setCell ⟨w2.heap.size, 1, none⟩ (.int .i64 (h.pages + 1))).setCell ⟨w2.heap.size, 2, none⟩ (.int .i64 h.trunk)).setCell ⟨w2.heap.size, 3, none⟩ (.int .i64 h.spare)).setCell ⟨w2.heap.size, 4, none⟩ (.int .i64 h.root)).setCell ⟨w2.heap.size, 5, none⟩ (.int .u64 (h.change : Nat)))) := hid F3.out.1
    generalize hg : w2.heap.size = g at *
    clear x0 x1 x2 x3 x4 x5 z0 z1 z2 z3 z4 z5 hxl
    generalize (((((w3.setCell ⟨g, 0, none⟩ (.int .i64 h.mode)).setCell ⟨g, 1, none⟩ (.int .i64 (h.pages + 1))).setCell ⟨g, 2, none⟩ (.int .i64 h.trunk)).setCell ⟨g, 3, none⟩ (.int .i64 h.spare)).setCell ⟨g, 4, none⟩ (.int .i64 h.root)).setCell ⟨g, 5, none⟩ (.int .u64 (h.change : Nat)) = w4 at *
    obtain ⟨q0, q1, q2, q3, q4, q5, q6, q7, q8⟩ := RBlk.cells E4.out.at'.blk
    obtain ⟨f1, f2, f3, f4, f5, f6⟩ := RBlk.free E4.out.at'.blk
    have hc4 : Sp.Hb g (more1 h) w4 := E4.out.hb
    obtain ⟨x0, x1, x2, x3, x4, x5⟩ : w4.cell? ⟨g, 0, none⟩ = some (.int .i64 h.mode) ∧ w4.cell? ⟨g, 1, none⟩ = some (.int .i64 (h.pages + 1)) ∧ w4.cell? ⟨g, 2, none⟩ = some (.int .i64 h.trunk) ∧ w4.cell? ⟨g, 3, none⟩ = some (.int .i64 h.spare) ∧ w4.cell? ⟨g, 4, none⟩ = some (.int .i64 h.root) ∧ w4.cell? ⟨g, 5, none⟩ = some (.int .u64 (h.change : Nat)) := hc4.cells
    have l1 := E4.out.at'.lt.1
    have l2 := E4.out.hb.lt
    have A5 : Hid (RAt N r b lim (more1 h) B ((((((w4.setCell ⟨r, 1, none⟩ (.int .i64 h.mode)).setCell ⟨r, 2, none⟩ (.int .i64 (h.pages + 1))).setCell ⟨r, 3, none⟩ (.int .i64 h.trunk)).setCell ⟨r, 4, none⟩ (.int .i64 h.spare)).setCell ⟨r, 5, none⟩ (.int .i64 h.root)).setCell ⟨r, 6, none⟩ (.int .u64 (h.change : Nat))) ∧ Chg (· = r) w4 ((((((w4.setCell ⟨r, 1, none⟩ (.int .i64 h.mode)).setCell ⟨r, 2, none⟩ (.int .i64 (h.pages + 1))).setCell ⟨r, 3, none⟩ (.int .i64 h.trunk)).setCell ⟨r, 4, none⟩ (.int .i64 h.spare)).setCell ⟨r, 5, none⟩ (.int .i64 h.root)).setCell ⟨r, 6, none⟩ (.int .u64 (h.change : Nat)))) := hid (E4.out.at'.putA (more1 h))
    clear hc4
    go_upto_region 10 with fail
    clear q0 q1 q2 q3 q4 q5 q6 q7 q8 f1 f2 f3 f4 f5 f6 x0 x1 x2 x3 x4 x5 l1 l2
    generalize (((((w4.setCell ⟨r, 1, none⟩ (.int .i64 h.mode)).setCell ⟨r, 2, none⟩ (.int .i64 (h.pages + 1))).setCell ⟨r, 3, none⟩ (.int .i64 h.trunk)).setCell ⟨r, 4, none⟩ (.int .i64 h.spare)).setCell ⟨r, 5, none⟩ (.int .i64 h.root)).setCell ⟨r, 6, none⟩ (.int .u64 (h.change : Nat)) = w5 at *
    have y7 : Hid (∀ wx, Below w5.heap.size w5 wx → wx.cell? ⟨r, 7, none⟩ = some (ptr b)) := hid (fun wx hx => (RBlk.seven (A5.out.1.on hx).blk).2.2.2.2.2.2)
    refine Tail.wp_region_quiet_tail 6 (fun wx => Below w5.heap.size w5 wx) (by kernel_rfl) (by kernel_rfl) (Below.refl _ w5).drew ?_
    simp only [List.take_succ_cons, List.take_zero, List.drop_succ_cons, List.drop_zero]
    go_big_quiet_want
    go_big_quiet_op
    go_big_quiet_on
    go_big_quiet_want
    go_big_quiet_op
    refine ⟨ptr r, fun wx hx => ?_, ?_⟩
    · first | rfl | simp [go_sem]
    go_big_quiet_on
    go_big_quiet_want
    go_big_quiet_op
    refine ⟨.pointer (some ⟨r, 7, none⟩), fun wx hx => ?_, ?_⟩
    · first | rfl | simp [go_sem]
    go_big_quiet_on
    go_big_quiet_want
    go_big_quiet_op
    refine ⟨ptr b, fun wx hx => ?_, ?_⟩
    · have c := y7.out wx hx
      simp [go_sem, c]
    go_big_quiet_on
    go_big_quiet_want
    go_big_quiet_op
    go_big_quiet_on
    go_big_quiet_want
    go_big_quiet_op
    refine ⟨.string (bs (zeros 232)), fun wx hx => ?_, ?_⟩
    · refine (full0 wx).mono ?_
      rintro e w9 ⟨rfl, hb9⟩
      exact ⟨rfl, hx.trans (hb9.mono hx.size)⟩
    go_big_quiet_on
    refine wpQuiet_nil ?_
    intro wq hq
    have hcw : Chg N w wq := by
      have h1 : Chg N w w4 := Chg.of_below (HBL.out.trans (E4.out.be.mono HBL.out.size))
      have h2 : Chg N w4 w5 := A5.out.2.mono (fun k _ e => by have e2 : k = r := e; rw [e2]; exact A5.out.1.nr)
      exact (h1.trans h2).trans (Chg.of_below hq)
    have HCW := hid hcw
    have HPT := hid ((A5.out.1.on hq).bput HCN.out h.pages (zeros 232) (zeros_len 232))
    clear hq hcw
    go_wp2_with fail
    refine HPT.out.mono ?_
    rintro e w6 ⟨rfl, hA6, hC6⟩
    have HF := hid (And.intro hA6 (HCW.out.trans hC6))
    clear hA6 hC6
    go_wp2
    go_ret2
    exact ⟨rfl, HF.out.1, HF.out.2⟩
end Rf
end Go.Proofs.YtkoglikaaehhjaaGreatDoor
