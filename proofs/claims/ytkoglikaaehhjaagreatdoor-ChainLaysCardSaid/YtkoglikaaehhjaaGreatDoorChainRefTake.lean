/-
  Contract of the reference's Take where no page is free: the next page.
-/
import Derived.Test.YtkoglikaaehhjaaGreatDoorGrpSpB
import Derived.Test.YtkoglikaaehhjaaGreatDoorGrpSpC
namespace Go.Proofs.YtkoglikaaehhjaaGreatDoor
open Go.RowKit
namespace Rf
open Sp
open Num (hid)
open Mem (Bs bs tI tS Chg ptr blk_new)
structure RT (Q : Nat → Prop) (w : World) (bk : Nat) (B : Book) (g z : Hd) (wr : World) : Prop where
  a : Hb w.heap.size g wr
  r : Hb (w.heap.size + 1) z wr
  book : BookR Q wr bk B
  low : ∀ k, Q k → k < w.heap.size
  be : Below w.heap.size w wr
variable {Q R : Nat → Prop} {w wr w' : World} {bk : Nat} {B : Book} {g z : Hd}
theorem rt_new (h : BookR R w bk B) (hd : Hd) : RT (fun k => R k ∧ k < w.heap.size) w bk B hd hd0 ((w.alloc (hObj hd)).alloc zObj) := by
  have e1 : (w.alloc (hObj hd)).heap.size = w.heap.size + 1 := by simp
  have hb1 : Below (w.alloc (hObj hd)).heap.size (w.alloc (hObj hd)) ((w.alloc (hObj hd)).alloc zObj) := (Below.refl _ _).alloc (Nat.le_refl _) _
  have hb0 : Below w.heap.size w (w.alloc (hObj hd)) := (Below.refl _ _).alloc (Nat.le_refl _) _
  have H2 : Hb (w.alloc (hObj hd)).heap.size hd0 ((w.alloc (hObj hd)).alloc zObj) := blk_new _ _
  rw [e1] at H2
  exact ⟨(Hb.new hd w).on hb1, H2, ((h.mono (fun q hq e => ⟨e, hq⟩)).on hb0).on hb1, fun k hk => hk.2, hb0.trans (hb1.mono (by rw [e1]; omega))⟩
theorem RT.setA (k : RT Q w bk B g z wr) {i : Nat} {u : Value} {g2 : Hd} (h : Hb w.heap.size g2 (wr.setCell ⟨w.heap.size, i, none⟩ u)) : RT Q w bk B g2 z (wr.setCell ⟨w.heap.size, i, none⟩ u) :=
  ⟨h, k.r.other (by omega) u, k.book.apart ((Chg.refl _ wr).root i u) (fun q hq e => by have := k.low q e; omega), k.low, bput k.be (Nat.le_refl _) i u⟩
theorem RT.pages (k : RT Q w bk B g z wr) (x : Int) : RT Q w bk B { g with pages := x } z (wr.setCell ⟨w.heap.size, 1, none⟩ (.int .i64 x)) := k.setA (k.a.pages x)
theorem RT.put (k : RT Q w bk B g z wr) (x : Hd) : RT Q w bk B g x (put6 wr (w.heap.size + 1) x) := by
  have hc : Chg (· = w.heap.size + 1) wr (put6 wr (w.heap.size + 1) x) := ((((((Chg.refl _ wr).root _ _).root _ _).root _ _).root _ _).root _ _).root _ _
  exact ⟨k.a.at hc (by omega), k.r.put x, k.book.apart hc (fun q hq e => by have := k.low q e; omega), k.low, bel_put6 k.be (Nat.le_succ _) x⟩
theorem RT.out (k : RT (fun k => R k ∧ k < w.heap.size) w bk B g z wr) : BookR R wr bk B ∧ Below w.heap.size w wr := ⟨k.book.mono (fun _ _ e => e.1), k.be⟩
set_option maxRecDepth 100000 in
set_option maxHeartbeats 4000000 in
theorem rtake0 (h : BookR R w bk B) (hd : Hd) (h0 : hd.spare = 0) (hp : hd.pages < 4096) (hp0 : 0 ≤ hd.pages) :
    Calls Tryz.prog 37 #[hV hd, ptr bk] w fun e w' => e = .returned (takeV (hd.pages, { hd with pages := hd.pages + 1 }, 0)) ∧ BookR R w' bk B ∧ Below w.heap.size w w' := by
  obtain ⟨z1, hz1⟩ : ∃ z1, z1 = (w.alloc (.cells #[.int .i64 hd.mode, .int .i64 hd.pages, .int .i64 hd.trunk, .int .i64 hd.spare, .int .i64 hd.root, .int .u64 (hd.change : Nat)] tH)).alloc zObj := ⟨_, rfl⟩
  have K1 : Hid (RT (fun k => R k ∧ k < w.heap.size) w bk B hd hd0 z1) := hid (by rw [hz1]; exact rt_new h hd)
  have HZ := hid hz1
  obtain ⟨a0, a1, a2, a3, a4, a5⟩ := K1.out.a.cells
  obtain ⟨b0, b1, b2, b3, b4, b5⟩ := K1.out.a.free
  obtain ⟨r0, r1, r2, r3, r4, r5⟩ := K1.out.r.cells
  obtain ⟨s0, s1, s2, s3, s4, s5⟩ := K1.out.r.free
  have hl1 := K1.out.a.lt
  have hl2 := K1.out.r.lt
  have h0' : (hd.spare == 0) = true := by simpa using h0
  have hp' : ¬ 4096 ≤ hd.pages := by omega
  have hw : wrap64 (hd.pages + 1) = hd.pages + 1 := by rw [Num.wrap_i]; omega
  have hw2 : wrap64 hd.pages = hd.pages := by rw [Num.wrap_i]; omega
  have K2 := hid (K1.out.pages (hd.pages + 1))
  clear h hz1 h0 hp hp0
  unfold hV
  go_enter Tryz.func37, Tryz.ntmps37
  go_upto_region 1 with fail
  rw [← HZ.out]
  go_upto_region 5 with fail
  clear a0 a1 a2 a3 a4 a5 b0 b1 b2 b3 b4 b5 r0 r1 r2 r3 r4 r5 s0 s1 s2 s3 s4 s5 hl1 hl2
  generalize z1.setCell ⟨w.heap.size, 1, none⟩ (.int .i64 (hd.pages + 1)) = z2 at *
  have KF := hid (K2.out.put { hd with pages := hd.pages + 1 })
  obtain ⟨a0, a1, a2, a3, a4, a5⟩ := K2.out.a.cells
  obtain ⟨r0, r1, r2, r3, r4, r5⟩ := K2.out.r.cells
  obtain ⟨s0, s1, s2, s3, s4, s5⟩ := K2.out.r.free
  have hl1 := K2.out.a.lt
  have hl2 := K2.out.r.lt
  go_region
  go_wp2
  obtain ⟨x0, x1, x2, x3, x4, x5⟩ := KF.out.r.cells
  have KO := hid (And.intro (KF.out.out.1.on (Below.refl _ _).drew) KF.out.out.2.drew)
  refine @bodyPost_ret Tryz.prog Tryz.f37 (fun e w' => e = .returned (takeV (hd.pages, { hd with pages := hd.pages + 1 }, 0)) ∧ BookR R w' bk B ∧ Below w.heap.size w w') _ _ (takeV (hd.pages, { hd with pages := hd.pages + 1 }, 0)) ?_ ?_ ?_
  · simp [results, takeV, hV, go_sem, x0, x1, x2, x3, x4, x5]
  · rfl
  · exact ⟨rfl, KO.out⟩
end Rf
end Go.Proofs.YtkoglikaaehhjaaGreatDoor
