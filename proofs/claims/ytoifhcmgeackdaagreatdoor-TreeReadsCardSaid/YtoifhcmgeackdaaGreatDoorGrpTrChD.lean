/-
  Put together: ChainRefTake, ChainRef, ChainRefNew, ChainRefRead.
-/
import Derived.Test.YtoifhcmgeackdaaGreatDoorGrpTrSpB
import Derived.Test.YtoifhcmgeackdaaGreatDoorGrpTrSpC
import Derived.Test.YtoifhcmgeackdaaGreatDoorGrpTrChA
import Derived.Test.YtoifhcmgeackdaaGreatDoorGrpTrShC
import Derived.Test.YtoifhcmgeackdaaGreatDoorQuietTail
import Derived.Deep.RegionHeld3
import Derived.BigQuiet
/-
  Contract of the reference's Take where no page is free: the next page.
-/
namespace Go.Proofs.YtoifhcmgeackdaaGreatDoor
open Go.RowKit
namespace Rf
open Sp
open Num (hid)
open Mem (Bs bs tI tS Chg ptr blk_new)
structure RT (Q : Nat → Prop) (w : World) (bk : Nat) (B : Book) (g z : Hd) (wr : World) : Prop where
  a : Hb w.heap.size g wr
  r : Hb (w.heap.size + 1) z wr
  book : BookR Q wr bk B
  low : ∀ k, Q k → k < w.heap.size
  be : Below w.heap.size w wr
variable {Q R : Nat → Prop} {w wr w' : World} {bk : Nat} {B : Book} {g z : Hd}
theorem rt_new (h : BookR R w bk B) (hd : Hd) : RT (fun k => R k ∧ k < w.heap.size) w bk B hd hd0 ((w.alloc (hObj hd)).alloc zObj) := by
  have e1 : (w.alloc (hObj hd)).heap.size = w.heap.size + 1 := by simp
  have hb1 : Below (w.alloc (hObj hd)).heap.size (w.alloc (hObj hd)) ((w.alloc (hObj hd)).alloc zObj) := (Below.refl _ _).alloc (Nat.le_refl _) _
  have hb0 : Below w.heap.size w (w.alloc (hObj hd)) := (Below.refl _ _).alloc (Nat.le_refl _) _
  have H2 : Hb (w.alloc (hObj hd)).heap.size hd0 ((w.alloc (hObj hd)).alloc zObj) := blk_new _ _
  rw [e1] at H2
  exact ⟨(Hb.new hd w).on hb1, H2, ((h.mono (fun q hq e => ⟨e, hq⟩)).on hb0).on hb1, fun k hk => hk.2, hb0.trans (hb1.mono (by rw [e1]; omega))⟩
theorem RT.setA (k : RT Q w bk B g z wr) {i : Nat} {u : Value} {g2 : Hd} (h : Hb w.heap.size g2 (wr.setCell ⟨w.heap.size, i, none⟩ u)) : RT Q w bk B g2 z (wr.setCell ⟨w.heap.size, i, none⟩ u) :=
  ⟨h, k.r.other (by omega) u, k.book.apart ((Chg.refl _ wr).root i u) (fun q hq e => by have := k.low q e; omega), k.low, bput k.be (Nat.le_refl _) i u⟩
theorem RT.pages (k : RT Q w bk B g z wr) (x : Int) : RT Q w bk B { g with pages := x } z (wr.setCell ⟨w.heap.size, 1, none⟩ (.int .i64 x)) := k.setA (k.a.pages x)
theorem RT.put (k : RT Q w bk B g z wr) (x : Hd) : RT Q w bk B g x (put6 wr (w.heap.size + 1) x) := by
  have hc : Chg (· = w.heap.size + 1) wr (put6 wr (w.heap.size + 1) x) := ((((((Chg.refl _ wr).root _ _).root _ _).root _ _).root _ _).root _ _).root _ _
  exact ⟨k.a.at hc (by omega), k.r.put x, k.book.apart hc (fun q hq e => by have := k.low q e; omega), k.low, bel_put6 k.be (Nat.le_succ _) x⟩
theorem RT.out (k : RT (fun k => R k ∧ k < w.heap.size) w bk B g z wr) : BookR R wr bk B ∧ Below w.heap.size w wr := ⟨k.book.mono (fun _ _ e => e.1), k.be⟩
set_option maxRecDepth 100000 in
set_option maxHeartbeats 4000000 in
theorem rtake0 (h : BookR R w bk B) (hd : Hd) (h0 : hd.spare = 0) (hp : hd.pages < 4096) (hp0 : 0 ≤ hd.pages) :
    Calls Tryz.prog 38 #[hV hd, ptr bk] w fun e w' => e = .returned (takeV (hd.pages, { hd with pages := hd.pages + 1 }, 0)) ∧ BookR R w' bk B ∧ Below w.heap.size w w' := by
  obtain ⟨z1, hz1⟩ : ∃ z1, z1 = (w.alloc (.cells #[.int .i64 hd.mode, .int .i64 hd.pages, .int .i64 hd.trunk, .int .i64 hd.spare, .int .i64 hd.root, .int .u64 (hd.change : Nat)] tH)).alloc zObj := ⟨_, rfl⟩
  have K1 : Hid (RT (fun k => R k ∧ k < w.heap.size) w bk B hd hd0 z1) := hid (by rw [hz1]; exact rt_new h hd)
  have HZ := hid hz1
  obtain ⟨a0, a1, a2, a3, a4, a5⟩ := K1.out.a.cells
  obtain ⟨b0, b1, b2, b3, b4, b5⟩ := K1.out.a.free
  obtain ⟨r0, r1, r2, r3, r4, r5⟩ := K1.out.r.cells
  obtain ⟨s0, s1, s2, s3, s4, s5⟩ := K1.out.r.free
  have hl1 := K1.out.a.lt
  have hl2 := K1.out.r.lt
  have h0' : (hd.spare == 0) = true := by simpa using h0
  have hp' : ¬ 4096 ≤ hd.pages := by omega
  have hw : wrap64 (hd.pages + 1) = hd.pages + 1 := by rw [Num.wrap_i]; omega
  have hw2 : wrap64 hd.pages = hd.pages := by rw [Num.wrap_i]; omega
  have K2 := hid (K1.out.pages (hd.pages + 1))
  clear h hz1 h0 hp hp0
  unfold hV
  go_enter Tryz.func38, Tryz.ntmps38
  go_upto_region 1 with fail
  rw [← HZ.out]
  go_upto_region 5 with fail
  clear a0 a1 a2 a3 a4 a5 b0 b1 b2 b3 b4 b5 r0 r1 r2 r3 r4 r5 s0 s1 s2 s3 s4 s5 hl1 hl2
  generalize z1.setCell ⟨w.heap.size, 1, none⟩ (.int .i64 (hd.pages + 1)) = z2 at *
  have KF := hid (K2.out.put { hd with pages := hd.pages + 1 })
  obtain ⟨a0, a1, a2, a3, a4, a5⟩ := K2.out.a.cells
  obtain ⟨r0, r1, r2, r3, r4, r5⟩ := K2.out.r.cells
  obtain ⟨s0, s1, s2, s3, s4, s5⟩ := K2.out.r.free
  have hl1 := K2.out.a.lt
  have hl2 := K2.out.r.lt
  go_region
  go_wp2
  obtain ⟨x0, x1, x2, x3, x4, x5⟩ := KF.out.r.cells
  have KO := hid (And.intro (KF.out.out.1.on (Below.refl _ _).drew) KF.out.out.2.drew)
  refine @bodyPost_ret Tryz.prog Tryz.f38 (fun e w' => e = .returned (takeV (hd.pages, { hd with pages := hd.pages + 1 }, 0)) ∧ BookR R w' bk B ∧ Below w.heap.size w w') _ _ (takeV (hd.pages, { hd with pages := hd.pages + 1 }, 0)) ?_ ?_ ?_
  · simp [results, takeV, hV, go_sem, x0, x1, x2, x3, x4, x5]
  · rfl
  · exact ⟨rfl, KO.out⟩
end Rf
end Go.Proofs.YtoifhcmgeackdaaGreatDoor

/-
  The reference's shelf in memory; contracts of its calls.
-/
namespace Go.Proofs.YtoifhcmgeackdaaGreatDoor
open Go.RowKit
namespace Rf
open Sp
open Num (hid)
open Mem (Bs bs tI tS Chg ptr blk_new blk_cell blk_free blk_set blk_alloc)
open Sh (putH)
abbrev tRs : TypeId := 78
abbrev rsC (lim : Int) (h : Hd) (b : Nat) : Array Value := #[.int .i64 lim, .int .i64 h.mode, .int .i64 h.pages, .int .i64 h.trunk, .int .i64 h.spare, .int .i64 h.root, .int .u64 (h.change : Nat), ptr b, .int .i64 (-1)]
abbrev RBlk (r b : Nat) (lim : Int) (h : Hd) (w : World) : Prop := w.heap[r]? = some (.cells (rsC lim h b) tRs (0, 0))
/-- The blocks of a book: of N, the shelf's box left out. -/
def Bk (N : Nat → Prop) (r : Nat) : Nat → Prop := fun k => N k ∧ k ≠ r
structure RAt (N : Nat → Prop) (r b : Nat) (lim : Int) (h : Hd) (B : Book) (w : World) : Prop where
  blk : RBlk r b lim h w
  book : BookR (Bk N r) w b B
  nr : N r
  len : ∀ x ∈ B, x.2.length = 232
  cnt : B.length ≤ 5000
  up : ∀ k, w.heap.size ≤ k → N k
variable {N : Nat → Prop} {r b : Nat} {lim : Int} {h : Hd} {B : Book} {w w' : World}
theorem RAt.lt (A : RAt N r b lim h B w) : r < w.heap.size ∧ b < w.heap.size := ⟨lt_of_block A.blk, A.book.lt⟩
theorem RAt.apart {F : Nat → Prop} (A : RAt N r b lim h B w) (hc : Chg F w w') (hF : ∀ k, F k → ¬ N k) : RAt N r b lim h B w' :=
  ⟨hc.at A.blk (fun e => hF r e A.nr), A.book.apart hc (fun k hk e => hF k hk e.1), A.nr, A.len, A.cnt, fun k hk => A.up k (Nat.le_trans hc.size hk)⟩
theorem RAt.on (A : RAt N r b lim h B w) (hb : Below w.heap.size w w') : RAt N r b lim h B w' := A.apart (F := fun _ => False) (Chg.of_below hb) (fun _ h => h.elim)
theorem RBlk.cells (k : RBlk r b lim h w) : w.cell? ⟨r, 0, none⟩ = some (.int .i64 lim) ∧ w.cell? ⟨r, 1, none⟩ = some (.int .i64 h.mode) ∧ w.cell? ⟨r, 2, none⟩ = some (.int .i64 h.pages) ∧ w.cell? ⟨r, 3, none⟩ = some (.int .i64 h.trunk) ∧ w.cell? ⟨r, 4, none⟩ = some (.int .i64 h.spare) ∧ w.cell? ⟨r, 5, none⟩ = some (.int .i64 h.root) ∧ w.cell? ⟨r, 6, none⟩ = some (.int .u64 (h.change : Nat)) ∧ w.cell? ⟨r, 7, none⟩ = some (ptr b) ∧ w.cell? ⟨r, 8, none⟩ = some (.int .i64 (-1)) :=
  ⟨blk_cell k 0, blk_cell k 1, blk_cell k 2, blk_cell k 3, blk_cell k 4, blk_cell k 5, blk_cell k 6, blk_cell k 7, blk_cell k 8⟩
theorem RBlk.free (k : RBlk r b lim h w) : w.frozen? ⟨r, 1, none⟩ = false ∧ w.frozen? ⟨r, 2, none⟩ = false ∧ w.frozen? ⟨r, 3, none⟩ = false ∧ w.frozen? ⟨r, 4, none⟩ = false ∧ w.frozen? ⟨r, 5, none⟩ = false ∧ w.frozen? ⟨r, 6, none⟩ = false :=
  ⟨blk_free k 1, blk_free k 2, blk_free k 3, blk_free k 4, blk_free k 5, blk_free k 6⟩
theorem RBlk.put (k : RBlk r b lim h w) (g : Hd) : RBlk r b lim g (putH w r g) :=
  blk_set (blk_set (blk_set (blk_set (blk_set (blk_set k 1 (.int .i64 g.mode)) 2 (.int .i64 g.pages)) 3 (.int .i64 g.trunk)) 4 (.int .i64 g.spare)) 5 (.int .i64 g.root)) 6 (.int .u64 (g.change : Nat))
/-- Its pages. -/
def pf (h : Hd) (B : Book) : Int → Option Bs := fun n => if 1 ≤ n ∧ n < h.pages then some (getB B n) else none
theorem getB_len {B : Book} (hl : ∀ x ∈ B, x.2.length = 232) (n : Int) : (getB B n).length = 232 := by
  rcases place_ways B n with ⟨k, hk, _, _, h2, _⟩ | ⟨_, h2, _⟩
  · rw [h2]
    exact hl _ (List.getElem_mem hk)
  · rw [h2, zeros_len]
set_option maxRecDepth 100000 in
theorem begin_any (k : RBlk r b lim h w) : Calls Tryz.prog 37 #[ptr r] w fun e w' => e = .returned (.int .i64 0) ∧ w = w' := by
  obtain ⟨c0, c1, c2, c3, c4, c5, c6, c7, c8⟩ := RBlk.cells k
  clear k
  go_enter Tryz.func37, Tryz.ntmps37
  go_wp2
  go_ret
  exact ⟨rfl, rfl⟩
set_option maxRecDepth 100000 in
theorem is_any (k : RBlk r b lim h w) (n : Int) : Calls Tryz.prog 41 #[ptr r, .int .i64 n] w fun e w' => e = .returned (.bool (decide (1 ≤ n ∧ n < h.pages))) ∧ w = w' := by
  obtain ⟨c0, c1, c2, c3, c4, c5, c6, c7, c8⟩ := RBlk.cells k
  clear k
  by_cases h1 : 1 ≤ n
  · by_cases h2 : n < h.pages
    · rw [decide_eq_true ⟨h1, h2⟩]
      go_enter Tryz.func41, Tryz.ntmps41
      go_wp2
      go_ret
      exact ⟨rfl, rfl⟩
    · rw [decide_eq_false (fun e => h2 e.2)]
      have h2' : ¬ n < h.pages := h2
      go_enter Tryz.func41, Tryz.ntmps41
      go_wp2
      go_ret
      exact ⟨rfl, rfl⟩
  · rw [decide_eq_false (fun e => h1 e.1)]
    go_enter Tryz.func41, Tryz.ntmps41
    go_wp2
    go_ret
    exact ⟨rfl, rfl⟩
set_option maxRecDepth 100000 in
set_option maxHeartbeats 1000000 in
theorem rget_any (A : RAt N r b lim h B w) (n : Int) : Calls Tryz.prog 45 #[ptr r, .int .i64 n] w fun e w' => (pf h B n = none ∧ e = .returned (.tuple #[.string ⟨#[]⟩, .int .i64 21]) ∨ ∃ x, pf h B n = some x ∧ x.length = 232 ∧ e = .returned (.tuple #[.string (bs x), .int .i64 0])) ∧ Below w.heap.size w w' := by
  obtain ⟨c0, c1, c2, c3, c4, c5, c6, c7, c8⟩ := RBlk.cells A.blk
  have HB := hid (begin_any A.blk)
  have HI := hid (is_any A.blk n)
  have HG := hid (bget_any A.book n (by have := A.cnt; omega))
  have HL := hid (getB_len A.len n)
  clear A
  by_cases hin : 1 ≤ n ∧ n < h.pages
  · rw [decide_eq_true hin] at HI
    have HP : Hid (pf h B n = some (getB B n)) := hid (if_pos hin)
    clear hin
    go_enter Tryz.func45, Tryz.ntmps45
    go_wp2_with fail
    refine HB.out.mono ?_
    rintro e w1 ⟨rfl, rfl⟩
    go_wp2_with fail
    refine HI.out.mono ?_
    rintro e w1 ⟨rfl, rfl⟩
    go_wp2_with fail
    refine HG.out.mono ?_
    rintro e w2 ⟨rfl, hb⟩
    have HB2 := hid hb
    clear hb c0 c1 c2 c3 c4 c5 c6 c7 c8
    go_wp2
    go_ret2
    exact ⟨Or.inr ⟨_, HP.out, HL.out, rfl⟩, HB2.out⟩
  · rw [decide_eq_false hin] at HI
    have HP : Hid (pf h B n = none) := hid (if_neg hin)
    clear hin
    go_enter Tryz.func45, Tryz.ntmps45
    go_wp2_with fail
    refine HB.out.mono ?_
    rintro e w1 ⟨rfl, rfl⟩
    go_wp2_with fail
    refine HI.out.mono ?_
    rintro e w1 ⟨rfl, rfl⟩
    go_wp2
    go_ret2
    exact ⟨Or.inl ⟨HP.out, rfl⟩, Below.refl _ _⟩
/-- Put into the book. -/
theorem RAt.bput (A : RAt N r b lim h B w) (hc : B.length ≤ 4000) (key : Int) (d : Bs) (hd : d.length = 232) :
    Calls Tryz.prog 39 #[ptr b, .int .i64 key, .string (bs d)] w fun e w' => e = .returned (.tuple #[]) ∧ RAt N r b lim h (putB B key d) w' ∧ Chg N w w' := by
  have hr := A.lt.1
  refine (bput_any A.book (fun k hk => ⟨A.up k hk, by omega⟩) key d (by omega)).mono ?_
  rintro e w' ⟨rfl, hb, hch⟩
  refine ⟨rfl, ⟨hch.at A.blk (fun e => e.2 rfl), hb, A.nr, fun x hx => ?_, by have := put_len key d B; omega, fun k hk => A.up k (Nat.le_trans hch.size hk)⟩, hch.mono (fun k _ e => e.1)⟩
  rcases put_mem hx with h1 | h1
  · exact A.len x h1
  · rw [h1]
    exact hd
set_option maxRecDepth 100000 in
set_option maxHeartbeats 1000000 in
theorem rput_any (A : RAt N r b lim h B w) (hc : B.length ≤ 4000) (n : Int) (hn : 1 ≤ n ∧ n < h.pages) (d : Bs) (hd : d.length = 232) : Calls Tryz.prog 16 #[ptr r, .int .i64 n, .string (bs d)] w fun e w' => e = .returned (.int .i64 0) ∧ RAt N r b lim h (putB B n d) w' ∧ Chg N w w' := by
  obtain ⟨c0, c1, c2, c3, c4, c5, c6, c7, c8⟩ := RBlk.cells A.blk
  have HB := hid (begin_any A.blk)
  have HI := hid (is_any A.blk n)
  have HP := hid (A.bput hc n d hd)
  rw [decide_eq_true hn] at HI
  have hz := bs_size d
  have hs : (((bs d).size : Int) != 232) = false := by rw [hz, hd]; rfl
  clear A hn hz hd hc
  go_enter Tryz.func16, Tryz.ntmps16
  go_wp2_with fail
  refine HB.out.mono ?_
  rintro e w1 ⟨rfl, rfl⟩
  go_wp2_with fail
  refine HI.out.mono ?_
  rintro e w1 ⟨rfl, rfl⟩
  go_wp2_with fail
  refine HP.out.mono ?_
  rintro e w2 ⟨rfl, hA, hC⟩
  have HF := hid (And.intro hA hC)
  clear hA hC c0 c1 c2 c3 c4 c5 c6 c7 c8
  go_wp2
  go_ret
  exact ⟨rfl, HF.out.1, HF.out.2⟩
/-- Nothing stands in a book. -/
theorem book_new (w : World) {Q : Nat → Prop} (hQ : Q w.heap.size) : BookR Q (w.alloc (.cells #[.slice none 0 0, .slice none 0 0] tBk)) w.heap.size [] := by
  exact ⟨.slice none 0 0, .slice none 0 0, blk_new w _, hQ, ⟨World.ownsRow_nil _ 0 tI 1, fun g hg => by simp [Value.ownBlock] at hg⟩, ⟨World.ownsRow_nil _ 0 tS 1, fun g hg => by simp [Value.ownBlock] at hg⟩⟩
end Rf
end Go.Proofs.YtoifhcmgeackdaaGreatDoor

/-
  The reference's shelf: New(limit), and a page more.
-/
namespace Go.Proofs.YtoifhcmgeackdaaGreatDoor
open Go.RowKit
namespace Rf
open Sp
open Num (hid)
open Mem (Bs bs tI tS Chg ptr blk_new blk_cell blk_free blk_set blk_alloc)
open Sh (putH)
variable {N : Nat → Prop} {r b : Nat} {lim : Int} {h : Hd} {B : Book} {w w' : World}
theorem h1_is : (⟨1, 1, 0, 0, 0, 0⟩ : Hd) = Sh.h1 := rfl
theorem rfresh_head (w : World) : Calls Tryz.prog 33 #[] w fun e w' => e = .returned (hV Sh.h1) ∧ Below w.heap.size w w' := by
  go_enter Tryz.func33, Tryz.ntmps33
  go_wp2
  first
    | exact bodyPost_ret (v := hV Sh.h1) (by simp [results, hV, Sh.h1, go_sem]) rfl ⟨rfl, (Below.refl _ _).alloc (Nat.le_refl _) _⟩
    | exact bodyPost_ret (v := hV Sh.h1) (by simp [results, hV, Sh.h1, go_sem]) rfl ⟨rfl, Below.refl _ _⟩
set_option maxRecDepth 100000 in
set_option maxHeartbeats 1000000 in
theorem rnewS_any (lim : Int) (h1' : 1 ≤ lim) (h2' : lim ≤ 4096) (w : World) :
    Calls Tryz.prog 11 #[.int .i64 lim] w fun e w' => ∃ r b, e = .returned (ptr r) ∧ RAt (fun k => w.heap.size ≤ k) r b lim Sh.h1 [] w' ∧ Below w.heap.size w w' := by
  have hm1 : ¬ lim < 1 := by omega
  have hm2 : ¬ (4096 : Int) < lim := by omega
  have HF := hid (fun w => rfresh_head w)
  unfold hV Sh.h1 at HF
  simp only at HF
  clear h1' h2'
  go_enter Tryz.func11, Tryz.ntmps11
  go_wp2_with fail
  refine (HF.out _).mono ?_
  rintro e w1 ⟨rfl, hb⟩
  have hs := hb.size
  have e1 : (w1.alloc (.cells #[.slice none 0 0, .slice none 0 0] tBk)).heap.size = w1.heap.size + 1 := by simp
  have hb2 : Below w1.heap.size w1 (w1.alloc (.cells #[.slice none 0 0, .slice none 0 0] tBk)) := (Below.refl _ _).alloc (Nat.le_refl _) _
  have hb3 : Below (w1.alloc (.cells #[.slice none 0 0, .slice none 0 0] tBk)).heap.size (w1.alloc (.cells #[.slice none 0 0, .slice none 0 0] tBk)) ((w1.alloc (.cells #[.slice none 0 0, .slice none 0 0] tBk)).alloc (.cells (rsC lim Sh.h1 w1.heap.size) tRs)) := (Below.refl _ _).alloc (Nat.le_refl _) _
  have hbk : BookR (Bk (fun k => w.heap.size ≤ k) (w1.heap.size + 1)) (w1.alloc (.cells #[.slice none 0 0, .slice none 0 0] tBk)) w1.heap.size [] := book_new w1 ⟨hs, by omega⟩
  have hrb := blk_new (w1.alloc (.cells #[.slice none 0 0, .slice none 0 0] tBk)) (.cells (rsC lim Sh.h1 w1.heap.size) tRs)
  rw [e1] at hrb
  have KF : Hid (RAt (fun k => w.heap.size ≤ k) (w1.heap.size + 1) w1.heap.size lim Sh.h1 [] ((w1.alloc (.cells #[.slice none 0 0, .slice none 0 0] tBk)).alloc (.cells (rsC lim Sh.h1 w1.heap.size) tRs))) := hid ⟨hrb, hbk.on hb3, by show w.heap.size ≤ _; omega, fun x hx => by simp at hx, Nat.zero_le _, fun k hk => by
    have h9 := hb3.size
    rw [e1] at h9
    show w.heap.size ≤ k
    omega⟩
  have KB := hid (hb.trans ((hb2.trans (hb3.mono (by rw [e1]; omega))).mono hs))
  clear hb hs e1 hb2 hb3 hbk hrb
  go_wp2
  go_ret
  exact ⟨_, _, rfl, KF.out, KB.out⟩
/-! ### a page more -/
theorem RBlk.beside (k : RBlk r b lim h w) (o : Obj) : RBlk r b lim h (w.alloc o) := blk_alloc k o
/-- What the region of Take leaves, whichever way. -/
structure FinR (N : Nat → Prop) (r b : Nat) (lim : Int) (h : Hd) (B : Book) (h' : Hd) (g : Nat) (w2 w4 : World) : Prop where
  at' : RAt N r b lim h B w4
  hb : Hb g h' w4
  be : Below w2.heap.size w2 w4
  lt : w2.heap.size ≤ g
theorem finr_A {w2 w3 : World} (A : RAt N r b lim h B w2) (hb3 : Below w2.heap.size w2 w3) (h' : Hd) : FinR N r b lim h B h' w3.heap.size w2 (w3.alloc (hObj h')) := by
  have hb : Below w3.heap.size w3 (w3.alloc (hObj h')) := (Below.refl _ _).alloc (Nat.le_refl _) _
  exact ⟨(A.on hb3).on hb, Hb.new h' w3, hb3.trans (hb.mono hb3.size), hb3.size⟩
theorem finr_B {w2 w3 : World} (A : RAt N r b lim h B w2) (hb3 : Below (w2.alloc zObj).heap.size (w2.alloc zObj) w3) (h' : Hd) : FinR N r b lim h B h' w2.heap.size w2 (put6 w3 w2.heap.size h') ∧ Hb w2.heap.size hd0 w3 := by
  have hba : Below w2.heap.size w2 (w2.alloc zObj) := (Below.refl _ _).alloc (Nat.le_refl _) _
  have e1 : (w2.alloc zObj).heap.size = w2.heap.size + 1 := by simp
  have z : Hb w2.heap.size hd0 w3 := (hb3.block _ (by rw [e1]; omega)).trans (blk_new w2 zObj)
  have hbb := hba.trans (hb3.mono (by rw [e1]; omega))
  have A3 := A.on hbb
  have hc : Chg (· = w2.heap.size) w3 (put6 w3 w2.heap.size h') := ((((((Chg.refl _ w3).root _ _).root _ _).root _ _).root _ _).root _ _).root _ _
  have hl := A.lt
  refine ⟨⟨⟨hc.at A3.blk (by omega), ?_, A.nr, A.len, A.cnt, fun k hk => A.up k (Nat.le_trans hbb.size (Nat.le_trans hc.size hk))⟩, z.put h', hbb.trans (hc.below hbb.size (fun k hk e => by omega)), Nat.le_refl _⟩, z⟩
  have h2 := (A.book.mono (R' := fun k => Bk N r k ∧ k < w2.heap.size) (fun k hk e => ⟨e, hk⟩))
  exact ((h2.on hbb).apart hc (fun k hk e => by have := e.2; omega)).mono (fun k _ e => e.1)
theorem RAt.putA (A : RAt N r b lim h B w) (x : Hd) : RAt N r b lim x B (putH w r x) ∧ Chg (· = r) w (putH w r x) := by
  have hc : Chg (· = r) w (putH w r x) := ((((((Chg.refl _ w).root 1 _).root 2 _).root 3 _).root 4 _).root 5 _).root 6 _
  exact ⟨⟨A.blk.put x, A.book.apart hc (fun k hk e => e.2 hk), A.nr, A.len, A.cnt, fun k hk => A.up k (Nat.le_trans hc.size hk)⟩, hc⟩
theorem RBlk.seven (k : RBlk r b lim h w) : w.cell? ⟨r, 1, none⟩ = some (.int .i64 h.mode) ∧ w.cell? ⟨r, 2, none⟩ = some (.int .i64 h.pages) ∧ w.cell? ⟨r, 3, none⟩ = some (.int .i64 h.trunk) ∧ w.cell? ⟨r, 4, none⟩ = some (.int .i64 h.spare) ∧ w.cell? ⟨r, 5, none⟩ = some (.int .i64 h.root) ∧ w.cell? ⟨r, 6, none⟩ = some (.int .u64 (h.change : Nat)) ∧ w.cell? ⟨r, 7, none⟩ = some (ptr b) :=
  ⟨k.cells.2.1, k.cells.2.2.1, k.cells.2.2.2.1, k.cells.2.2.2.2.1, k.cells.2.2.2.2.2.1, k.cells.2.2.2.2.2.2.1, k.cells.2.2.2.2.2.2.2.1⟩
theorem full0 (w : World) : Calls Tryz.prog 15 #[.string ⟨#[]⟩] w fun e w' => e = .returned (.string (bs (zeros 232))) ∧ Below w.heap.size w w' := Sp.full_none w
abbrev more1 (h : Hd) : Hd := { h with pages := h.pages + 1 }
set_option maxRecDepth 100000 in
set_option maxHeartbeats 4000000 in
theorem rnew_any (A : RAt N r b lim h B w) (hc : B.length ≤ 4000) (h0 : h.spare = 0) (hp0 : 0 ≤ h.pages) (hp : h.pages < lim) (hl : lim ≤ 4096) :
    Calls Tryz.prog 13 #[ptr r] w fun e w' => e = .returned (.tuple #[.int .i64 h.pages, .int .i64 0]) ∧ RAt N r b lim (more1 h) (putB B h.pages (zeros 232)) w' ∧ Chg N w w' := by
  have HB := hid (begin_any A.blk)
  have HA := hid A
  have hA2 := A.blk
  have HT := hid (fun (wz : World) (D : BookR (Bk N r) wz b B) => rtake0 D h h0 (by omega) hp0)
  unfold takeV hV at HT
  simp only at HT
  have h0' : (h.spare == 0) = true := by simpa using h0
  have h2 : ¬ lim ≤ h.pages := by omega
  have h2' : decide (lim ≤ h.pages) = false := decide_eq_false h2
  have HCN := hid hc
  obtain ⟨c0, c1, c2, c3, c4, c5, c6, c7, c8⟩ := RBlk.cells A.blk
  have hlt := A.lt.1
  clear A h0 hp0 hp hl hc h2
  go_enter Tryz.func13, Tryz.ntmps13
  go_wp2_with fail
  refine HB.out.mono ?_
  rintro e w1 ⟨rfl, rfl⟩
  go_wp2_with fail
  go_quiet (fail)
  rename_i nq
  have HBL := hid (below_drewN (Below.refl w.heap.size w) nq)
  have A2 := hid (HA.out.on HBL.out)
  clear c0 c1 c2 c3 c4 c5 c6 c7 c8 hA2 hlt
  generalize w.drewN nq = w2 at *
  obtain ⟨c1, c2, c3, c4, c5, c6, c7⟩ := A2.out.blk.seven
  go_upto_region 6 with fail
  have HTA := hid (HT.out w2.drew (A2.out.on (Below.refl _ _).drew).book)
  have HTB := hid (HT.out (w2.alloc zObj).drew (A2.out.on ((Below.refl _ _).alloc (Nat.le_refl _) zObj).drew).book)
  have KA := hid (A2.out.on (Below.refl _ _).drew).blk.seven
  have KB := hid (A2.out.on ((Below.refl _ _).alloc (Nat.le_refl _) zObj).drew).blk.seven
  go_region_held3 (fun W => W.cell? ⟨r, 1, none⟩ = some (.int .i64 h.mode) ∧ W.cell? ⟨r, 2, none⟩ = some (.int .i64 h.pages) ∧ W.cell? ⟨r, 3, none⟩ = some (.int .i64 h.trunk) ∧ W.cell? ⟨r, 4, none⟩ = some (.int .i64 h.spare) ∧ W.cell? ⟨r, 5, none⟩ = some (.int .i64 h.root) ∧ W.cell? ⟨r, 6, none⟩ = some (.int .u64 (h.change : Nat)) ∧ W.cell? ⟨r, 7, none⟩ = some (ptr b))
    (first | with_reducible exact KA.out | with_reducible exact KB.out | with_reducible exact K3.out | with_reducible exact K4.out | with_reducible exact K5.out)
    (first
      | go_at_call 38; (with_reducible refine HTA.out.mono ?_); rintro e w3 ⟨rfl, -, hb3⟩; have HB3 := hid ((Below.refl w2.heap.size w2).drew.trans hb3); have K3 := hid (A2.out.on HB3.out).blk.seven; have K4 := hid ((A2.out.on HB3.out).blk.beside zObj).seven; have K5 := hid ((A2.out.on HB3.out).blk.beside (.cells #[.int .i64 h.mode, .int .i64 (h.pages + 1), .int .i64 h.trunk, .int .i64 h.spare, .int .i64 h.root, .int .u64 (h.change : Nat)] tH)).seven; clear hb3
      | go_at_call 38; (with_reducible refine HTB.out.mono ?_); rintro e w3 ⟨rfl, -, hb3⟩; have F3 := hid (finr_B (w3 := w3) A2.out ((Below.refl (w2.alloc zObj).heap.size (w2.alloc zObj)).drew.trans hb3) (more1 h)); have K3 := hid (A2.out.on (((Below.refl w2.heap.size w2).alloc (Nat.le_refl _) zObj).trans (((Below.refl (w2.alloc zObj).heap.size (w2.alloc zObj)).drew.trans hb3).mono (by simp)))).blk.seven; have K5 := hid F3.out.1.at'.blk.seven; obtain ⟨x0, x1, x2, x3, x4, x5⟩ := F3.out.2.cells; obtain ⟨z0, z1, z2, z3, z4, z5⟩ := F3.out.2.free; have hxl := F3.out.2.lt; clear hb3)
  · have E4 : Hid (FinR N r b lim h B (more1 h) w3.heap.size w2 (w3.alloc (.cells #[.int .i64 h.mode, .int .i64 (h.pages + 1), .int .i64 h.trunk, .int .i64 h.spare, .int .i64 h.root, .int .u64 (h.change : Nat)] tH))) := hid (finr_A A2.out HB3.out (more1 h))
    generalize hg : w3.heap.size = g at *
    generalize w3.alloc (.cells #[.int .i64 h.mode, .int .i64 (h.pages + 1), .int .i64 h.trunk, .int .i64 h.spare, .int .i64 h.root, .int .u64 (h.change : Nat)] tH) = w4 at *
    obtain ⟨q0, q1, q2, q3, q4, q5, q6, q7, q8⟩ := RBlk.cells E4.out.at'.blk
    obtain ⟨f1, f2, f3, f4, f5, f6⟩ := RBlk.free E4.out.at'.blk
    have hc4 : Sp.Hb g (more1 h) w4 := E4.out.hb
    obtain ⟨x0, x1, x2, x3, x4, x5⟩ : w4.cell? ⟨g, 0, none⟩ = some (.int .i64 h.mode) ∧ w4.cell? ⟨g, 1, none⟩ = some (.int .i64 (h.pages + 1)) ∧ w4.cell? ⟨g, 2, none⟩ = some (.int .i64 h.trunk) ∧ w4.cell? ⟨g, 3, none⟩ = some (.int .i64 h.spare) ∧ w4.cell? ⟨g, 4, none⟩ = some (.int .i64 h.root) ∧ w4.cell? ⟨g, 5, none⟩ = some (.int .u64 (h.change : Nat)) := hc4.cells
    have l1 := E4.out.at'.lt.1
    have l2 := E4.out.hb.lt
    have A5 : Hid (RAt N r b lim (more1 h) B ((((((w4.setCell ⟨r, 1, none⟩ (.int .i64 h.mode)).setCell ⟨r, 2, none⟩ (.int .i64 (h.pages + 1))).setCell ⟨r, 3, none⟩ (.int .i64 h.trunk)).setCell ⟨r, 4, none⟩ (.int .i64 h.spare)).setCell ⟨r, 5, none⟩ (.int .i64 h.root)).setCell ⟨r, 6, none⟩ (.int .u64 (h.change : Nat))) ∧ Chg (· = r) w4 ((((((w4.setCell ⟨r, 1, none⟩ (.int .i64 h.mode)).setCell ⟨r, 2, none⟩ (.int .i64 (h.pages + 1))).setCell ⟨r, 3, none⟩ (.int .i64 h.trunk)).setCell ⟨r, 4, none⟩ (.int .i64 h.spare)).setCell ⟨r, 5, none⟩ (.int .i64 h.root)).setCell ⟨r, 6, none⟩ (.int .u64 (h.change : Nat)))) := hid (E4.out.at'.putA (more1 h))
    clear hc4
    go_upto_region 10 with fail
    clear q0 q1 q2 q3 q4 q5 q6 q7 q8 f1 f2 f3 f4 f5 f6 x0 x1 x2 x3 x4 x5 l1 l2
    generalize (((((w4.setCell ⟨r, 1, none⟩ (.int .i64 h.mode)).setCell ⟨r, 2, none⟩ (.int .i64 (h.pages + 1))).setCell ⟨r, 3, none⟩ (.int .i64 h.trunk)).setCell ⟨r, 4, none⟩ (.int .i64 h.spare)).setCell ⟨r, 5, none⟩ (.int .i64 h.root)).setCell ⟨r, 6, none⟩ (.int .u64 (h.change : Nat)) = w5 at *
    have y7 : Hid (∀ wx, Below w5.heap.size w5 wx → wx.cell? ⟨r, 7, none⟩ = some (ptr b)) := hid (fun wx hx => (RBlk.seven (A5.out.1.on hx).blk).2.2.2.2.2.2)
    refine Tail.wp_region_quiet_tail 6 (fun wx => Below w5.heap.size w5 wx) (by kernel_rfl) (by kernel_rfl) (Below.refl _ w5).drew ?_
    simp only [List.take_succ_cons, List.take_zero, List.drop_succ_cons, List.drop_zero]
    go_big_quiet_want
    go_big_quiet_op
    go_big_quiet_on
    go_big_quiet_want
    go_big_quiet_op
    refine ⟨ptr r, fun wx hx => ?_, ?_⟩
    · first | rfl | simp [go_sem]
    go_big_quiet_on
    go_big_quiet_want
    go_big_quiet_op
    refine ⟨.pointer (some ⟨r, 7, none⟩), fun wx hx => ?_, ?_⟩
    · first | rfl | simp [go_sem]
    go_big_quiet_on
    go_big_quiet_want
    go_big_quiet_op
    refine ⟨ptr b, fun wx hx => ?_, ?_⟩
    · have c := y7.out wx hx
      simp [go_sem, c]
    go_big_quiet_on
    go_big_quiet_want
    go_big_quiet_op
    go_big_quiet_on
    go_big_quiet_want
    go_big_quiet_op
    refine ⟨.string (bs (zeros 232)), fun wx hx => ?_, ?_⟩
    · refine (full0 wx).mono ?_
      rintro e w9 ⟨rfl, hb9⟩
      exact ⟨rfl, hx.trans (hb9.mono hx.size)⟩
    go_big_quiet_on
    refine wpQuiet_nil ?_
    intro wq hq
    have hcw : Chg N w wq := by
      have h1 : Chg N w w4 := Chg.of_below (HBL.out.trans (E4.out.be.mono HBL.out.size))
      have h2 : Chg N w4 w5 := A5.out.2.mono (fun k _ e => by have e2 : k = r := e; rw [e2]; exact A5.out.1.nr)
      exact (h1.trans h2).trans (Chg.of_below hq)
    have HCW := hid hcw
    have HPT := hid ((A5.out.1.on hq).bput HCN.out h.pages (zeros 232) (zeros_len 232))
    clear hq hcw
    go_wp2_with fail
    refine HPT.out.mono ?_
    rintro e w6 ⟨rfl, hA6, hC6⟩
    have HF := hid (And.intro hA6 (HCW.out.trans hC6))
    clear hA6 hC6
    go_wp2
    go_ret2
    exact ⟨rfl, HF.out.1, HF.out.2⟩
  · have E4 : Hid (FinR N r b lim h B (more1 h) w2.heap.size w2 ((((((w3.setCell ⟨w2.heap.size, 0, none⟩ (.int .i64 h.mode)).setCell ⟨w2.heap.size, 1, none⟩ (.int .i64 (h.pages + 1))).setCell ⟨w2.heap.size, 2, none⟩ (.int .i64 h.trunk)).setCell ⟨w2.heap.size, 3, none⟩ (.int .i64 h.spare)).setCell ⟨w2.heap.size, 4, none⟩ (.int .i64 h.root)).setCell ⟨w2.heap.size, 5, none⟩ (.int .u64 (h.change : Nat)))) := hid F3.out.1
    generalize hg : w2.heap.size = g at *
    clear x0 x1 x2 x3 x4 x5 z0 z1 z2 z3 z4 z5 hxl
    generalize (((((w3.setCell ⟨g, 0, none⟩ (.int .i64 h.mode)).setCell ⟨g, 1, none⟩ (.int .i64 (h.pages + 1))).setCell ⟨g, 2, none⟩ (.int .i64 h.trunk)).setCell ⟨g, 3, none⟩ (.int .i64 h.spare)).setCell ⟨g, 4, none⟩ (.int .i64 h.root)).setCell ⟨g, 5, none⟩ (.int .u64 (h.change : Nat)) = w4 at *
    obtain ⟨q0, q1, q2, q3, q4, q5, q6, q7, q8⟩ := RBlk.cells E4.out.at'.blk
    obtain ⟨f1, f2, f3, f4, f5, f6⟩ := RBlk.free E4.out.at'.blk
    have hc4 : Sp.Hb g (more1 h) w4 := E4.out.hb
    obtain ⟨x0, x1, x2, x3, x4, x5⟩ : w4.cell? ⟨g, 0, none⟩ = some (.int .i64 h.mode) ∧ w4.cell? ⟨g, 1, none⟩ = some (.int .i64 (h.pages + 1)) ∧ w4.cell? ⟨g, 2, none⟩ = some (.int .i64 h.trunk) ∧ w4.cell? ⟨g, 3, none⟩ = some (.int .i64 h.spare) ∧ w4.cell? ⟨g, 4, none⟩ = some (.int .i64 h.root) ∧ w4.cell? ⟨g, 5, none⟩ = some (.int .u64 (h.change : Nat)) := hc4.cells
    have l1 := E4.out.at'.lt.1
    have l2 := E4.out.hb.lt
    have A5 : Hid (RAt N r b lim (more1 h) B ((((((w4.setCell ⟨r, 1, none⟩ (.int .i64 h.mode)).setCell ⟨r, 2, none⟩ (.int .i64 (h.pages + 1))).setCell ⟨r, 3, none⟩ (.int .i64 h.trunk)).setCell ⟨r, 4, none⟩ (.int .i64 h.spare)).setCell ⟨r, 5, none⟩ (.int .i64 h.root)).setCell ⟨r, 6, none⟩ (.int .u64 (h.change : Nat))) ∧ Chg (· = r) w4 ((((((w4.setCell ⟨r, 1, none⟩ (.int .i64 h.mode)).setCell ⟨r, 2, none⟩ (.int .i64 (h.pages + 1))).setCell ⟨r, 3, none⟩ (.int .i64 h.trunk)).setCell ⟨r, 4, none⟩ (.int .i64 h.spare)).setCell ⟨r, 5, none⟩ (.int .i64 h.root)).setCell ⟨r, 6, none⟩ (.int .u64 (h.change : Nat)))) := hid (E4.out.at'.putA (more1 h))
    clear hc4
    go_upto_region 10 with fail
    clear q0 q1 q2 q3 q4 q5 q6 q7 q8 f1 f2 f3 f4 f5 f6 x0 x1 x2 x3 x4 x5 l1 l2
    generalize (((((w4.setCell ⟨r, 1, none⟩ (.int .i64 h.mode)).setCell ⟨r, 2, none⟩ (.int .i64 (h.pages + 1))).setCell ⟨r, 3, none⟩ (.int .i64 h.trunk)).setCell ⟨r, 4, none⟩ (.int .i64 h.spare)).setCell ⟨r, 5, none⟩ (.int .i64 h.root)).setCell ⟨r, 6, none⟩ (.int .u64 (h.change : Nat)) = w5 at *
    have y7 : Hid (∀ wx, Below w5.heap.size w5 wx → wx.cell? ⟨r, 7, none⟩ = some (ptr b)) := hid (fun wx hx => (RBlk.seven (A5.out.1.on hx).blk).2.2.2.2.2.2)
    refine Tail.wp_region_quiet_tail 6 (fun wx => Below w5.heap.size w5 wx) (by kernel_rfl) (by kernel_rfl) (Below.refl _ w5).drew ?_
    simp only [List.take_succ_cons, List.take_zero, List.drop_succ_cons, List.drop_zero]
    go_big_quiet_want
    go_big_quiet_op
    go_big_quiet_on
    go_big_quiet_want
    go_big_quiet_op
    refine ⟨ptr r, fun wx hx => ?_, ?_⟩
    · first | rfl | simp [go_sem]
    go_big_quiet_on
    go_big_quiet_want
    go_big_quiet_op
    refine ⟨.pointer (some ⟨r, 7, none⟩), fun wx hx => ?_, ?_⟩
    · first | rfl | simp [go_sem]
    go_big_quiet_on
    go_big_quiet_want
    go_big_quiet_op
    refine ⟨ptr b, fun wx hx => ?_, ?_⟩
    · have c := y7.out wx hx
      simp [go_sem, c]
    go_big_quiet_on
    go_big_quiet_want
    go_big_quiet_op
    go_big_quiet_on
    go_big_quiet_want
    go_big_quiet_op
    refine ⟨.string (bs (zeros 232)), fun wx hx => ?_, ?_⟩
    · refine (full0 wx).mono ?_
      rintro e w9 ⟨rfl, hb9⟩
      exact ⟨rfl, hx.trans (hb9.mono hx.size)⟩
    go_big_quiet_on
    refine wpQuiet_nil ?_
    intro wq hq
    have hcw : Chg N w wq := by
      have h1 : Chg N w w4 := Chg.of_below (HBL.out.trans (E4.out.be.mono HBL.out.size))
      have h2 : Chg N w4 w5 := A5.out.2.mono (fun k _ e => by have e2 : k = r := e; rw [e2]; exact A5.out.1.nr)
      exact (h1.trans h2).trans (Chg.of_below hq)
    have HCW := hid hcw
    have HPT := hid ((A5.out.1.on hq).bput HCN.out h.pages (zeros 232) (zeros_len 232))
    clear hq hcw
    go_wp2_with fail
    refine HPT.out.mono ?_
    rintro e w6 ⟨rfl, hA6, hC6⟩
    have HF := hid (And.intro hA6 (HCW.out.trans hC6))
    clear hA6 hC6
    go_wp2
    go_ret2
    exact ⟨rfl, HF.out.1, HF.out.2⟩
end Rf
end Go.Proofs.YtoifhcmgeackdaaGreatDoor

/-
  Contracts of the reference's Good, Parts and Value: over any pages, as the project's.
-/
namespace Go.Proofs.YtoifhcmgeackdaaGreatDoor
open Go.RowKit
namespace Rf
open Sp (Hd hV Book getB zeros zeros_len)
open Num (hid)
open Part (numAt)
open Mem (Bs bs tI tIs tS Chg ptr blk_new blk_cell blk_free wpList_append_run)
open Ch (cV cO tC Pf rdM valM partM good ints)
open No (okC)
set_option maxRecDepth 100000 in
set_option maxHeartbeats 2000000 in
theorem rgood_any (c : No.C) (w : World) : Calls Tryz.prog 90 #[cV c] w fun e w' => e = .returned (.bool (okC c)) ∧ Below w.heap.size w w' := by
  obtain ⟨z, d, p⟩ := c
  have hz := Sp.bs_size d
  have B1 := hid ((Below.refl w.heap.size w).alloc (Nat.le_refl _) (cO ⟨z, d, p⟩))
  have hX := Ch.nil_iff d
  unfold okC No.okP
  simp only
  by_cases h0 : z < 0
  · rw [decide_eq_false (by omega : ¬ 0 ≤ z)]
    clear hz hX
    go_enter Tryz.func90, Tryz.ntmps90
    go_wp2
    go_ret
    exact ⟨rfl, B1.out⟩
  · rw [decide_eq_true (by omega : 0 ≤ z)]
    by_cases h5 : 5000 < z
    · rw [decide_eq_false (by omega : ¬ z ≤ 5000)]
      clear hz hX
      go_enter Tryz.func90, Tryz.ntmps90
      go_wp2
      go_ret
      exact ⟨rfl, B1.out⟩
    · rw [decide_eq_true (by omega : z ≤ 5000)]
      by_cases h4 : z ≤ 40
      · rw [if_pos h4]
        by_cases hd : (d.length : Int) = z
        · rw [decide_eq_true hd]
          have hd' : (((bs d).size : Int) == z) = true := by rw [hz]; simpa using hd
          by_cases hp : p = 0
          · rw [decide_eq_true hp]
            have hp' : (p == 0) = true := by simpa using hp
            clear hz hX hd hp
            go_enter Tryz.func90, Tryz.ntmps90
            go_wp2
            go_ret
            exact ⟨rfl, B1.out⟩
          · rw [decide_eq_false hp]
            have hp' : (p == 0) = false := by simpa using hp
            clear hz hX hd hp
            go_enter Tryz.func90, Tryz.ntmps90
            go_wp2
            go_ret
            exact ⟨rfl, B1.out⟩
        · rw [decide_eq_false hd]
          have hd' : (((bs d).size : Int) == z) = false := by rw [hz]; simpa using hd
          clear hz hX hd
          go_enter Tryz.func90, Tryz.ntmps90
          go_wp2
          go_ret
          exact ⟨rfl, B1.out⟩
      · rw [if_neg h4]
        cases hq : decide (d = []) with
        | true =>
          rw [hq] at hX
          by_cases h1 : 1 ≤ p
          · rw [decide_eq_true h1]
            by_cases h6 : p < 4096
            · rw [decide_eq_true h6]
              have h7 : p ≤ 4095 := by omega
              clear hz hq h6
              go_enter Tryz.func90, Tryz.ntmps90
              go_wp2
              go_ret
              exact ⟨rfl, B1.out⟩
            · rw [decide_eq_false h6]
              have h7 : ¬ p ≤ 4095 := by omega
              clear hz hq h6
              go_enter Tryz.func90, Tryz.ntmps90
              go_wp2
              go_ret
              exact ⟨rfl, B1.out⟩
          · rw [decide_eq_false h1]
            clear hz hq
            go_enter Tryz.func90, Tryz.ntmps90
            go_wp2
            go_ret
            exact ⟨rfl, B1.out⟩
        | false =>
          rw [hq] at hX
          clear hz hq
          go_enter Tryz.func90, Tryz.ntmps90
          go_wp2
          go_ret
          exact ⟨rfl, B1.out⟩
/-- A row of pages that the call made. -/
structure Pg (base : Nat) (w : World) (v : Value) (pg : List Int) : Prop where
  row : w.ownsRow 0 tI 1 v pg.length (ints pg)
  new : ∀ g, v.ownBlock = some g → base ≤ g
theorem Pg.on {base : Nat} {w w' : World} {v : Value} {pg : List Int} (p : Pg base w v pg) (hb : Below w.heap.size w w') : Pg base w' v pg := ⟨Mem.row_kept p.row (Chg.of_below (F := fun _ => False) hb) (fun _ _ h => h), p.new⟩
theorem Pg.push {base : Nat} {w0 w : World} {v : Value} {pg : List Int} (p : Pg base w v pg) (hb : Below base w0 w) (hs : base ≤ w.heap.size) (y : Int) (hn : pg.length ≤ 1000) :
    ∃ v' w', (Builtin.append_ #[tIs, tIs] tIs #[v, .slice (some ⟨w.heap.size, 0, none⟩) 1 1]).run Tryz.prog (w.alloc (.cells #[.int .i64 y] tI)) = .ok v' w' ∧ Pg base w' v' (pg ++ [y]) ∧ Below base w0 w' := by
  obtain ⟨v', w', hr, ho, hc, hk⟩ := Mem.push_int p.row y (by omega)
  refine ⟨v', w', hr, ⟨?_, fun g hg => ?_⟩, hb.trans (hc.below hs (fun k hk e => by have := p.new k e; omega))⟩
  · show w'.ownsRow 0 tI 1 v' (pg ++ [y]).length ((pg ++ [y]).map _)
    rw [List.length_append, List.map_append]
    exact ho
  · rcases hk g hg with h | h
    · exact p.new g h
    · omega
theorem Pg.start (w : World) {base : Nat} (hb : base ≤ w.heap.size) : Pg base (w.alloc (.cells #[] tI)) (.slice (some ⟨w.heap.size, 0, none⟩) 0 0) [] :=
  ⟨⟨rfl, .inr ⟨w.heap.size, 0, #[], rfl, Nat.zero_le _, blk_new _ _, Nat.le_refl _, Nat.zero_le _, rfl, rfl⟩⟩, fun g hg => by
    have : w.heap.size = g := by simpa [Value.ownBlock] using hg
    omega⟩
theorem Pg.nil (w : World) (base : Nat) : Pg base w (.slice none 0 0) [] := ⟨World.ownsRow_nil w 0 tI 1, fun g hg => by simp [Value.ownBlock] at hg⟩
def RValPost (h : Hd) (B : Book) (w : World) (c : No.C) (e : Ending) (w' : World) : Prop :=
  ∃ (val : Bs) (pg : List Int) (er : Int) (v : Value), e = .returned (.tuple #[.string (bs val), v, .int .i64 er]) ∧ Below w.heap.size w w' ∧ Pg w.heap.size w' v pg ∧ ((val, pg), er) = valM (pf h B) c
theorem prefix_iff {x : Bs} (hl : x.length = 232) : ([3] : Bs).isPrefixOf x = decide (((x[0]'(by omega)).toNat : Int) = 3) := by
  match x, hl with
  | a :: t, _ =>
    rw [Bool.eq_iff_iff, decide_eq_true_eq]
    simp only [List.isPrefixOf, List.getElem_cons_zero, Bool.and_true, beq_iff_eq]
    constructor
    · rintro rfl
      rfl
    · intro h
      have h2 : a.toNat = 3 := by omega
      exact (UInt8.toNat_inj.1 (by rw [h2]; rfl)).symm
theorem bs_get (x : Bs) (i : Nat) (h : i < x.length) (h2 : i < (bs x).size) : (bs x)[i]'h2 = x[i]'h := by
  have h3 : (bs x)[i]'h2 = x.toArray[i]'(by simpa using h) := rfl
  rw [h3]
  exact List.getElem_toArray _
theorem no_way {l : Int} (h : (!decide (l ≤ 227)) = false) (a : 227 < l) : False := by
  simp at h
  omega
theorem blank_no {x : Bs} {k i : Nat} (h : k ≤ i) (hi : i < x.length) (hx : x[i] ≠ 0) : No.blank (x.drop k) = false := by
  unfold No.blank
  rw [List.all_eq_false]
  refine ⟨x[i], ?_, by simpa using hx⟩
  rw [List.mem_iff_getElem]
  exact ⟨i - k, by rw [List.length_drop]; omega, by rw [List.getElem_drop]; congr 1; omega⟩
theorem blank_yes {x : Bs} {k : Nat} (h : ∀ i (hi : i < x.length), k ≤ i → x[i] = 0) : No.blank (x.drop k) = true := by
  unfold No.blank
  rw [List.all_eq_true]
  intro y hy
  obtain ⟨i, hi, rfl⟩ := List.getElem_of_mem hy
  rw [List.getElem_drop, h (k + i) (by rw [List.length_drop] at hi; omega) (by omega)]
  rfl
variable {N : Nat → Prop} {r b : Nat} {lim : Int} {h : Hd} {B : Book} {w : World}
set_option maxRecDepth 100000 in
set_option maxHeartbeats 8000000 in
theorem rvalue_any (A : RAt N r b lim h B w) (c : No.C) : Calls Tryz.prog 48 #[ptr r, cV c] w (RValPost h B w c) := by
  have hA1 : Below w.heap.size w (w.alloc (cO c)) := (Below.refl w.heap.size w).alloc (Nat.le_refl _) _
  have HA1 := hid hA1
  have hbx := blk_new w (cO c)
  have HG := hid (fun w => rgood_any c w)
  have c0 := blk_cell hbx 0
  have c1 := blk_cell hbx 1
  have c2 := blk_cell hbx 2
  have HBX := hid hbx
  have HAT := hid A
  clear hA1 hbx A
  cases hok : okC c with
  | false =>
    rw [hok] at HG
    have HV : Hid (valM (pf h B) c = (([], []), 1)) := hid (if_neg (by rw [hok]; decide))
    clear hok
    go_enter Tryz.func48, Tryz.ntmps48
    go_wp2_with fail
    refine (HG.out _).mono ?_
    rintro e w1 ⟨rfl, hb⟩
    have B1 := hid (HA1.out.trans (hb.mono HA1.out.size))
    clear hb
    go_wp2
    go_ret3
    exact ⟨[], [], 1, _, rfl, B1.out, Pg.nil _ _, HV.out.symm⟩
  | true =>
    rw [hok] at HG
    by_cases hz : c.z ≤ 40
    · have HV : Hid (valM (pf h B) c = ((c.d, []), 0)) := hid (by unfold Ch.valM; rw [if_pos hok, if_pos hz])
      clear hok
      go_enter Tryz.func48, Tryz.ntmps48
      go_wp2_with fail
      refine (HG.out _).mono ?_
      rintro e w1 ⟨rfl, hb⟩
      have B1 := hid (HA1.out.trans (hb.mono HA1.out.size))
      have hbx1 := (hb.block _ (lt_of_block HBX.out)).trans HBX.out
      clear hb c0 c1 c2
      have c0 := blk_cell hbx1 0
      have c1 := blk_cell hbx1 1
      have c2 := blk_cell hbx1 2
      clear hbx1
      go_wp2
      go_ret3
      exact ⟨c.d, [], 0, _, rfl, B1.out, Pg.nil _ _, HV.out.symm⟩
    · have HV : Hid (valM (pf h B) c = rdM (pf h B) 23 c.p c.z.toNat [] []) := hid (by unfold Ch.valM; rw [if_pos hok, if_neg hz])
      have hw := No.okC_ways hok
      have hp : Hid (1 ≤ c.p ∧ c.p < 4096 ∧ 40 < c.z ∧ c.z ≤ 5000) := hid (by
        rcases hw.2.2 with ⟨h1, _⟩ | ⟨h1, h2, h3, h4⟩
        · omega
        · exact ⟨h3, h4, h1, hw.2.1⟩)
      obtain ⟨z, hzn⟩ : ∃ z : Nat, z = c.z.toNat := ⟨_, rfl⟩
      have HZN : Hid ((z : Int) = c.z) := hid (by omega)
      rw [← hzn] at HV
      clear hok hw hzn
      go_enter Tryz.func48, Tryz.ntmps48
      go_wp2_with fail
      refine (HG.out _).mono ?_
      rintro e w1 ⟨rfl, hb⟩
      have B1 := hid (HA1.out.trans (hb.mono HA1.out.size))
      have hbx1 := (hb.block _ (lt_of_block HBX.out)).trans HBX.out
      have hba : Below w1.heap.size w1 (w1.alloc (.cells #[] tI)) := (Below.refl _ _).alloc (Nat.le_refl _) _
      have P2 := hid (Pg.start w1 B1.out.size)
      have B2 := hid (B1.out.trans (hba.mono B1.out.size))
      have hbx2 := (hba.block _ (lt_of_block hbx1)).trans hbx1
      clear hb c0 c1 c2
      have c0 := blk_cell hbx1 0
      have c1 := blk_cell hbx1 1
      have c2 := blk_cell hbx1 2
      clear hbx1 hba
      go_upto_region 7 with fail
      clear c0 c1 c2
      have c0 := blk_cell hbx2 0
      have c1 := blk_cell hbx2 1
      have c2 := blk_cell hbx2 2
      clear hbx2
      generalize w1.alloc (.cells #[] tI) = w2 at *
      generalize w1.heap.size = gp at *
      go_wp2_with fail
      go_loopw [7, 8, 9, 10] (fun ov pv av lv wr => ∃ (m : Nat) (n L : Int) (acc : Bs) (pg : List Int), ov = .string (bs acc) ∧ av = .int .i64 n ∧ lv = .int .i64 L ∧ L ≤ 5000 ∧ -227 ≤ L ∧ 0 ≤ n ∧ n < 4294967296 ∧ Hid (L.toNat ≤ 227 * m ∧ pg.length + m = 23 ∧ acc.length + L.toNat = z) ∧ Hid (rdM (pf h B) m n L.toNat acc pg = rdM (pf h B) 23 c.p z [] []) ∧ Hid (Pg w.heap.size wr pv pg) ∧ Hid (Below w.heap.size w wr)) (fun _ _ _ lv _ => (intOf lv + 227).toNat)
      case atStart => exact ⟨23, c.p, c.z, [], [], rfl, rfl, rfl, by have := hp.out; omega, by have := hp.out; omega, by have := hp.out; omega, by have := hp.out; omega, hid (by have := HZN.out; have := hp.out; simp; omega), hid (by have := HZN.out; congr 1; omega), P2, B2⟩
      case round =>
        obtain ⟨m, n, L, acc, pg, rfl, rfl, rfl, hL1, hL2, hn0, hn1, HB, HRD, HPG, HBE⟩ := hrel
        obtain ⟨ao, cap, rfl, -⟩ := Mem.row_shape HPG.out.row
        by_cases hlt : 0 < L
        · have HG := hid (rget_any (HAT.out.on HBE.out) n)
          obtain ⟨left, hleft⟩ : ∃ left : Nat, L = (left : Int) := ⟨L.toNat, by omega⟩
          subst hleft
          rw [Int.toNat_natCast] at HB HRD
          obtain ⟨m', rfl⟩ : ∃ m', m = m' + 1 := ⟨m - 1, by have := HB.out; omega⟩
          have hl0 : left ≠ 0 := by omega
          go_wp2_with fail
          refine HG.out.mono ?_
          rintro e w3 ⟨hway, hb⟩
          have hbe3 := HBE.out.trans (hb.mono HBE.out.size)
          have BE3 := hid hbe3
          have PG3 := hid (HPG.out.on hb)
          clear hb hbe3 HG
          rcases hway with ⟨hf, rfl⟩ | ⟨x, hf, hxl, rfl⟩
          · have HV2 : Hid (valM (pf h B) c = (([], []), 21)) := hid (by rw [HV.out, ← HRD.out]; exact Ch.rd_no hl0 hf)
            clear hf hl0
            go_wp2
            go_ret3
            exact ⟨[], [], 21, _, rfl, BE3.out, Pg.nil _ _, HV2.out.symm⟩
          · have hs : (bs x).size = 232 := by rw [Sp.bs_size, hxl]
            have HU0 := fun w => Num.runfixed_any ((bs x).extract 1 5) w
            have e1 : ((bs x).extract 1 5).data.toList = (x.drop 1).take 4 := by rw [Sp.ex_mid]; rfl
            rw [e1, Sp.unfix_take x 1 4 (by decide) (by decide) (by omega)] at HU0
            have HU := hid HU0
            have hm1 : numAt x 1 4 < 4294967296 := by
              have h2 := Part.numAt_lt x 1 4
              have h5 : (256 : Nat) ^ 4 = 4294967296 := by decide
              omega
            have hpre := prefix_iff hxl
            obtain ⟨q, hq⟩ : ∃ q : Nat, q = min left 227 := ⟨_, rfl⟩
            have hgood : good x left = (([3] : Bs).isPrefixOf x && ((decide (left ≤ 227) == decide (numAt x 1 4 = 0)) && No.blank (x.drop (5 + q)))) := by
              unfold Ch.good
              rw [decide_eq_true hxl, ← hq]
              simp
            have HGOOD := hid hgood
            have HPY : Hid (good x left = true → partM x left = some ((x.drop 5).take q, ((numAt x 1 4 : Nat) : Int))) := hid (fun h => by rw [Ch.part_yes h, hq])
            have HPN : Hid (good x left = false → partM x left = none) := hid Ch.part_no
            have HF := hid hf
            have HL0 := hid hl0
            have h0s : 0 < (bs x).size := by omega
            have hx0 : (bs x)[0]'h0s = x[0]'(by omega) := bs_get x 0 (by omega) h0s
            have HXL := hid hxl
            have HQ := hid hq
            clear HU0 e1 hgood hf hl0 hq
            generalize hmm : numAt x 1 4 = mm at *
            clear hmm
            cases hp3 : ([3] : Bs).isPrefixOf x with
            | false =>
              have hb3 : ((((bs x)[0]'h0s).toNat : Int) != 3) = true := by
                rw [hx0]
                rw [hp3] at hpre
                simpa using hpre.symm
              have HV2 : Hid (valM (pf h B) c = (([], []), 30)) := hid (by rw [HV.out, ← HRD.out]; exact Ch.rd_bad HL0.out HF.out (HPN.out (by rw [HGOOD.out, hp3]; rfl)))
              clear hpre hx0 hp3 hxl
              go_wp2_with fail
              refine (HU.out _).mono ?_
              rintro e w4 ⟨rfl, rfl⟩
              go_wp2
              go_ret3
              exact ⟨[], [], 30, _, rfl, BE3.out, Pg.nil _ _, HV2.out.symm⟩
            | true =>
              have hb3 : ((((bs x)[0]'h0s).toNat : Int) != 3) = false := by
                rw [hx0]
                rw [hp3] at hpre
                simpa using hpre.symm
              have HP3 := hid hp3
              clear hpre hx0 hp3 hxl
              have hway : (((left : Int) ≤ 227 ∧ ((mm : Int) == 0) = false ∨ ¬ (left : Int) ≤ 227 ∧ ((mm : Int) == 0) = true) ∧ (decide (left ≤ 227) == decide (mm = 0)) = false) ∨ ((((left : Int) < 227 ∧ (left : Int) ≤ 227 ∧ ((mm : Int) == 0) = true ∧ left = q) ∨ (¬ (left : Int) < 227 ∧ (left : Int) ≤ 227 ∧ ((mm : Int) == 0) = true ∧ q = 227) ∨ (¬ (left : Int) < 227 ∧ ¬ (left : Int) ≤ 227 ∧ ((mm : Int) == 0) = false ∧ q = 227)) ∧ (decide (left ≤ 227) == decide (mm = 0)) = true) := by
                have hq := HQ.out
                by_cases a : left ≤ 227 <;> by_cases b : mm = 0
                · refine Or.inr ⟨?_, by simp [a, b]⟩
                  by_cases a2 : left < 227
                  · exact Or.inl ⟨by omega, by omega, by simp [b], by omega⟩
                  · exact Or.inr (Or.inl ⟨by omega, by omega, by simp [b], by omega⟩)
                · exact Or.inl ⟨Or.inl ⟨by omega, by simp [b]⟩, by simp [a, b]⟩
                · exact Or.inl ⟨Or.inr ⟨by omega, by simp [b]⟩, by simp [a, b]⟩
                · exact Or.inr ⟨Or.inr (Or.inr ⟨by omega, by omega, by simp [b], by omega⟩), by simp [a, b]⟩
              rcases hway with ⟨hbad, hd⟩ | ⟨hok3, hd⟩
              · have HV2 : Hid (valM (pf h B) c = (([], []), 30)) := hid (by rw [HV.out, ← HRD.out]; exact Ch.rd_bad HL0.out HF.out (HPN.out (by rw [HGOOD.out, hd]; simp)))
                clear hd
                rcases hbad with ⟨a, b⟩ | ⟨a, b⟩
                all_goals
                  go_wp2_with fail
                  refine (HU.out _).mono ?_
                  rintro e w4 ⟨rfl, rfl⟩
                  go_wp2
                  all_goals first
                    | exact (no_way (by assumption) (by assumption)).elim
                    | (go_ret3
                       exact ⟨[], [], 30, _, rfl, BE3.out, Pg.nil _ _, HV2.out.symm⟩)
              · have HGB : Hid (No.blank (x.drop (5 + q)) = false → valM (pf h B) c = (([], []), 30)) := hid (fun hb => by rw [HV.out, ← HRD.out]; exact Ch.rd_bad HL0.out HF.out (HPN.out (by rw [HGOOD.out, hb]; simp)))
                have HGY : Hid (No.blank (x.drop (5 + q)) = true → partM x left = some ((x.drop 5).take q, (mm : Int))) := hid (fun hb => HPY.out (by rw [HGOOD.out, hd, hb, HP3.out]; rfl))
                have hq2 : Hid (q ≤ 227 ∧ q = min left 227) := hid (by have := HQ.out; omega)
                have hq3 : q ≤ 227 := hq2.out.1
                clear hd
                rcases hok3 with ⟨a, a2, b, hql⟩ | ⟨a, a2, b, hql⟩ | ⟨a, a2, b, hql⟩
                · subst hql
                  go_wp2_with fail
                  refine (HU.out _).mono ?_
                  rintro e w4 ⟨rfl, rfl⟩
                  go_wp2_with fail
                  go_loopw [16] (fun iv wr2 => ∃ k : Nat, iv = .int .i64 (k : Int) ∧ k ≤ 232 ∧ wr2 = w3 ∧ Hid (5 + left ≤ k ∧ ∀ i (hi : i < x.length), 5 + left ≤ i → i < k → x[i] = 0)) (fun iv _ => 232 - (intOf iv).toNat)
                  case atStart => exact ⟨5 + left, by go_num, by omega, rfl, hid ⟨Nat.le_refl _, fun i hi h1 h2 => by omega⟩⟩
                  case round =>
                    obtain ⟨k, rfl, hk, rfl, HK⟩ := hrel
                    by_cases hk2 : k < 232
                    · have hk3 : (k : Int) < 232 := by omega
                      have hks : k < (bs x).size := by omega
                      have hkl : k < x.length := by have := HXL.out; omega
                      have hxk := bs_get x k hkl hks
                      by_cases hx9 : x[k] = 0
                      · have hb9 : ((((bs x)[k]'hks).toNat : Int) != 0) = false := by rw [hxk, hx9]; rfl
                        have HK2 : Hid (5 + left ≤ k + 1 ∧ ∀ i (hi : i < x.length), 5 + left ≤ i → i < k + 1 → x[i] = 0) := hid ⟨by have := HK.out.1; omega, fun i hi h1 h2 => by
                          by_cases h3 : i = k
                          · subst h3
                            exact hx9
                          · exact HK.out.2 i hi h1 (by omega)⟩
                        clear hxk hx9
                        go_wp2
                        go_roundw
                        case rel => exact ⟨k + 1, by go_num, by omega, by first | rfl | trivial, HK2⟩
                        case measure => simp [intOf]; omega
                      · have hb9 : ((((bs x)[k]'hks).toNat : Int) != 0) = true := by
                          rw [hxk, bne_iff_ne]
                          intro e
                          exact hx9 (UInt8.toNat_inj.1 (by have : (x[k]).toNat = 0 := by omega
                                                           rw [this]; rfl))
                        have HV2 := hid (HGB.out (blank_no HK.out.1 hkl hx9))
                        clear hxk hx9
                        go_wp2
                        go_ret3
                        exact ⟨[], [], 30, _, rfl, BE3.out, Pg.nil _ _, HV2.out.symm⟩
                    · have hk3 : ¬ (k : Int) < 232 := by omega
                      have hbl : No.blank (x.drop (5 + left)) = true := blank_yes (fun i hi h1 => HK.out.2 i hi h1 (by have := HXL.out; omega))
                      have hpm := HGY.out hbl
                      have hqm := hq2.out.2
                      have hlen : ((x.drop 5).take left).length = min left 227 := by
                        have h1 := HXL.out
                        have h2 := List.length_take (i := left) (l := x.drop 5)
                        have h3 := List.length_drop (i := 5) (l := x)
                        omega
                      have HRD2 : Hid (rdM (pf h B) m' (mm : Int) (((left : Int) - 227).toNat) (acc ++ (x.drop 5).take left) (pg ++ [n]) = rdM (pf h B) 23 c.p z [] []) := hid (by
                        rw [← HRD.out, Ch.rd_next HL0.out HF.out hpm]
                        congr 1
                        omega)
                      have HB2 : Hid ((((left : Int) - 227).toNat) ≤ 227 * m' ∧ (pg ++ [n]).length + m' = 23 ∧ (acc ++ (x.drop 5).take left).length + (((left : Int) - 227).toNat) = z) := hid (by
                        have := HB.out
                        rw [List.length_append, List.length_append, List.length_singleton, hlen]
                        omega)
                      have hM : (bs x).extract 5 (5 + left) = bs ((x.drop 5).take left) := by rw [Sp.ex_mid, show 5 + left - 5 = left by omega]
                      have hsz1 := Sp.bs_size acc
                      have hsz2 := Sp.bs_size ((x.drop 5).take left)
                      have hcat : ¬ 9223372036854775807 < (bs acc).size + (bs ((x.drop 5).take left)).size := by rw [hsz1, hsz2, hlen]; have := HB.out; have := HZN.out; have := hp.out; omega
                      have hap := Sp.bs_append acc ((x.drop 5).take left)
                      obtain ⟨v6, w6, hr6, P6, hbe6⟩ := PG3.out.push BE3.out BE3.out.size n (by have := HB.out; omega)
                      have HR6 := hid hr6
                      have PG6 := hid P6
                      have BE6 := hid hbe6
                      have hwm : wrap64 (mm : Int) = (mm : Int) := by rw [Num.wrap_i]; omega
                      clear hr6 P6 hbe6 hbl hpm hlen hsz1 hsz2 hqm
                      generalize (x.drop 5).take left = xp at *
                      generalize hac : bs (acc ++ xp) = ac6 at *
                      have HAC := hid hac
                      clear hac
                      go_wp2_with (at_builtin; refine wpList_append_run rfl (.tmp 79) (.tmp 81) tIs tIs rfl _ _ (by simp [Act.eval]) (by simp [Act.eval]) HR6.out ?_)
                      go_roundw
                      case rel => exact ⟨m', (mm : Int), (left : Int) - 227, acc ++ xp, pg ++ [n], by rw [HAC.out], rfl, rfl, by omega, by omega, by omega, by omega, HB2, HRD2, PG6, BE6⟩
                      case measure => simp [intOf]; omega
                · subst hql
                  go_wp2_with fail
                  refine (HU.out _).mono ?_
                  rintro e w4 ⟨rfl, rfl⟩
                  go_wp2_with fail
                  go_loopw [16] (fun iv wr2 => ∃ k : Nat, iv = .int .i64 (k : Int) ∧ k ≤ 232 ∧ wr2 = w3 ∧ Hid (5 + 227 ≤ k ∧ ∀ i (hi : i < x.length), 5 + 227 ≤ i → i < k → x[i] = 0)) (fun iv _ => 232 - (intOf iv).toNat)
                  case atStart => exact ⟨5 + 227, by go_num, by omega, rfl, hid ⟨Nat.le_refl _, fun i hi h1 h2 => by omega⟩⟩
                  case round =>
                    obtain ⟨k, rfl, hk, rfl, HK⟩ := hrel
                    by_cases hk2 : k < 232
                    · have hk3 : (k : Int) < 232 := by omega
                      have hks : k < (bs x).size := by omega
                      have hkl : k < x.length := by have := HXL.out; omega
                      have hxk := bs_get x k hkl hks
                      by_cases hx9 : x[k] = 0
                      · have hb9 : ((((bs x)[k]'hks).toNat : Int) != 0) = false := by rw [hxk, hx9]; rfl
                        have HK2 : Hid (5 + 227 ≤ k + 1 ∧ ∀ i (hi : i < x.length), 5 + 227 ≤ i → i < k + 1 → x[i] = 0) := hid ⟨by have := HK.out.1; omega, fun i hi h1 h2 => by
                          by_cases h3 : i = k
                          · subst h3
                            exact hx9
                          · exact HK.out.2 i hi h1 (by omega)⟩
                        clear hxk hx9
                        go_wp2
                        go_roundw
                        case rel => exact ⟨k + 1, by go_num, by omega, by first | rfl | trivial, HK2⟩
                        case measure => simp [intOf]; omega
                      · have hb9 : ((((bs x)[k]'hks).toNat : Int) != 0) = true := by
                          rw [hxk, bne_iff_ne]
                          intro e
                          exact hx9 (UInt8.toNat_inj.1 (by have : (x[k]).toNat = 0 := by omega
                                                           rw [this]; rfl))
                        have HV2 := hid (HGB.out (blank_no HK.out.1 hkl hx9))
                        clear hxk hx9
                        go_wp2
                        go_ret3
                        exact ⟨[], [], 30, _, rfl, BE3.out, Pg.nil _ _, HV2.out.symm⟩
                    · have hk3 : ¬ (k : Int) < 232 := by omega
                      have hbl : No.blank (x.drop (5 + 227)) = true := blank_yes (fun i hi h1 => HK.out.2 i hi h1 (by have := HXL.out; omega))
                      have hpm := HGY.out hbl
                      have hqm := hq2.out.2
                      have hlen : ((x.drop 5).take 227).length = min left 227 := by
                        have h1 := HXL.out
                        have h2 := List.length_take (i := 227) (l := x.drop 5)
                        have h3 := List.length_drop (i := 5) (l := x)
                        omega
                      have HRD2 : Hid (rdM (pf h B) m' (mm : Int) (((left : Int) - 227).toNat) (acc ++ (x.drop 5).take 227) (pg ++ [n]) = rdM (pf h B) 23 c.p z [] []) := hid (by
                        rw [← HRD.out, Ch.rd_next HL0.out HF.out hpm]
                        congr 1
                        omega)
                      have HB2 : Hid ((((left : Int) - 227).toNat) ≤ 227 * m' ∧ (pg ++ [n]).length + m' = 23 ∧ (acc ++ (x.drop 5).take 227).length + (((left : Int) - 227).toNat) = z) := hid (by
                        have := HB.out
                        rw [List.length_append, List.length_append, List.length_singleton, hlen]
                        omega)
                      have hM : (bs x).extract 5 (5 + 227) = bs ((x.drop 5).take 227) := by rw [Sp.ex_mid, show 5 + 227 - 5 = 227 by omega]
                      have hsz1 := Sp.bs_size acc
                      have hsz2 := Sp.bs_size ((x.drop 5).take 227)
                      have hcat : ¬ 9223372036854775807 < (bs acc).size + (bs ((x.drop 5).take 227)).size := by rw [hsz1, hsz2, hlen]; have := HB.out; have := HZN.out; have := hp.out; omega
                      have hap := Sp.bs_append acc ((x.drop 5).take 227)
                      obtain ⟨v6, w6, hr6, P6, hbe6⟩ := PG3.out.push BE3.out BE3.out.size n (by have := HB.out; omega)
                      have HR6 := hid hr6
                      have PG6 := hid P6
                      have BE6 := hid hbe6
                      have hwm : wrap64 (mm : Int) = (mm : Int) := by rw [Num.wrap_i]; omega
                      clear hr6 P6 hbe6 hbl hpm hlen hsz1 hsz2 hqm
                      generalize (x.drop 5).take 227 = xp at *
                      generalize hac : bs (acc ++ xp) = ac6 at *
                      have HAC := hid hac
                      clear hac
                      go_wp2_with (at_builtin; refine wpList_append_run rfl (.tmp 79) (.tmp 81) tIs tIs rfl _ _ (by simp [Act.eval]) (by simp [Act.eval]) HR6.out ?_)
                      go_roundw
                      case rel => exact ⟨m', (mm : Int), (left : Int) - 227, acc ++ xp, pg ++ [n], by rw [HAC.out], rfl, rfl, by omega, by omega, by omega, by omega, HB2, HRD2, PG6, BE6⟩
                      case measure => simp [intOf]; omega
                · subst hql
                  go_wp2_with fail
                  refine (HU.out _).mono ?_
                  rintro e w4 ⟨rfl, rfl⟩
                  go_wp2_with fail
                  go_loopw [16] (fun iv wr2 => ∃ k : Nat, iv = .int .i64 (k : Int) ∧ k ≤ 232 ∧ wr2 = w3 ∧ Hid (5 + 227 ≤ k ∧ ∀ i (hi : i < x.length), 5 + 227 ≤ i → i < k → x[i] = 0)) (fun iv _ => 232 - (intOf iv).toNat)
                  case atStart => exact ⟨5 + 227, by go_num, by omega, rfl, hid ⟨Nat.le_refl _, fun i hi h1 h2 => by omega⟩⟩
                  case round =>
                    obtain ⟨k, rfl, hk, rfl, HK⟩ := hrel
                    by_cases hk2 : k < 232
                    · have hk3 : (k : Int) < 232 := by omega
                      have hks : k < (bs x).size := by omega
                      have hkl : k < x.length := by have := HXL.out; omega
                      have hxk := bs_get x k hkl hks
                      by_cases hx9 : x[k] = 0
                      · have hb9 : ((((bs x)[k]'hks).toNat : Int) != 0) = false := by rw [hxk, hx9]; rfl
                        have HK2 : Hid (5 + 227 ≤ k + 1 ∧ ∀ i (hi : i < x.length), 5 + 227 ≤ i → i < k + 1 → x[i] = 0) := hid ⟨by have := HK.out.1; omega, fun i hi h1 h2 => by
                          by_cases h3 : i = k
                          · subst h3
                            exact hx9
                          · exact HK.out.2 i hi h1 (by omega)⟩
                        clear hxk hx9
                        go_wp2
                        go_roundw
                        case rel => exact ⟨k + 1, by go_num, by omega, by first | rfl | trivial, HK2⟩
                        case measure => simp [intOf]; omega
                      · have hb9 : ((((bs x)[k]'hks).toNat : Int) != 0) = true := by
                          rw [hxk, bne_iff_ne]
                          intro e
                          exact hx9 (UInt8.toNat_inj.1 (by have : (x[k]).toNat = 0 := by omega
                                                           rw [this]; rfl))
                        have HV2 := hid (HGB.out (blank_no HK.out.1 hkl hx9))
                        clear hxk hx9
                        go_wp2
                        go_ret3
                        exact ⟨[], [], 30, _, rfl, BE3.out, Pg.nil _ _, HV2.out.symm⟩
                    · have hk3 : ¬ (k : Int) < 232 := by omega
                      have hbl : No.blank (x.drop (5 + 227)) = true := blank_yes (fun i hi h1 => HK.out.2 i hi h1 (by have := HXL.out; omega))
                      have hpm := HGY.out hbl
                      have hqm := hq2.out.2
                      have hlen : ((x.drop 5).take 227).length = min left 227 := by
                        have h1 := HXL.out
                        have h2 := List.length_take (i := 227) (l := x.drop 5)
                        have h3 := List.length_drop (i := 5) (l := x)
                        omega
                      have HRD2 : Hid (rdM (pf h B) m' (mm : Int) (((left : Int) - 227).toNat) (acc ++ (x.drop 5).take 227) (pg ++ [n]) = rdM (pf h B) 23 c.p z [] []) := hid (by
                        rw [← HRD.out, Ch.rd_next HL0.out HF.out hpm]
                        congr 1
                        omega)
                      have HB2 : Hid ((((left : Int) - 227).toNat) ≤ 227 * m' ∧ (pg ++ [n]).length + m' = 23 ∧ (acc ++ (x.drop 5).take 227).length + (((left : Int) - 227).toNat) = z) := hid (by
                        have := HB.out
                        rw [List.length_append, List.length_append, List.length_singleton, hlen]
                        omega)
                      have hM : (bs x).extract 5 (5 + 227) = bs ((x.drop 5).take 227) := by rw [Sp.ex_mid, show 5 + 227 - 5 = 227 by omega]
                      have hsz1 := Sp.bs_size acc
                      have hsz2 := Sp.bs_size ((x.drop 5).take 227)
                      have hcat : ¬ 9223372036854775807 < (bs acc).size + (bs ((x.drop 5).take 227)).size := by rw [hsz1, hsz2, hlen]; have := HB.out; have := HZN.out; have := hp.out; omega
                      have hap := Sp.bs_append acc ((x.drop 5).take 227)
                      obtain ⟨v6, w6, hr6, P6, hbe6⟩ := PG3.out.push BE3.out BE3.out.size n (by have := HB.out; omega)
                      have HR6 := hid hr6
                      have PG6 := hid P6
                      have BE6 := hid hbe6
                      have hwm : wrap64 (mm : Int) = (mm : Int) := by rw [Num.wrap_i]; omega
                      clear hr6 P6 hbe6 hbl hpm hlen hsz1 hsz2 hqm
                      generalize (x.drop 5).take 227 = xp at *
                      generalize hac : bs (acc ++ xp) = ac6 at *
                      have HAC := hid hac
                      clear hac
                      go_wp2_with (at_builtin; refine wpList_append_run rfl (.tmp 79) (.tmp 81) tIs tIs rfl _ _ (by simp [Act.eval]) (by simp [Act.eval]) HR6.out ?_)
                      go_roundw
                      case rel => exact ⟨m', (mm : Int), (left : Int) - 227, acc ++ xp, pg ++ [n], by rw [HAC.out], rfl, rfl, by omega, by omega, by omega, by omega, HB2, HRD2, PG6, BE6⟩
                      case measure => simp [intOf]; omega
        · have HV2 : Hid (valM (pf h B) c = ((acc, pg), 0)) := hid (by
            rw [HV.out, ← HRD.out]
            have : L.toNat = 0 := by omega
            rw [this]
            exact Ch.rd_done _ _ _ _ _)
          go_wp2
          go_ret3
          exact ⟨acc, pg, 0, _, rfl, HBE.out, HPG.out, HV2.out.symm⟩
end Rf
end Go.Proofs.YtoifhcmgeackdaaGreatDoor
