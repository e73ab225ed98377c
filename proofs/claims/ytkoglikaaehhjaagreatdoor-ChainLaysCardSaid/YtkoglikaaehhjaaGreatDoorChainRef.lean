/-
  The reference's shelf in memory; contracts of its calls.
-/
import Derived.Test.YtkoglikaaehhjaaGreatDoorChainRefTake
import Derived.Test.YtkoglikaaehhjaaGreatDoorChainMath
import Derived.Test.YtkoglikaaehhjaaGreatDoorShelfFull
import Derived.Test.YtkoglikaaehhjaaGreatDoorQuietTail
import Derived.Deep.RegionHeld3
import Derived.BigQuiet
namespace Go.Proofs.YtkoglikaaehhjaaGreatDoor
open Go.RowKit
namespace Rf
open Sp
open Num (hid)
open Mem (Bs bs tI tS Chg ptr blk_new blk_cell blk_free blk_set blk_alloc)
open Sh (putH)
abbrev tRs : TypeId := 79
abbrev rsC (lim : Int) (h : Hd) (b : Nat) : Array Value := #[.int .i64 lim, .int .i64 h.mode, .int .i64 h.pages, .int .i64 h.trunk, .int .i64 h.spare, .int .i64 h.root, .int .u64 (h.change : Nat), ptr b, .int .i64 (-1)]
abbrev RBlk (r b : Nat) (lim : Int) (h : Hd) (w : World) : Prop := w.heap[r]? = some (.cells (rsC lim h b) tRs (0, 0))
/-- The blocks of a book: of N, the shelf's box left out. -/
def Bk (N : Nat → Prop) (r : Nat) : Nat → Prop := fun k => N k ∧ k ≠ r
structure RAt (N : Nat → Prop) (r b : Nat) (lim : Int) (h : Hd) (B : Book) (w : World) : Prop where
  blk : RBlk r b lim h w
  book : BookR (Bk N r) w b B
  nr : N r
  len : ∀ x ∈ B, x.2.length = 232
  cnt : B.length ≤ 5000
  up : ∀ k, w.heap.size ≤ k → N k
variable {N : Nat → Prop} {r b : Nat} {lim : Int} {h : Hd} {B : Book} {w w' : World}
theorem RAt.lt (A : RAt N r b lim h B w) : r < w.heap.size ∧ b < w.heap.size := ⟨lt_of_block A.blk, A.book.lt⟩
theorem RAt.apart {F : Nat → Prop} (A : RAt N r b lim h B w) (hc : Chg F w w') (hF : ∀ k, F k → ¬ N k) : RAt N r b lim h B w' :=
  ⟨hc.at A.blk (fun e => hF r e A.nr), A.book.apart hc (fun k hk e => hF k hk e.1), A.nr, A.len, A.cnt, fun k hk => A.up k (Nat.le_trans hc.size hk)⟩
theorem RAt.on (A : RAt N r b lim h B w) (hb : Below w.heap.size w w') : RAt N r b lim h B w' := A.apart (F := fun _ => False) (Chg.of_below hb) (fun _ h => h.elim)
theorem RBlk.cells (k : RBlk r b lim h w) : w.cell? ⟨r, 0, none⟩ = some (.int .i64 lim) ∧ w.cell? ⟨r, 1, none⟩ = some (.int .i64 h.mode) ∧ w.cell? ⟨r, 2, none⟩ = some (.int .i64 h.pages) ∧ w.cell? ⟨r, 3, none⟩ = some (.int .i64 h.trunk) ∧ w.cell? ⟨r, 4, none⟩ = some (.int .i64 h.spare) ∧ w.cell? ⟨r, 5, none⟩ = some (.int .i64 h.root) ∧ w.cell? ⟨r, 6, none⟩ = some (.int .u64 (h.change : Nat)) ∧ w.cell? ⟨r, 7, none⟩ = some (ptr b) ∧ w.cell? ⟨r, 8, none⟩ = some (.int .i64 (-1)) :=
  ⟨blk_cell k 0, blk_cell k 1, blk_cell k 2, blk_cell k 3, blk_cell k 4, blk_cell k 5, blk_cell k 6, blk_cell k 7, blk_cell k 8⟩
theorem RBlk.free (k : RBlk r b lim h w) : w.frozen? ⟨r, 1, none⟩ = false ∧ w.frozen? ⟨r, 2, none⟩ = false ∧ w.frozen? ⟨r, 3, none⟩ = false ∧ w.frozen? ⟨r, 4, none⟩ = false ∧ w.frozen? ⟨r, 5, none⟩ = false ∧ w.frozen? ⟨r, 6, none⟩ = false :=
  ⟨blk_free k 1, blk_free k 2, blk_free k 3, blk_free k 4, blk_free k 5, blk_free k 6⟩
theorem RBlk.put (k : RBlk r b lim h w) (g : Hd) : RBlk r b lim g (putH w r g) :=
  blk_set (blk_set (blk_set (blk_set (blk_set (blk_set k 1 (.int .i64 g.mode)) 2 (.int .i64 g.pages)) 3 (.int .i64 g.trunk)) 4 (.int .i64 g.spare)) 5 (.int .i64 g.root)) 6 (.int .u64 (g.change : Nat))
/-- Its pages. -/
def pf (h : Hd) (B : Book) : Int → Option Bs := fun n => if 1 ≤ n ∧ n < h.pages then some (getB B n) else none
theorem getB_len {B : Book} (hl : ∀ x ∈ B, x.2.length = 232) (n : Int) : (getB B n).length = 232 := by
  rcases place_ways B n with ⟨k, hk, _, _, h2, _⟩ | ⟨_, h2, _⟩
  · rw [h2]
    exact hl _ (List.getElem_mem hk)
  · rw [h2, zeros_len]
set_option maxRecDepth 100000 in
theorem begin_any (k : RBlk r b lim h w) : Calls Tryz.prog 36 #[ptr r] w fun e w' => e = .returned (.int .i64 0) ∧ w = w' := by
  obtain ⟨c0, c1, c2, c3, c4, c5, c6, c7, c8⟩ := RBlk.cells k
  clear k
  go_enter Tryz.func36, Tryz.ntmps36
  go_wp2
  go_ret
  exact ⟨rfl, rfl⟩
set_option maxRecDepth 100000 in
theorem is_any (k : RBlk r b lim h w) (n : Int) : Calls Tryz.prog 41 #[ptr r, .int .i64 n] w fun e w' => e = .returned (.bool (decide (1 ≤ n ∧ n < h.pages))) ∧ w = w' := by
  obtain ⟨c0, c1, c2, c3, c4, c5, c6, c7, c8⟩ := RBlk.cells k
  clear k
  by_cases h1 : 1 ≤ n
  · by_cases h2 : n < h.pages
    · rw [decide_eq_true ⟨h1, h2⟩]
      go_enter Tryz.func41, Tryz.ntmps41
      go_wp2
      go_ret
      exact ⟨rfl, rfl⟩
    · rw [decide_eq_false (fun e => h2 e.2)]
      have h2' : ¬ n < h.pages := h2
      go_enter Tryz.func41, Tryz.ntmps41
      go_wp2
      go_ret
      exact ⟨rfl, rfl⟩
  · rw [decide_eq_false (fun e => h1 e.1)]
    go_enter Tryz.func41, Tryz.ntmps41
    go_wp2
    go_ret
    exact ⟨rfl, rfl⟩
set_option maxRecDepth 100000 in
set_option maxHeartbeats 1000000 in
theorem rget_any (A : RAt N r b lim h B w) (n : Int) : Calls Tryz.prog 29 #[ptr r, .int .i64 n] w fun e w' => (pf h B n = none ∧ e = .returned (.tuple #[.string ⟨#[]⟩, .int .i64 21]) ∨ ∃ x, pf h B n = some x ∧ x.length = 232 ∧ e = .returned (.tuple #[.string (bs x), .int .i64 0])) ∧ Below w.heap.size w w' := by
  obtain ⟨c0, c1, c2, c3, c4, c5, c6, c7, c8⟩ := RBlk.cells A.blk
  have HB := hid (begin_any A.blk)
  have HI := hid (is_any A.blk n)
  have HG := hid (bget_any A.book n (by have := A.cnt; omega))
  have HL := hid (getB_len A.len n)
  clear A
  by_cases hin : 1 ≤ n ∧ n < h.pages
  · rw [decide_eq_true hin] at HI
    have HP : Hid (pf h B n = some (getB B n)) := hid (if_pos hin)
    clear hin
    go_enter Tryz.func29, Tryz.ntmps29
    go_wp2_with fail
    refine HB.out.mono ?_
    rintro e w1 ⟨rfl, rfl⟩
    go_wp2_with fail
    refine HI.out.mono ?_
    rintro e w1 ⟨rfl, rfl⟩
    go_wp2_with fail
    refine HG.out.mono ?_
    rintro e w2 ⟨rfl, hb⟩
    have HB2 := hid hb
    clear hb c0 c1 c2 c3 c4 c5 c6 c7 c8
    go_wp2
    go_ret2
    exact ⟨Or.inr ⟨_, HP.out, HL.out, rfl⟩, HB2.out⟩
  · rw [decide_eq_false hin] at HI
    have HP : Hid (pf h B n = none) := hid (if_neg hin)
    clear hin
    go_enter Tryz.func29, Tryz.ntmps29
    go_wp2_with fail
    refine HB.out.mono ?_
    rintro e w1 ⟨rfl, rfl⟩
    go_wp2_with fail
    refine HI.out.mono ?_
    rintro e w1 ⟨rfl, rfl⟩
    go_wp2
    go_ret2
    exact ⟨Or.inl ⟨HP.out, rfl⟩, Below.refl _ _⟩
/-- Put into the book. -/
theorem RAt.bput (A : RAt N r b lim h B w) (hc : B.length ≤ 4000) (key : Int) (d : Bs) (hd : d.length = 232) :
    Calls Tryz.prog 38 #[ptr b, .int .i64 key, .string (bs d)] w fun e w' => e = .returned (.tuple #[]) ∧ RAt N r b lim h (putB B key d) w' ∧ Chg N w w' := by
  have hr := A.lt.1
  refine (bput_any A.book (fun k hk => ⟨A.up k hk, by omega⟩) key d (by omega)).mono ?_
  rintro e w' ⟨rfl, hb, hch⟩
  refine ⟨rfl, ⟨hch.at A.blk (fun e => e.2 rfl), hb, A.nr, fun x hx => ?_, by have := put_len key d B; omega, fun k hk => A.up k (Nat.le_trans hch.size hk)⟩, hch.mono (fun k _ e => e.1)⟩
  rcases put_mem hx with h1 | h1
  · exact A.len x h1
  · rw [h1]
    exact hd
set_option maxRecDepth 100000 in
set_option maxHeartbeats 1000000 in
theorem rput_any (A : RAt N r b lim h B w) (hc : B.length ≤ 4000) (n : Int) (hn : 1 ≤ n ∧ n < h.pages) (d : Bs) (hd : d.length = 232) : Calls Tryz.prog 21 #[ptr r, .int .i64 n, .string (bs d)] w fun e w' => e = .returned (.int .i64 0) ∧ RAt N r b lim h (putB B n d) w' ∧ Chg N w w' := by
  obtain ⟨c0, c1, c2, c3, c4, c5, c6, c7, c8⟩ := RBlk.cells A.blk
  have HB := hid (begin_any A.blk)
  have HI := hid (is_any A.blk n)
  have HP := hid (A.bput hc n d hd)
  rw [decide_eq_true hn] at HI
  have hz := bs_size d
  have hs : (((bs d).size : Int) != 232) = false := by rw [hz, hd]; rfl
  clear A hn hz hd hc
  go_enter Tryz.func21, Tryz.ntmps21
  go_wp2_with fail
  refine HB.out.mono ?_
  rintro e w1 ⟨rfl, rfl⟩
  go_wp2_with fail
  refine HI.out.mono ?_
  rintro e w1 ⟨rfl, rfl⟩
  go_wp2_with fail
  refine HP.out.mono ?_
  rintro e w2 ⟨rfl, hA, hC⟩
  have HF := hid (And.intro hA hC)
  clear hA hC c0 c1 c2 c3 c4 c5 c6 c7 c8
  go_wp2
  go_ret
  exact ⟨rfl, HF.out.1, HF.out.2⟩
/-- Nothing stands in a book. -/
theorem book_new (w : World) {Q : Nat → Prop} (hQ : Q w.heap.size) : BookR Q (w.alloc (.cells #[.slice none 0 0, .slice none 0 0] tBk)) w.heap.size [] := by
  exact ⟨.slice none 0 0, .slice none 0 0, blk_new w _, hQ, ⟨World.ownsRow_nil _ 0 tI 1, fun g hg => by simp [Value.ownBlock] at hg⟩, ⟨World.ownsRow_nil _ 0 tS 1, fun g hg => by simp [Value.ownBlock] at hg⟩⟩
end Rf
end Go.Proofs.YtkoglikaaehhjaaGreatDoor
