/-
  The statements' store: a desk over a book, whose calls fail when its count is used up; its Get and Put.
-/
import Derived.Test.YtkoglikaaehhjaaSparePut
namespace Go.Proofs.Ytkoglikaaehhjaa
open Go.RowKit
namespace Sp
open Num (hid)
open Mem (Bs bs tI tS tIs tSs Chg Row ptr blk_cell blk_free blk_new blk_set blk_other blk_alloc row_kept row_shape row_type)
abbrev tDk : TypeId := 47
abbrev tDp : TypeId := 38
abbrev dkV (d : Nat) : Value := .iface tDp (ptr d)
structure DeskR (R : Nat → Prop) (w : World) (d b : Nat) (S : St) : Prop where
  blk : w.heap[d]? = some (.cells #[ptr b, .int .i64 S.left] tDk (0, 0))
  own : R d
  book : BookR (fun k => R k ∧ ¬ k = d) w b S.B
/-- Small enough: k calls and pages at most. -/
def Small (k : Nat) (S : St) : Prop := -(k : Int) ≤ S.left ∧ S.left ≤ 1000000 ∧ S.B.length ≤ k
theorem Small.more {k k' : Nat} {S : St} (h : Small k S) (hk : k ≤ k') : Small k' S := by unfold Small at *; omega
variable {R : Nat → Prop} {w w' : World} {d b : Nat} {S : St}
theorem DeskR.apart {F : Nat → Prop} (h : DeskR R w d b S) (hc : Chg F w w') (hF : ∀ k, F k → ¬ R k) : DeskR R w' d b S := ⟨hc.at h.blk (fun e => hF d e h.own), h.own, h.book.apart hc (fun k hk e => hF k hk e.1)⟩
theorem DeskR.on (h : DeskR R w d b S) (hb : Below w.heap.size w w') : DeskR R w' d b S := h.apart (F := fun _ => False) (Chg.of_below hb) (fun _ h => h.elim)
theorem DeskR.mono {R' : Nat → Prop} (h : DeskR R w d b S) (hR : ∀ g, g < w.heap.size → R g → R' g) : DeskR R' w d b S := ⟨h.blk, hR d (lt_of_block h.blk) h.own, h.book.mono (fun g hg e => ⟨hR g hg e.1, e.2⟩)⟩
/-- The count is turned. -/
theorem DeskR.count (h : DeskR R w d b S) (n : Int) : DeskR R (w.setCell ⟨d, 1, none⟩ (.int .i64 n)) d b ⟨S.B, n⟩ ∧ Chg R w (w.setCell ⟨d, 1, none⟩ (.int .i64 n)) := by
  have hs : Chg (· = d) w (w.setCell ⟨d, 1, none⟩ (.int .i64 n)) := (Chg.refl _ w).root 1 _
  exact ⟨⟨blk_set h.blk 1 _, h.own, h.book.apart hs (fun k hk e => e.2 hk)⟩, hs.mono (fun k _ e => by rw [e]; exact h.own)⟩
theorem DeskR.cells (h : DeskR R w d b S) : w.cell? ⟨d, 0, none⟩ = some (ptr b) ∧ w.cell? ⟨d, 1, none⟩ = some (.int .i64 S.left) ∧ w.frozen? ⟨d, 1, none⟩ = false ∧ d < w.heap.size := ⟨blk_cell h.blk 0, blk_cell h.blk 1, blk_free h.blk 1, lt_of_block h.blk⟩
theorem left_wrap {k : Nat} (h : Small k S) (hk : k ≤ 1000000) : wrap64 (S.left - 1) = S.left - 1 := by
  unfold Small at h
  rw [Num.wrap_i]
  omega
theorem get_no {n : Int} (h : S.left = 0) : S.get n = (([], 11), S) := if_pos h
theorem get_yes {n : Int} (h : ¬ S.left = 0) : S.get n = ((getB S.B n, 0), ⟨S.B, S.left - 1⟩) := if_neg h
theorem put_no {n : Int} {x : Bs} (h : S.left = 0) : S.put n x = (11, S) := if_pos h
theorem put_yes {n : Int} {x : Bs} (h : ¬ S.left = 0) : S.put n x = (0, ⟨putB S.B n x, S.left - 1⟩) := if_neg h
set_option maxRecDepth 100000 in
set_option maxHeartbeats 1000000 in
theorem dget_any (h : DeskR R w d b S) {c : Nat} (hS : Small c S) (hc : c ≤ 50000) (n : Int) :
    Calls Try.prog 64 #[ptr d, .int .i64 n] w fun e w' => e = .returned (.tuple #[.string (bs (S.get n).1.1), .int .i64 (S.get n).1.2]) ∧ DeskR R w' d b (S.get n).2 ∧ Chg R w w' := by
  obtain ⟨c0, c1, f1, l1⟩ := h.cells
  by_cases h0 : S.left = 0
  · rw [get_no h0]
    have HH := hid h
    have h0' : (S.left == 0) = true := by simpa using h0
    clear h
    go_enter Try.func64, Try.ntmps64
    go_wp2
    go_ret2
    exact ⟨rfl, HH.out, Chg.refl _ _⟩
  · rw [get_yes h0]
    have h0' : (S.left == 0) = false := by simpa using h0
    have hw := left_wrap hS (by omega)
    obtain ⟨H1, C1⟩ := h.count (S.left - 1)
    have HG := hid (bget_any H1.book n (by unfold Small at hS; simp only; omega))
    have HH := hid H1
    have HC := hid C1
    obtain ⟨g0, -, -, gl⟩ := H1.cells
    simp only at HG
    obtain ⟨B, l⟩ := S
    simp only at *
    clear h h0 H1 C1 hS hc
    go_enter Try.func64, Try.ntmps64
    go_wp2_with fail
    refine HG.out.mono ?_
    rintro e w3 ⟨rfl, hb⟩
    have HB := hid hb
    clear hb g0 gl
    go_wp2
    go_ret2
    exact ⟨rfl, HH.out.on HB.out, HC.out.trans (Chg.of_below HB.out)⟩
set_option maxRecDepth 100000 in
set_option maxHeartbeats 1000000 in
theorem dput_any (h : DeskR R w d b S) (hR : ∀ k, w.heap.size ≤ k → R k) {c : Nat} (hS : Small c S) (hc : c ≤ 50000) (n : Int) (x : Bs) :
    Calls Try.prog 65 #[ptr d, .int .i64 n, .string (bs x)] w fun e w' => e = .returned (.int .i64 (S.put n x).1) ∧ DeskR R w' d b (S.put n x).2 ∧ Chg R w w' := by
  obtain ⟨c0, c1, f1, l1⟩ := h.cells
  by_cases h0 : S.left = 0
  · rw [put_no h0]
    have HH := hid h
    have h0' : (S.left == 0) = true := by simpa using h0
    clear h
    go_enter Try.func65, Try.ntmps65
    go_wp2
    go_ret
    exact ⟨rfl, HH.out, Chg.refl _ _⟩
  · rw [put_yes h0]
    have h0' : (S.left == 0) = false := by simpa using h0
    have hw := left_wrap hS (by omega)
    obtain ⟨H1, C1⟩ := h.count (S.left - 1)
    have hz1 : w.heap.size ≤ (w.setCell ⟨d, 1, none⟩ (.int .i64 (S.left - 1))).heap.size := C1.size
    have HG0 := bput_any H1.book (fun k hk => ⟨hR k (Nat.le_trans hz1 hk), by omega⟩) n x (by unfold Small at hS; simp only; omega)
    have HH := hid H1
    have HC := hid C1
    obtain ⟨g0, -, -, gl⟩ := H1.cells
    have HG := hid HG0
    simp only at HG
    obtain ⟨B, l⟩ := S
    simp only at *
    clear h h0 H1 C1 hS hc HG0 hR
    go_enter Try.func65, Try.ntmps65
    go_wp2_with fail
    refine HG.out.mono ?_
    rintro e w3 ⟨rfl, hbk, hcg⟩
    have HB := hid hbk
    have HCG := hid hcg
    clear hbk hcg g0 gl
    go_wp2
    go_ret
    exact ⟨rfl, ⟨HCG.out.at HH.out.blk (fun e => e.2 rfl), HH.out.own, HB.out⟩, HC.out.trans (HCG.out.mono (fun k _ e => e.1))⟩
end Sp
end Go.Proofs.Ytkoglikaaehhjaa
