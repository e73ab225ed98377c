/-
  A desk of the call's own beside other memory: what the call has made besides it stays.
-/
import Derived.Test.YtkoglikaaehhjaaSpareGive
import Derived.Test.YtkoglikaaehhjaaSpareInv
namespace Go.Proofs.Ytkoglikaaehhjaa
open Go.RowKit
namespace Sp
open Num (hid)
open Mem (Bs bs IAt tI tS tIs tSs Chg Row ptr blk_cell blk_free blk_new blk_set blk_other blk_alloc row_kept row_shape row_type)
/-- The desk at d is S; whatever the others are (O), they are none of its own. -/
def Seen (O : Nat → Prop) (d b : Nat) (S : St) (w : World) : Prop := ∃ R, DeskR R w d b S ∧ (∀ k, O k → ¬ R k) ∧ ∀ k, O k → k < w.heap.size
def Stays (O : Nat → Prop) (w w' : World) : Prop := Chg (fun k => ¬ O k) w w'
theorem Stays.refl (O : Nat → Prop) (w : World) : Stays O w w := Chg.refl _ _
theorem Stays.trans {O : Nat → Prop} {a b c : World} (h : Stays O a b) (k : Stays O b c) : Stays O a c := Chg.trans h k
theorem Stays.at {O : Nat → Prop} {w w' : World} (h : Stays O w w') {b : Nat} {o : Obj} (hb : w.heap[b]? = some o) (hO : O b) : w'.heap[b]? = some o := Chg.at h hb (fun h => h hO)
theorem Stays.of_below {O : Nat → Prop} {w w' : World} (h : Below w.heap.size w w') : Stays O w w' := Chg.of_below h
theorem Stays.fewer {O O' : Nat → Prop} {w w' : World} (h : Stays O w w') (hO : ∀ k, O' k → O k) : Stays O' w w' := Chg.mono h (fun _ _ hn ho => hn (hO _ ho))
theorem Stays.below {O : Nat → Prop} {w w' : World} (h : Stays O w w') {B : Nat} (hB : B ≤ w.heap.size) (hO : ∀ k, k < B → O k) : Below B w w' := Chg.below h hB (fun k hk hn => hn (hO k hk))
theorem Stays.cell {O : Nat → Prop} {w w' : World} (h : Stays O w w') {b i : Nat} (hb : b < w.heap.size) (hO : O b) : w'.cell? ⟨b, i, none⟩ = w.cell? ⟨b, i, none⟩ := Chg.cell h hb (fun h => h hO)
theorem Stays.hb {O : Nat → Prop} {w w' : World} (h : Stays O w w') {b : Nat} {g : Hd} (k : Hb b g w) (hO : O b) : Hb b g w' := h.at k hO
theorem Stays.row {O : Nat → Prop} {w w' : World} (h : Stays O w w') {base : Nat} {e : TypeId} {k : Nat} {v : Value} {n : Nat} {xs : List Value} (hr : w.ownsRow base e k v n xs) (hO : ∀ g, v.ownBlock = some g → O g) : w'.ownsRow base e k v n xs :=
  row_kept hr h (fun g hg hn => hn (hO g hg))
variable {O : Nat → Prop} {d b : Nat} {S : St} {w w' : World}
theorem Seen.kept (h : Seen O d b S w) (hb : Below w.heap.size w w') : Seen O d b S w' := by
  obtain ⟨R, D, h1, h2⟩ := h
  exact ⟨R, D.on hb, h1, fun k hk => Nat.lt_of_lt_of_le (h2 k hk) hb.size⟩
theorem Seen.fewer {O' : Nat → Prop} (h : Seen O d b S w) (hO : ∀ k, O' k → O k) : Seen O' d b S w := by
  obtain ⟨R, D, h1, h2⟩ := h
  exact ⟨R, D, fun k hk => h1 k (hO k hk), fun k hk => h2 k (hO k hk)⟩
/-- What was made since is no part of it. -/
theorem Seen.more (h : Seen O d b S w) (hb : Below w.heap.size w w') : Seen (fun k => O k ∨ (w.heap.size ≤ k ∧ k < w'.heap.size)) d b S w' := by
  obtain ⟨R, D, h1, h2⟩ := h
  refine ⟨fun k => R k ∧ k < w.heap.size, (D.mono (fun g hg e => ⟨e, hg⟩)).on hb, ?_, ?_⟩
  · rintro k (hk | hk)
    · exact fun e => h1 k hk e.1
    · exact fun e => by have := e.2; omega
  · rintro k (hk | hk)
    · exact Nat.lt_of_lt_of_le (h2 k hk) hb.size
    · exact hk.2
/-- What the desk does not own has turned, and more was made. -/
theorem Seen.beside {F : Nat → Prop} (h : Seen O d b S w) (hc : Chg F w w') (hF : ∀ k, F k → k < w.heap.size → O k) : Seen (fun k => O k ∨ (w.heap.size ≤ k ∧ k < w'.heap.size)) d b S w' := by
  obtain ⟨R, D, h1, h2⟩ := h
  have D2 : DeskR (fun k => R k ∧ k < w.heap.size) w d b S := D.mono (fun g hg e => ⟨e, hg⟩)
  refine ⟨fun k => R k ∧ k < w.heap.size, D2.apart hc (fun k hk e => h1 k (hF k hk e.2) e.1), ?_, ?_⟩
  · rintro k (hk | hk)
    · exact fun e => h1 k hk e.1
    · exact fun e => by have := e.2; omega
  · rintro k (hk | hk)
    · exact Nat.lt_of_lt_of_le (h2 k hk) hc.size
    · exact hk.2
theorem Seen.set (h : Seen O d b S w) {g i : Nat} (hg : O g) (v : Value) : Seen O d b S (w.setCell ⟨g, i, none⟩ v) := by
  obtain ⟨R, D, h1, h2⟩ := h
  exact ⟨R, D.set (h1 g hg) i v, h1, fun k hk => by simpa [World.setCell] using h2 k hk⟩
theorem stays_set (w : World) {O : Nat → Prop} {g i : Nat} (hg : ¬ O g) (v : Value) : Stays O w (w.setCell ⟨g, i, none⟩ v) := Chg.setCell (Chg.refl _ w) (Or.inr hg) v
theorem Seen.turn (h : Seen O d b S w) {S' : St} (hD : ∀ R, DeskR R w d b S → (∀ k, w.heap.size ≤ k → R k) → DeskR R w' d b S' ∧ Chg R w w') : Seen O d b S' w' ∧ Stays O w w' := by
  obtain ⟨R, D, h1, h2⟩ := h
  have D1 := D.since (Below.refl _ _)
  have hno : ∀ k, O k → ¬ Since R w w k := by
    rintro k hk (e | e)
    · exact h1 k hk e.1
    · have := h2 k hk; omega
  obtain ⟨D2, C2⟩ := hD _ D1 Since.new
  exact ⟨⟨_, D2, hno, fun k hk => Nat.lt_of_lt_of_le (h2 k hk) C2.size⟩, C2.mono (fun k _ e ho => hno k ho e)⟩
theorem take_seen (h : Seen O d b S w) {c : Nat} (hS : Small c S) (hc : c ≤ 30000) (hd : Hd) (hf : Fit hd) :
    Calls Try.prog 17 #[hV hd, dkV d] w fun e w' => e = .returned (takeV (takeM hd S).1) ∧ Seen O d b (takeM hd S).2 w' ∧ Stays O w w' := by
  obtain ⟨R, D, h1, h2⟩ := h
  have D1 := D.since (Below.refl _ _)
  have hno : ∀ k, O k → ¬ Since R w w k := by
    rintro k hk (e | e)
    · exact h1 k hk e.1
    · have := h2 k hk; omega
  refine (take_any D1 Since.new hS (by omega) hd hf).mono ?_
  rintro e w' ⟨rfl, D2, C2⟩
  exact ⟨rfl, ⟨_, D2, hno, fun k hk => Nat.lt_of_lt_of_le (h2 k hk) C2.size⟩, C2.mono (fun k _ e ho => hno k ho e)⟩
theorem give_seen (h : Seen O d b S w) {c : Nat} (hS : Small c S) (hc : c ≤ 30000) (hd : Hd) (hf : Fit hd) (n : Int) :
    Calls Try.prog 19 #[hV hd, dkV d, .int .i64 n] w fun e w' => e = .returned (giveV (giveM hd S n).1) ∧ Seen O d b (giveM hd S n).2 w' ∧ Stays O w w' := by
  obtain ⟨R, D, h1, h2⟩ := h
  have D1 := D.since (Below.refl _ _)
  have hno : ∀ k, O k → ¬ Since R w w k := by
    rintro k hk (e | e)
    · exact h1 k hk e.1
    · have := h2 k hk; omega
  refine (give_any D1 Since.new hS (by omega) hd hf n).mono ?_
  rintro e w' ⟨rfl, D2, C2⟩
  exact ⟨rfl, ⟨_, D2, hno, fun k hk => Nat.lt_of_lt_of_le (h2 k hk) C2.size⟩, C2.mono (fun k _ e ho => hno k ho e)⟩
def St0 : St := ⟨[], -1⟩
set_option maxRecDepth 100000 in
theorem fresh_any (w : World) : Calls Try.prog 15 #[] w fun e w' => e = .returned (ptr (w.heap.size + 1)) ∧ Seen (fun k => k < w.heap.size) (w.heap.size + 1) w.heap.size St0 w' ∧ Below w.heap.size w w' ∧ w'.heap.size = w.heap.size + 2 := by
  have hb := blk_new w (.cells #[nilS, nilS] tBk)
  have e1 : (w.alloc (.cells #[nilS, nilS] tBk)).heap.size = w.heap.size + 1 := by simp
  have hd := blk_new (w.alloc (.cells #[nilS, nilS] tBk)) (.cells #[ptr w.heap.size, .int .i64 (-1)] tDk)
  rw [e1] at hd
  have hb2 := blk_alloc hb (.cells #[ptr w.heap.size, .int .i64 (-1)] tDk)
  have HD : Hid (DeskR (fun k => w.heap.size ≤ k) ((w.alloc (.cells #[nilS, nilS] tBk)).alloc (.cells #[ptr w.heap.size, .int .i64 (-1)] tDk)) (w.heap.size + 1) w.heap.size St0) := by
    refine hid ⟨hd, Nat.le_succ _, nilS, nilS, hb2, ⟨Nat.le_refl _, by omega⟩, ⟨World.ownsRow_nil _ 0 tI 1, fun g hg => by simp [Value.ownBlock] at hg⟩, ⟨World.ownsRow_nil _ 0 tS 1, fun g hg => by simp [Value.ownBlock] at hg⟩⟩
  have HB := hid (((Below.refl w.heap.size w).alloc (Nat.le_refl _) (.cells #[nilS, nilS] tBk)).alloc (by simp) (.cells #[ptr w.heap.size, .int .i64 (-1)] tDk))
  clear hb hd hb2 e1
  go_enter Try.func15, Try.ntmps15
  go_wp2
  go_ret
  exact ⟨rfl, ⟨_, HD.out, fun k hk e => by omega, fun k hk => by simp; omega⟩, HB.out, by simp⟩
end Sp
end Go.Proofs.Ytkoglikaaehhjaa
