/-
  A builder that the call made, and a row of ints beside it: what stays of the one while the other turns.
-/
import Derived.Test.YtkoglikaaehhjaaGreatDoorChainMath
import Derived.Test.YtkoglikaaehhjaaGreatDoorChainShelf
import Derived.Test.YtkoglikaaehhjaaGreatDoorSpareBld
import Derived.Test.YtkoglikaaehhjaaGreatDoorShelfLab
import Derived.Shelf.Strings.BuilderF
namespace Go.Proofs.YtkoglikaaehhjaaGreatDoor
open Go.RowKit Go.Shelf
namespace Ch
open Num (hid)
open Mem (Bs bs ptr Chg tI tIs)
open Sp (FB tBld tU8)
open Sh (ShL St Two Own)
theorem flen_any (b : Nat) (l : Bs) (w : World) (h : FB b l w) : Calls Tryz.prog 46 #[ptr b] w fun e w' => e = .returned (.int .i64 (l.length : Int)) ∧ w = w' := by
  refine (Any.Builder_Len_f Tryz.lenL b b (Lib.byteCells l) w h).mono ?_
  rintro e w' ⟨rfl, rfl⟩
  rw [Lib.byteCells_length]
  exact ⟨rfl, rfl⟩
theorem fendk_any (b : Nat) (l : Bs) (w : World) (h : FB b l w) (hb : b ≤ w.heap.size) :
    Calls Tryz.prog 49 #[ptr b] w fun e w' => e = .returned (.string (bs l)) ∧ FB b l w' ∧ Below b w w' ∧ Lib.OthersKept tU8 (some b) w w' := by
  have hL : Lays.n169 Tryz.prog Sp.Tryz.repeatH_ren := { Sp.Tryz.repeatH with }
  refine (Any.Builder_String_any_k hL Sp.extra b b l w h hb).mono ?_
  rintro e w' ⟨rfl, h1, h2, h3⟩
  exact ⟨rfl, h1, h2, h3⟩
variable {b : Nat} {l : Bs} {w w' : World} {F : Nat → Prop}
theorem fown_apart {base : Nat} {v : Value} {n : Nat} {xs : List Value} (h : w.ownsRowF base tU8 1 v n xs) (hc : Chg F w w') (hF : ∀ k cur fz, base ≤ k → w.heap[k]? = some (.cells cur tU8 fz) → ¬ F k) : w'.ownsRowF base tU8 1 v n xs := by
  obtain ⟨h1, h2⟩ := h
  refine ⟨h1, ?_⟩
  rcases h2 with h2 | ⟨g, cap, cur, fz, e1, e2, e3, e4⟩
  · exact Or.inl h2
  · exact Or.inr ⟨g, cap, cur, fz, e1, e2, hc.at e3 (hF g cur fz e2 e3), e4⟩
theorem fbat_apart {p : Value} {xs : List Value} (h : Lib.BuilderAtF tBld tU8 b b p xs w) (hc : Chg F w w') (hb : ¬ F b) (hF : ∀ k cur fz, b ≤ k → w.heap[k]? = some (.cells cur tU8 fz) → ¬ F k) : Lib.BuilderAtF tBld tU8 b b p xs w' := by
  obtain ⟨h1, v, h2, h3, h4⟩ := h
  exact ⟨h1, v, hc.at h2 hb, fown_apart h3 hc hF, h4⟩
theorem fb_apart (h : FB b l w) (hc : Chg F w w') (hb : ¬ F b) (hF : ∀ k cur fz, b ≤ k → w.heap[k]? = some (.cells cur tU8 fz) → ¬ F k) : FB b l w' :=
  h.elim (fun h => Or.inl (fbat_apart h hc hb hF)) (fun h => Or.inr (fbat_apart h hc hb hF))
theorem fb_type (h : FB b l w) : ∃ cs, w.heap[b]? = some (.cells cs tBld (0, 0)) := by
  rcases h with ⟨_, v, h, _⟩ | ⟨_, v, h, _⟩
  · exact ⟨_, h⟩
  · exact ⟨_, h⟩
theorem fb_lt (h : FB b l w) : b < w.heap.size := by
  obtain ⟨cs, h⟩ := fb_type h
  exact lt_of_block h
theorem kept_blk {g : Nat} {cs : Array Value} {t : TypeId} (h : Lib.OthersKept tU8 (some b) w w') (hx : w.heap[g]? = some (.cells cs t (0, 0))) (hne : g ≠ b) (ht : t ≠ tU8) : w'.heap[g]? = some (.cells cs t (0, 0)) := by
  refine h g _ hx (by simpa using hne) ?_
  intro c fz e
  simp only [Obj.cells.injEq] at e
  exact absurd e.2.1 ht
/-- A row of ints stays while a builder turns. -/
theorem own_kept {s d N : Nat} {v : Value} {n : Nat} {xs : List Value} (o : Own s d N tI w v n xs) (hk : Lib.OthersKept tU8 (some b) w w') (ht : ∃ cs, w.heap[b]? = some (.cells cs tBld (0, 0))) : Own s d N tI w' v n xs := by
  obtain ⟨⟨h1, h2⟩, h3⟩ := o
  refine ⟨⟨h1, ?_⟩, h3⟩
  rcases h2 with h2 | ⟨g, cap, cur, hv, hg, hh, r⟩
  · exact Or.inl h2
  · refine Or.inr ⟨g, cap, cur, hv, hg, ?_, r⟩
    refine kept_blk hk hh ?_ (by decide)
    rintro rfl
    obtain ⟨cs, hc⟩ := ht
    rw [hh] at hc
    simp only [Option.some.injEq, Obj.cells.injEq] at hc
    exact absurd hc.2.1 (by decide)
/-- What gone through carries: the shelf, a row of pages, a builder, a cell's box. -/
structure Rd (s d N cnt : Nat) (lim : Int) (h : Sp.Hd) (arm : Int) (S : St) (w0 : World) (base b bc : Nat) (c : No.C) (v : Value) (pg : List Int) (l : Bs) (w : World) : Prop where
  sh : ShL s d N cnt lim h arm S w0 w
  own : Own s d N tI w v pg.length (pg.map (Value.int .i64))
  new : ∀ g, v.ownBlock = some g → base ≤ g
  fb : FB b l w
  box : w.heap[bc]? = some (.cells #[.int .i64 c.z, .string (bs c.d), .int .i64 c.p] 24 (0, 0))
  ap : (s ≠ bc ∧ d ≠ bc ∧ s < b ∧ d < b ∧ bc < b) ∧ base ≤ bc ∧ N ≤ base ∧ s < base ∧ d < base
variable {s d N cnt : Nat} {lim : Int} {h h' : Sp.Hd} {arm arm' : Int} {S S' : St} {w0 : World} {base bc : Nat} {c : No.C} {v : Value} {pg : List Int}
theorem Rd.on (r : Rd s d N cnt lim h arm S w0 base b bc c v pg l w) (hb : Below w.heap.size w w') : Rd s d N cnt lim h arm S w0 base b bc c v pg l w' :=
  ⟨r.sh.kept hb, r.own.on hb, r.new, r.fb.on hb, (hb.block _ (lt_of_block r.box)).trans r.box, r.ap⟩
theorem Rd.cells (r : Rd s d N cnt lim h arm S w0 base b bc c v pg l w) : w.cell? ⟨bc, 0, none⟩ = some (.int .i64 c.z) ∧ w.cell? ⟨bc, 1, none⟩ = some (.string (bs c.d)) ∧ w.cell? ⟨bc, 2, none⟩ = some (.int .i64 c.p) :=
  ⟨Mem.blk_cell r.box 0, Mem.blk_cell r.box 1, Mem.blk_cell r.box 2⟩
/-- The shelf was asked. -/
theorem Rd.asked (r : Rd s d N cnt lim h arm S w0 base b bc c v pg l w) (k : ShL s d N cnt lim h' arm' S' w0 w') (hc : Chg (Two s d) w w') : Rd s d N cnt lim h' arm' S' w0 base b bc c v pg l w' := by
  have ha := r.ap
  refine ⟨k, r.own.turned hc, r.new, fb_apart r.fb hc (fun e => ?_) (fun k cur fz hk _ e => ?_), hc.at r.box (fun e => ?_), ha⟩
  · rcases e with e | e <;> omega
  · rcases e with e | e <;> omega
  · rcases e with e | e <;> omega
/-- The builder has turned. -/
theorem Rd.wrote {l' : Bs} (r : Rd s d N cnt lim h arm S w0 base b bc c v pg l w) (hf : FB b l' w') (hb : Below b w w') (hk : Lib.OthersKept tU8 (some b) w w') : Rd s d N cnt lim h arm S w0 base b bc c v pg l' w' := by
  have ha := r.ap
  refine ⟨?_, own_kept r.own hk (fb_type r.fb), r.new, hf, (hb.block _ ha.1.2.2.2.2).trans r.box, ha⟩
  have hc : Chg (fun k => b ≤ k ∧ k < w'.heap.size) w w' := ⟨hb.os, hb.tape, hb.output, hb.size, fun k hk hn => by
    rcases Nat.lt_or_ge k b with h1 | h1
    · exact hb.block k h1
    · exact absurd ⟨h1, Nat.lt_of_lt_of_le hk hb.size⟩ hn⟩
  exact r.sh.beside hc (fun g hg => ⟨by omega, by omega, by omega⟩)
/-- A page more. -/
theorem Rd.push (r : Rd s d N cnt lim h arm S w0 base b bc c v pg l w) (y : Int) (hn : pg.length ≤ 1000) :
    ∃ v' w', (Builtin.append_ #[tIs, tIs] tIs #[v, .slice (some ⟨w.heap.size, 0, none⟩) 1 1]).run Tryz.prog (w.alloc (.cells #[.int .i64 y] tI)) = .ok v' w' ∧ Rd s d N cnt lim h arm S w0 base b bc c v' (pg ++ [y]) l w' := by
  obtain ⟨v', w', hr, ho, hc, hk⟩ := Mem.push_int r.own.row y (by omega)
  have ha := r.ap
  refine ⟨v', w', hr, r.sh.beside hc r.own.own, ?_, fun g hg => ?_, fb_apart r.fb hc (fun e => ?_) (fun k cur fz _ h1 e => ?_), hc.at r.box (fun e => ?_), ha⟩
  · have := Own.grown r.own r.sh ho hk
    rw [List.length_append, List.map_append]
    exact this
  · rcases hk g hg with h1 | h1
    · exact r.new g h1
    · have := lt_of_block r.box
      omega
  · obtain ⟨cur, h1⟩ := Mem.row_type r.own.row e
    obtain ⟨cs, h2⟩ := fb_type r.fb
    rw [h1] at h2
    simp only [Option.some.injEq, Obj.cells.injEq] at h2
    exact absurd h2.2.1 (by decide)
  · obtain ⟨cur2, h2⟩ := Mem.row_type r.own.row e
    rw [h1] at h2
    simp only [Option.some.injEq, Obj.cells.injEq] at h2
    exact absurd h2.2.1 (by decide)
  · obtain ⟨cur, h1⟩ := Mem.row_type r.own.row e
    have h2 := r.box
    rw [h1] at h2
    simp only [Option.some.injEq, Obj.cells.injEq] at h2
    exact absurd h2.2.1 (by decide)
theorem chg_up {B : Nat} (hb : Below B w w') : Chg (fun k => B ≤ k) w w' := ⟨hb.os, hb.tape, hb.output, hb.size, fun k _ hn => hb.block k (by omega)⟩
/-- What an append to a row of ints turns: that row. -/
theorem push_chg {s d N base : Nat} {v v' : Value} {w1 : World} {n : Nat} {xs : List Value} {y : Int} (o : Own s d N tI w v n xs) (hn : n ≤ 1000) (hnew : ∀ g, v.ownBlock = some g → base ≤ g) (hr : (Builtin.append_ #[tIs, tIs] tIs #[v, .slice (some ⟨w.heap.size, 0, none⟩) 1 1]).run Tryz.prog (w.alloc (.cells #[.int .i64 y] tI)) = .ok v' w1) : Chg (fun k => base ≤ k) w w1 := by
  obtain ⟨v2, w2, hr2, -, hc, -⟩ := Mem.push_int o.row y (by omega)
  rw [hr] at hr2
  cases hr2
  exact hc.mono (fun k _ e => hnew k e)
end Ch
end Go.Proofs.YtkoglikaaehhjaaGreatDoor
