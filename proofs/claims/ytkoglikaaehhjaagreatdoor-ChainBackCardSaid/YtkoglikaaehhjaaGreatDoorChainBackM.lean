/-
  ChainBack: many values on one shelf, and the row of their cells.
-/
import Derived.Test.YtkoglikaaehhjaaGreatDoorChainFailsW
import Derived.Deep.RegionHeld3
namespace Go.Proofs.YtkoglikaaehhjaaGreatDoor
open Go.RowKit
namespace Ch
open Num (hid)
open Mem (Bs bs ptr Chg tI tIs)
open Sp (Hd)
open Sh (ShL St Inv Two)
/-- Cells that stand for the first values, each with its pages. -/
structure Many (f : Pf) (U : List Int) (l : List Bs) (cl : List No.C) (pss : List (List Int)) : Prop where
  ln : cl.length = pss.length
  cell : ∀ j (hc : j < cl.length) (hp : j < pss.length) (hl : j < l.length), CellOf f cl[j] l[j] pss[j]
  sub : ∀ j (hp : j < pss.length), ∀ x ∈ pss[j], x ∈ U
  ap : ∀ j k (hj : j < pss.length) (hk : k < pss.length), j ≠ k → ∀ x ∈ pss[j], x ∉ pss[k]
  nd : ∀ j (hp : j < pss.length), pss[j].Nodup
theorem Many.nil (f : Pf) (l : List Bs) : Many f [] l [] [] := ⟨rfl, fun j h => by simp at h, fun j h => by simp at h, fun j k h => by simp at h, fun j h => by simp at h⟩
theorem Many.push {f g : Pf} {U : List Int} {l : List Bs} {cl : List No.C} {pss : List (List Int)} (m : Many f U l cl pss) {c : No.C} {ps : List Int} (hi : cl.length < l.length) (hc : CellOf g c l[cl.length] ps) (hs : ∀ x ∈ U, g x = f x) {h : Hd} {S : St} {F : List Int} (inv : Inv h S (U ++ ps.reverse) F) :
    Many g (U ++ ps.reverse) l (cl ++ [c]) (pss ++ [ps]) := by
  have hln := m.ln
  have hdis : ∀ x ∈ U, x ∉ ps := fun x hx e => by
    have h1 := inv.nd
    rw [List.nodup_append, List.nodup_append] at h1
    exact h1.1.2.2 x hx x (by simpa using e) rfl
  refine ⟨by simp [hln], fun j hc' hp hl => ?_, fun j hp x hx => ?_, fun j k hj hk hne x hx hx2 => ?_, fun j hp => ?_⟩
  · by_cases hj : j < cl.length
    · rw [List.getElem_append_left hj, List.getElem_append_left (by omega)]
      exact (m.cell j hj (by omega) hl).same (fun x hx => hs x (m.sub j (by omega) x hx))
    · have e : j = cl.length := by simp at hc'; omega
      subst e
      rw [List.getElem_append_right (Nat.le_refl _), List.getElem_append_right (by omega)]
      simpa [hln] using hc
  · by_cases hj : j < pss.length
    · rw [List.getElem_append_left hj] at hx
      exact List.mem_append_left _ (m.sub j hj x hx)
    · rw [List.getElem_append_right (by omega)] at hx
      simp at hx
      exact List.mem_append_right _ (by simpa using hx)
  · simp only [List.length_append, List.length_singleton] at hj hk
    by_cases h1 : j < pss.length
    · rw [List.getElem_append_left h1] at hx
      by_cases h2 : k < pss.length
      · rw [List.getElem_append_left h2] at hx2
        exact m.ap j k h1 h2 hne x hx hx2
      · rw [List.getElem_append_right (by omega)] at hx2
        simp at hx2
        exact hdis x (m.sub j h1 x hx) hx2
    · rw [List.getElem_append_right (by omega)] at hx
      simp at hx
      by_cases h2 : k < pss.length
      · rw [List.getElem_append_left h2] at hx2
        exact hdis x (m.sub k h2 x hx2) hx
      · omega
  · by_cases hj : j < pss.length
    · rw [List.getElem_append_left hj]
      exact m.nd j hj
    · rw [List.getElem_append_right (by omega)]
      simp only [List.getElem_singleton]
      exact inv_nodup inv
/-! ### the row of cells -/
abbrev tCs : TypeId := 56
def cvs (c : No.C) : List Value := [.int .i64 c.z, .string (bs c.d), .int .i64 c.p]
theorem cvs_len (c : No.C) : (cvs c).length = 3 := rfl
structure Cs (s d N : Nat) (w : World) (v : Value) (cl : List No.C) : Prop where
  row : w.ownsRow 0 tC 3 v cl.length (cl.flatMap cvs)
  own : ∀ g, v.ownBlock = some g → N ≤ g ∧ g ≠ s ∧ g ≠ d
variable {s d N cnt : Nat} {lim : Int} {h : Hd} {arm : Int} {S : St} {w0 w w' : World} {v : Value} {cl : List No.C}
theorem Cs.on (o : Cs s d N w v cl) (hb : Below w.heap.size w w') : Cs s d N w' v cl := ⟨Mem.row_kept o.row (Chg.of_below (F := fun _ => False) hb) (fun _ _ h => h), o.own⟩
theorem Cs.turned (o : Cs s d N w v cl) (hc : Chg (Two s d) w w') : Cs s d N w' v cl := ⟨Mem.row_kept o.row hc (fun g hg e => by have := o.own g hg; rcases e with e | e <;> omega), o.own⟩
theorem Cs.start (k : ShL s d N cnt lim h arm S w0 w) : Cs s d N (w.alloc (.cells #[] tC)) (.slice (some ⟨w.heap.size, 0, none⟩) 0 0) [] := by
  refine ⟨⟨rfl, .inr ⟨w.heap.size, 0, #[], rfl, Nat.zero_le _, Mem.blk_new _ _, Nat.le_refl _, Nat.zero_le _, rfl, rfl⟩⟩, fun g hg => ?_⟩
  have h1 := k.at'.lt
  have h2 := k.size
  have h3 : w.heap.size = g := by simpa [Value.ownBlock] using hg
  omega
theorem Cs.cells (o : Cs s d N w v cl) : ∃ ao cap, v = .slice ao cl.length cap ∧ ∀ j (hj : j < cl.length), ∃ g, ao = some ⟨g, 0, none⟩ ∧ g < w.heap.size ∧ w.cell? ⟨g, j * 3, none⟩ = some (.int .i64 cl[j].z) ∧ w.cell? ⟨g, j * 3 + 1, none⟩ = some (.string (bs cl[j].d)) ∧ w.cell? ⟨g, j * 3 + 2, none⟩ = some (.int .i64 cl[j].p) := by
  rcases o.row.2 with ⟨hv, hn⟩ | ⟨g, cap, cur, hv, _, hg, _⟩
  · exact ⟨none, 0, by rw [hv, hn], fun j hj => by omega⟩
  · refine ⟨_, cap, hv, fun j hj => ⟨g, rfl, lt_of_block hg, ?_⟩⟩
    have row := o.row
    rw [hv] at row
    have key : ∀ i (hi : i < 3), w.cell? ⟨g, j * 3 + i, none⟩ = (cvs cl[j])[i]? := fun i hi => by
      rw [row.cellAt (j * 3 + i) (by omega)]
      exact Mem.flat_at cvs_len cl j hj i hi
    exact ⟨key 0 (by decide), key 1 (by decide), key 2 (by decide)⟩
theorem Cs.at {g n cap : Nat} (o : Cs s d N w (.slice (some ⟨g, 0, none⟩) n cap) cl) {j : Nat} (hj : j < cl.length) : g < w.heap.size ∧ w.cell? ⟨g, j * 3, none⟩ = some (.int .i64 cl[j].z) ∧ w.cell? ⟨g, j * 3 + 1, none⟩ = some (.string (bs cl[j].d)) ∧ w.cell? ⟨g, j * 3 + 2, none⟩ = some (.int .i64 cl[j].p) := by
  obtain ⟨ao, cap', e, h⟩ := o.cells
  obtain ⟨g', rfl, h1, h2⟩ := h j hj
  simp only [Value.slice.injEq, Option.some.injEq, Addr.mk.injEq, and_true] at e
  obtain ⟨rfl, -, -⟩ := e
  exact ⟨h1, h2⟩
/-- What the cell's load, and the head's, hold. -/
def Hold (g gh k : Nat) (c : No.C) (h : Hd) (W : World) : Prop := (W.cell? ⟨g, k * 3, none⟩ = some (.int .i64 c.z) ∧ W.cell? ⟨g, k * 3 + 1, none⟩ = some (.string (bs c.d)) ∧ W.cell? ⟨g, k * 3 + 2, none⟩ = some (.int .i64 c.p)) ∧ W.cell? ⟨gh, 1, none⟩ = some (.int .i64 h.pages) ∧ W.cell? ⟨gh, 3, none⟩ = some (.int .i64 h.spare)
theorem infoC : (Tryz.prog.info? tC).map (fun i => (i.zero, i.size, i.bytes)) = some (some (.agg #[.int .i64 0, .string ⟨#[]⟩, .int .i64 0]), 3, 32) := by kernel_rfl
/-- A cell more. -/
theorem Cs.push (o : Cs s d N w v cl) (k : ShL s d N cnt lim h arm S w0 w) (c : No.C) (hn : cl.length ≤ 1000) :
    ∃ v' w', (Builtin.append_ #[tCs, tCs] tCs #[v, .slice (some ⟨w.heap.size, 0, none⟩) 1 1]).run Tryz.prog (w.alloc (cO c)) = .ok v' w' ∧ Cs s d N w' v' (cl ++ [c]) ∧ ShL s d N cnt lim h arm S w0 w' := by
  obtain ⟨i, hi, h0, h1, h2⟩ := info_parts infoC
  have hb : Below w.heap.size w (w.alloc (cO c)) := (Below.refl _ w).alloc (Nat.le_refl _) _
  have k1 := k.kept hb
  obtain ⟨v', w', hr, ho, hc, hk⟩ := Mem.append_from tCs tC i _ 3 32 Tryz.underlying56 hi h0 h1 h2 rfl (by decide) (by decide) (o.on hb).row (b := w.heap.size) (o := 0) (m := 1) (c := 1) (ys := cvs c) rfl (fun j hj => by
    rw [Nat.zero_add]
    rw [Mem.blk_cell (Mem.blk_new w (cO c)) j]
    have hj3 : j = 0 ∨ j = 1 ∨ j = 2 := by rw [cvs_len] at hj; omega
    rcases hj3 with rfl | rfl | rfl <;> rfl) (fun u hu => by
    simp only [cvs, List.mem_cons, List.not_mem_nil, or_false] at hu
    rcases hu with rfl | rfl | rfl <;> rfl) (by omega)
  refine ⟨v', w', hr, ⟨?_, fun g hg => ?_⟩, k1.beside hc o.own⟩
  · rw [List.length_append, List.flatMap_append]
    simpa using ho
  · rcases hk g hg with h3 | h3
    · exact o.own g h3
    · have h4 := k1.at'.lt
      have h5 := k1.size
      omega
/-- What the second half carries: the shelf, the cells, the box of the head. -/
structure B2 (s d : Nat) (w wr : World) (gc n cap gh cnt : Nat) (cl : List No.C) (hh h : Hd) (S : St) : Prop where
  sh : ShL s d w.heap.size cnt 300 h 0 S w wr
  cs : Cs s d w.heap.size wr (.slice (some ⟨gc, 0, none⟩) n cap) cl
  hb : Sp.Hb gh hh wr
  ne : gh ≠ s ∧ gh ≠ d
theorem B2.on {wr wr' : World} {gc n cap gh : Nat} {hh : Hd} (b : B2 s d w wr gc n cap gh cnt cl hh h S) (hb : Below wr.heap.size wr wr') : B2 s d w wr' gc n cap gh cnt cl hh h S := ⟨b.sh.kept hb, b.cs.on hb, b.hb.on hb, b.ne⟩
theorem B2.turned {wr wr' : World} {gc n cap gh cnt' : Nat} {hh h' : Hd} {S' : St} (b : B2 s d w wr gc n cap gh cnt cl hh h S) (k : ShL s d w.heap.size cnt' 300 h' 0 S' w wr') (hc : Chg (Two s d) wr wr') : B2 s d w wr' gc n cap gh cnt' cl hh h' S' :=
  ⟨k, b.cs.turned hc, b.hb.at hc (fun e => by rcases e with e | e; exact b.ne.1 e; exact b.ne.2 e), b.ne⟩
theorem B2.hold {wr : World} {gc n cap gh : Nat} {hh : Hd} (b : B2 s d w wr gc n cap gh cnt cl hh h S) {j : Nat} (hj : j < cl.length) {c : No.C} (hc : cl[j] = c) :
    (wr.cell? ⟨gc, j * 3, none⟩ = some (.int .i64 c.z) ∧ wr.cell? ⟨gc, j * 3 + 1, none⟩ = some (.string (bs c.d)) ∧ wr.cell? ⟨gc, j * 3 + 2, none⟩ = some (.int .i64 c.p)) ∧ wr.cell? ⟨gh, 1, none⟩ = some (.int .i64 hh.pages) ∧ wr.cell? ⟨gh, 3, none⟩ = some (.int .i64 hh.spare) := by
  subst hc
  obtain ⟨-, h1⟩ := b.cs.at hj
  obtain ⟨-, g1, -, g3, -, -⟩ := b.hb.cells
  exact ⟨h1, g1, g3⟩
/-- Of the others nothing has turned. -/
theorem Many.freed {f : Pf} {U F : List Int} {l : List Bs} {cl : List No.C} {pss : List (List Int)} (m : Many f U l cl pss) {h' : Hd} {S S' : St} (hf : f = S.f) {k : Nat} (hk : k < pss.length) {U' F' : List Int} (fr : Freed h S U F pss[k] pss[k].length h' S' U' F') {j : Nat} (hj : j < cl.length) (hl : j < l.length) (hne : j ≠ k) : ∃ ps, CellOf S'.f cl[j] l[j] ps := by
  have hjp : j < pss.length := by have := m.ln; omega
  refine ⟨pss[j], ?_⟩
  refine (m.cell j hj hjp hl).same (fun x hx => ?_)
  rw [(fr.st x (m.sub j hjp x hx) (by rw [List.take_length]; exact m.ap j k hjp hk hne x hx)).2, hf]
end Ch
end Go.Proofs.YtkoglikaaehhjaaGreatDoor
