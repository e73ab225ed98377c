/-
  What the walk of JournalFinds carries: a journal, a disk, a row of pages of the walk's own.
-/
import Derived.Test.YtpdpjgeoclilhaaGrpFA
import Derived.Test.YtpdpjgeoclilhaaJouSame
import Derived.Test.YtpdpjgeoclilhaaJouAwake
namespace Go.Proofs.Ytpdpjgeoclilhaa
open Go.RowKit Go.Shelf
namespace Jo
open Num (hid)
open Disk (Mod Fil Plc Sees Stays Ctl)
open Mem (Bs bs tS Chg LAt ptr blk_cell blk_free blk_new blk_set blk_other blk_alloc row_kept row_shape row_type)

/-- A change that came in: a page, a byte, whether a seal follows. -/
structure ChC where
  n : Int
  f : UInt8
  s : Bool
abbrev chV (x : ChC) : List Value := [.int .i64 x.n, .int .u8 (x.f.toNat : Int), .bool x.s]
/-- A number by a number. -/
def remN (x : Int) (q : Nat) : Nat := ((x % 18446744073709551616) % (q : Int)).toNat
theorem remN_lt (x : Int) (q : Nat) (hq : 0 < q) : remN x q < q := by
  unfold remN
  have h1 := Int.emod_lt_of_pos (x % 18446744073709551616) (show (0 : Int) < q from by omega)
  have h2 := Int.emod_nonneg (x % 18446744073709551616) (show (q : Int) ≠ 0 from by omega)
  omega
theorem remN_is (x : Int) (q : Nat) (hq : 0 < q ∧ q ≤ 1000) : wrap64 ((IntKind.u64.wrap x).tmod (q : Int)) = ((remN x q : Nat) : Int) := by
  have h1 := Int.emod_lt_of_pos (x % 18446744073709551616) (show (0 : Int) < q from by omega)
  have h2 := Int.emod_nonneg (x % 18446744073709551616) (show (q : Int) ≠ 0 from by omega)
  have h3 : IntKind.u64.wrap x = x % 18446744073709551616 := Num.wrap_u _
  have h4 : 0 ≤ x % 18446744073709551616 := Int.emod_nonneg _ (by decide)
  rw [h3, Int.tmod_eq_emod_of_nonneg h4, Num.wrap_i]
  unfold remN
  omega
/-- The others: what is old, and the row. -/
abbrev Ow (w0 : World) (v : Value) : Nat → Prop := fun q => q < w0.heap.size ∨ v.ownBlock = some q
structure FdV (w0 : World) (d m j b P : Nat) (M : Mod) (J : Jou) (l : List Rec) (v : Value) (wr : World) : Prop where
  js : JS (Ow w0 v) d m j b P 5 M J wr
  row : wr.ownsRow 0 tPg 2 v l.length (l.flatMap pV)
  vl : ∀ g, v.ownBlock = some g → w0.heap.size ≤ g
  below : Below w0.heap.size w0 wr
variable {w0 wr w2 : World} {d m j b P c : Nat} {M M' : Mod} {J J' : Jou} {l l' : List Rec} {k k' : Nat} {v : Value}
theorem FdV.on (h : FdV w0 d m j b P M J l v wr) (hb : Below wr.heap.size wr w2) : FdV w0 d m j b P M J l v w2 :=
  ⟨h.js.on hb, row_kept h.row (F := fun _ => False) (Chg.of_below hb) (fun _ _ x => x), h.vl, h.below.trans (hb.mono h.below.size)⟩
theorem ow_below {A B : World} (h : Stays (Ow w0 v) A B) (hN : w0.heap.size ≤ A.heap.size) : Below w0.heap.size A B := Disk.Chg.below h hN (fun _ hk hx => hx (Or.inl hk))
/-- Behind a call of the journal's. -/
theorem FdV.to (h : FdV w0 d m j b P M J l v wr) (h1 : JS (Ow w0 v) d m j b P 5 M' J' w2) (h2 : Stays (Ow w0 v) wr w2) : FdV w0 d m j b P M' J' l v w2 :=
  ⟨h1, row_kept h.row (F := fun k => ¬ Ow w0 v k) (toMem h2) (fun _ hg hx => hx (Or.inr hg)), h.vl, h.below.trans (ow_below h2 h.below.size)⟩
/-- Where the others' blocks turn, and new ones come. -/
theorem JS.grow {O O' F : Nat → Prop} {P salt : Nat} (h : JS O d m j b P salt M J wr) (hc : Chg F wr w2) (hF : ∀ q, F q → O q) (hO : ∀ q, O' q → O q ∨ (wr.heap.size ≤ q ∧ q < w2.heap.size)) : JS O' d m j b P salt M J w2 := by
  have hj := lt_of_block h.box
  have hb := h.set.lt
  refine ⟨(sees_beside h.disk hc (fun q hq _ => Or.inl (hF q hq))).fewer ?_, hc.at h.box (fun x => h.oj (hF _ x)), h.set.apart (toDisk hc) (fun x => h.ob (hF _ x)), h.ne, fun hx => ?_, fun hx => ?_⟩
  · rintro q (hq | hq | hq)
    · rcases hO q hq with e | e
      · exact Or.inl (Or.inl e)
      · exact Or.inr e
    · exact Or.inl (Or.inr (Or.inl hq))
    · exact Or.inl (Or.inr (Or.inr hq))
  · rcases hO _ hx with e | ⟨e, _⟩
    · exact h.oj e
    · omega
  · rcases hO _ hx with e | ⟨e, _⟩
    · exact h.ob e
    · omega
/-- One page more in the row. -/
theorem FdV.push {v' : Value} {x : Rec} (h : FdV w0 d m j b P M J l v wr) (ho : w2.ownsRow 0 tPg 2 v' (l ++ [x]).length ((l ++ [x]).flatMap pV)) (hc : Chg (fun q => v.ownBlock = some q) wr w2) (hk : ∀ q, v'.ownBlock = some q → v.ownBlock = some q ∨ wr.heap.size ≤ q) : FdV w0 d m j b P M J (l ++ [x]) v' w2 := by
  have hN := h.below.size
  refine ⟨h.js.grow hc (fun q hq => Or.inr hq) (fun q hq => ?_), ho, fun g hg => ?_, h.below.trans (Disk.Chg.below (toDisk hc) hN (fun q hq hv => ?_))⟩
  · rcases hq with hq | hq
    · exact Or.inl (Or.inl hq)
    · rcases hk q hq with e | e
      · exact Or.inl (Or.inr e)
      · exact Or.inr ⟨e, (ho.lt q hq).2⟩
  · rcases hk g hg with e | e
    · exact h.vl g e
    · omega
  · have := h.vl q hv
    omega
/-- A row of nothing. -/
theorem row_none (w : World) (t : TypeId) : (w.alloc (.cells #[] t)).ownsRow 0 t 2 (.slice (some ⟨w.heap.size, 0, none⟩) 0 0) 0 [] := by
  exact ⟨rfl, Or.inr ⟨w.heap.size, 0, #[], rfl, Nat.zero_le _, blk_new w _, Nat.le_refl _, Nat.zero_le _, rfl, rfl⟩⟩
theorem fdv_start {w0 w : World} (h : JS (Bl w0.heap.size) d m j b P 5 M J w) (hb : Below w0.heap.size w0 w) : FdV w0 d m j b P M J [] (.slice (some ⟨w.heap.size, 0, none⟩) 0 0) (w.alloc (.cells #[] tPg)) := by
  have hN := hb.size
  have hb2 : Below w.heap.size w (w.alloc (.cells #[] tPg)) := (Below.refl _ _).alloc (Nat.le_refl _) _
  refine ⟨h.grow (F := fun _ => False) (Chg.of_below hb2) (fun _ x => x.elim) (fun q hq => ?_), row_none w tPg, fun g hg => ?_, hb.trans (hb2.mono hN)⟩
  · rcases hq with hq | hq
    · exact Or.inl hq
    · have e : w.heap.size = q := by injection hq
      right
      subst e
      simp
  · have e : w.heap.size = g := by injection hg
    omega
end Jo
end Go.Proofs.Ytpdpjgeoclilhaa
