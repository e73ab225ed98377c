/-
  What JournalFinds's row gives: a row of changes.
-/
import Derived.Test.YtpdpjgeoclilhaaOpen
import Derived.Test.YtpdpjgeoclilhaaJouFdW
namespace Go.Proofs.Ytpdpjgeoclilhaa
open Go.ChangeShapes Go.WideShapes Go.ChangeAt Go.RowKit Go.Joins Go.Deep
namespace Jo
open Mem (Bs bs LAt)
abbrev tB : TypeId := 4
abbrev tY : TypeId := 5
abbrev tCh : TypeId := 34
abbrev tChs : TypeId := 22
theorem cellsI : Try.prog.cellsOf tI = 1 := by kernel_rfl
theorem cellsB : Try.prog.cellsOf tB = 1 := by kernel_rfl
theorem cellsY : Try.prog.cellsOf tY = 1 := by kernel_rfl
theorem cellsCh : Try.prog.cellsOf tCh = 3 := by kernel_rfl
theorem bytesCh : 0 < Try.prog.bytesOf tCh := of_decide_eq_true (by kernel_rfl)
section
variable {H : Type} {enc : TypeId × Value → H} {W : World} {b0 : Nat} {held : Bool} {r : Reach}
theorem u8_of {z : Int} (h : (Lit.int .u8 z).wf = true) : ∃ b : UInt8, z = (b.toNat : Int) := by
  have hb : 0 ≤ z ∧ z ≤ 255 := by simpa [Lit.wf, IntKind.min, IntKind.max, IntKind.signed, IntKind.bits] using h
  refine ⟨UInt8.ofNat z.toNat, ?_⟩
  rw [u8_nat (by omega)]
  omega
set_option maxRecDepth 100000 in
theorem change_el (n : Nat) (cs : List Value) (x : DataW H × List MemPlace) (h : DataW.trod enc Try.prog W 0 (fun _ => true) held n tCh cs = some x) (_hz : ∀ m ∈ x.1.weights Try.prog tCh, m ≤ reachBytes) : ∃ a : ChC, cs = chV a ∧ (chV a).length = 3 ∧ True := by
  obtain ⟨ys, k, _, hx, hlen, hyl, hf⟩ := DataW.trod_struct Try.underlying34 h
  rw [cellsCh] at hlen
  match cs, hlen with
  | [c0, c1, c2], _ =>
    match ys, hyl, hf, hx with
    | [y0, y1, y2], _, hf, hx =>
      have e0 : DataW.trod enc Try.prog W 0 (fun _ => true) held k tI [c0] = some y0 := by
        have e : DataW.trod enc Try.prog W 0 (fun _ => true) held k tI (List.take (Try.prog.cellsOf tI) (List.drop 0 [c0, c1, c2])) = some y0 := hf 0 _ rfl
        rw [cellsI] at e; exact e
      have e1 : DataW.trod enc Try.prog W 0 (fun _ => true) held k tY [c1] = some y1 := by
        have e : DataW.trod enc Try.prog W 0 (fun _ => true) held k tY (List.take (Try.prog.cellsOf tY) (List.drop 1 [c0, c1, c2])) = some y1 := hf 1 _ rfl
        rw [cellsY] at e; exact e
      have e2 : DataW.trod enc Try.prog W 0 (fun _ => true) held k tB [c2] = some y2 := by
        have e : DataW.trod enc Try.prog W 0 (fun _ => true) held k tB (List.take (Try.prog.cellsOf tB) (List.drop 2 [c0, c1, c2])) = some y2 := hf 2 _ rfl
        rw [cellsB] at e; exact e
      obtain ⟨z0, h0, _, _⟩ := DataW.trod_int Try.underlying3 e0
      obtain ⟨z1, h1, _, w1⟩ := DataW.trod_int Try.underlying5 e1
      obtain ⟨z2, h2, _⟩ := DataW.trod_bool Try.underlying4 e2
      obtain ⟨f, rfl⟩ := u8_of w1
      simp at h0 h1 h2
      subst h0 h1 h2
      exact ⟨⟨z0, f, z2⟩, rfl, rfl, trivial⟩
set_option maxRecDepth 100000 in
theorem changes_of {v : Value} {d : DataW H} {ps : List MemPlace} (hv : Value.okWide Try.prog W r b0 tChs v) (hd : DataW.Trod enc Try.prog W 0 (fun _ => true) held tChs v d ps) (hz : ∀ n ∈ d.weights Try.prog tChs, n ≤ reachBytes) :
    ∃ l : List ChC, LAt 3 chV W v l ∧ ∀ x ∈ ps, x.block < W.heap.size := by
  obtain ⟨fuel, hf⟩ := hd
  have hlt := DataW.trod_lt _ _ _ _ hf
  obtain ⟨ao, n, c, rfl⟩ := okWide_slice Try.underlying22 hv
  have hf' : DataW.trod enc Try.prog W 0 (fun _ => true) held fuel tChs [.slice ao n c] = some (d, ps) := hf
  obtain ⟨l, h1, h2⟩ := Opn.list_in (α := ChC) ⟨0, 0, false⟩ tChs tCh 3 chV (fun _ => True) Try.underlying22 cellsCh (by decide) bytesCh change_el hf' hz
  exact ⟨l, h1, hlt⟩
end
end Jo
end Go.Proofs.Ytpdpjgeoclilhaa
