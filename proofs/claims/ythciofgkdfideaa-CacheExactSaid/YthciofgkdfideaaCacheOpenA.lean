/-
  What CacheExact's row gives: a row of acts.
-/
import Derived.Test.YthciofgkdfideaaCacheOpen
namespace Go.Proofs.Ythciofgkdfideaa
open Go.ChangeShapes Go.WideShapes Go.ChangeAt Go.RowKit Go.Joins Go.Deep
namespace Ca
open Mem (Bs bs LAt tI tS)
abbrev tA : TypeId := 29
abbrev tAs : TypeId := 22
theorem cellsA : Try.prog.cellsOf tA = 4 := by kernel_rfl
theorem bytesA : 0 < Try.prog.bytesOf tA := of_decide_eq_true (by kernel_rfl)
def FitA (x : ActC) : Prop := Wf x.n ∧ x.d.length ≤ reachBytes
section
variable {H : Type} {enc : TypeId × Value → H} {W : World} {b0 : Nat} {held : Bool} {r : Reach}
set_option maxRecDepth 100000 in
theorem act_el (n : Nat) (cs : List Value) (x : DataW H × List MemPlace) (h : DataW.trod enc Try.prog W 0 (fun _ => true) held n tA cs = some x) (hz : ∀ m ∈ x.1.weights Try.prog tA, m ≤ reachBytes) : ∃ a : ActC, cs = actV a ∧ (actV a).length = 4 ∧ FitA a := by
  obtain ⟨ys, k, _, hx, hlen, hyl, hf⟩ := DataW.trod_struct Try.underlying29 h
  rw [cellsA] at hlen
  match cs, hlen with
  | [c0, c1, c2, c3], _ =>
    match ys, hyl, hf, hx with
    | [y0, y1, y2, y3], _, hf, hx =>
      have e0 : DataW.trod enc Try.prog W 0 (fun _ => true) held k tI [c0] = some y0 := by
        have e : DataW.trod enc Try.prog W 0 (fun _ => true) held k tI (List.take (Try.prog.cellsOf tI) (List.drop 0 [c0, c1, c2, c3])) = some y0 := hf 0 _ rfl
        rw [cellsI] at e; exact e
      have e1 : DataW.trod enc Try.prog W 0 (fun _ => true) held k tI [c1] = some y1 := by
        have e : DataW.trod enc Try.prog W 0 (fun _ => true) held k tI (List.take (Try.prog.cellsOf tI) (List.drop 1 [c0, c1, c2, c3])) = some y1 := hf 1 _ rfl
        rw [cellsI] at e; exact e
      have e2 : DataW.trod enc Try.prog W 0 (fun _ => true) held k tS [c2] = some y2 := by
        have e : DataW.trod enc Try.prog W 0 (fun _ => true) held k tS (List.take (Try.prog.cellsOf tS) (List.drop 2 [c0, c1, c2, c3])) = some y2 := hf 2 _ rfl
        rw [cellsS] at e; exact e
      have e3 : DataW.trod enc Try.prog W 0 (fun _ => true) held k tB [c3] = some y3 := by
        have e : DataW.trod enc Try.prog W 0 (fun _ => true) held k tB (List.take (Try.prog.cellsOf tB) (List.drop 3 [c0, c1, c2, c3])) = some y3 := hf 3 _ rfl
        rw [cellsB] at e; exact e
      obtain ⟨z0, h0, _, w0⟩ := DataW.trod_int Try.underlying3 e0
      obtain ⟨z1, h1, _, w1⟩ := DataW.trod_int Try.underlying3 e1
      obtain ⟨z2, h2, hy2, _⟩ := DataW.trod_string Try.underlying9 e2
      obtain ⟨z3, h3, _⟩ := DataW.trod_bool Try.underlying4 e3
      simp at h0 h1 h2 h3
      subst h0 h1 h2 h3
      refine ⟨⟨z0, z1, z2.data.toList, z3⟩, rfl, rfl, w1, hz _ ?_⟩
      subst hy2
      have hxf : x.1 = .agg [y0.1, y1.1, .lit (.string z2.data.toList), y3.1] := by rw [hx]; rfl
      rw [hxf]
      simp [DataW.weights, DataW.weightsEach, Try.underlying29]
set_option maxRecDepth 100000 in
theorem acts_of {v : Value} {d : DataW H} {ps : List MemPlace} (hv : Value.okWide Try.prog W r b0 tAs v) (hd : DataW.Trod enc Try.prog W 0 (fun _ => true) held tAs v d ps) (hz : ∀ n ∈ d.weights Try.prog tAs, n ≤ reachBytes) :
    ∃ l : List ActC, LAt 4 actV W v l ∧ (∀ a ∈ l, FitA a) ∧ ∀ x ∈ ps, x.block < W.heap.size := by
  obtain ⟨fuel, hf⟩ := hd
  have hlt := DataW.trod_lt _ _ _ _ hf
  obtain ⟨ao, n, c, rfl⟩ := okWide_slice Try.underlying22 hv
  have hf' : DataW.trod enc Try.prog W 0 (fun _ => true) held fuel tAs [.slice ao n c] = some (d, ps) := hf
  obtain ⟨l, h1, h2⟩ := Opn.list_in (α := ActC) ⟨0, 0, [], false⟩ tAs tA 4 actV FitA Try.underlying22 cellsA (by decide) bytesA act_el hf' hz
  exact ⟨l, h1, h2, hlt⟩
end
end Ca
end Go.Proofs.Ythciofgkdfideaa
