/-
  What JournalBack's row gives: a pair of rows of numbers.
-/
import Derived.Test.YtpdpjgeoclilhaaGreatJouOpen
namespace Go.Proofs.YtpdpjgeoclilhaaGreat
open Go.ChangeShapes Go.WideShapes Go.ChangeAt Go.RowKit Go.Joins Go.Deep
namespace Jo
open Mem (Bs bs LAt)
abbrev tP2 : TypeId := 47
theorem cellsP2 : Tryz.prog.cellsOf tP2 = 2 := by kernel_rfl
set_option maxRecDepth 100000 in
theorem array2 {α : Type} {cs : Array α} (h : cs.size = 2) : ∃ a b, cs = #[a, b] := by
  obtain ⟨l⟩ := cs
  match l, h with
  | [a, b], _ => exact ⟨a, b, rfl⟩
section
variable {H : Type} {enc : TypeId × Value → H} {W : World} {b0 : Nat} {held : Bool} {r : Reach}
set_option maxRecDepth 100000 in
theorem okWide_pair {n : Nat} {e : TypeId} {t : TypeId} {v : Value} (ht : Tryz.prog.underlying t = some (.array n e)) (h : Value.okWide Tryz.prog W r b0 t v) : ∃ cs, v = .agg cs ∧ cs.size = Tryz.prog.cellsOf t := by
  simp only [Value.okWide, ht] at h
  obtain ⟨cs, h1, h2, _⟩ := h
  exact ⟨cs, h1, h2⟩
set_option maxRecDepth 100000 in
theorem ints_in {n : Nat} {v : Value} {x : DataW H × List MemPlace} (h : DataW.trod enc Tryz.prog W 0 (fun _ => true) held n tIs [v] = some x) (hz : ∀ n ∈ x.1.weights Tryz.prog tIs, n ≤ reachBytes) : ∃ l : List Int, LAt 1 iV W v l := by
  obtain ⟨l, h1, _⟩ := Opn.list_in (α := Int) 0 tIs tI 1 iV (fun _ => True) Tryz.underlying46 cellsI (by decide) bytesI int_el h hz
  exact ⟨l, h1⟩
set_option maxRecDepth 100000 in
theorem pair_of {v : Value} {d : DataW H} {ps : List MemPlace} (hv : Value.okWide Tryz.prog W r b0 tP2 v) (hd : DataW.Trod enc Tryz.prog W 0 (fun _ => true) held tP2 v d ps) (hz : ∀ n ∈ d.weights Tryz.prog tP2, n ≤ reachBytes) :
    ∃ (va vb : Value) (la lb : List Int), v = .agg #[va, vb] ∧ LAt 1 iV W va la ∧ LAt 1 iV W vb lb ∧ ∀ x ∈ ps, x.block < W.heap.size := by
  obtain ⟨cs, rfl, hsz⟩ := okWide_pair Tryz.underlying47 hv
  obtain ⟨c0, c1, rfl⟩ := array2 (hsz.trans cellsP2)
  obtain ⟨fuel, hf⟩ := hd
  have hlt := DataW.trod_lt _ _ _ _ hf
  have hf' : DataW.trod enc Tryz.prog W 0 (fun _ => true) held fuel tP2 [c0, c1] = some (d, ps) := hf
  obtain ⟨xs, n, _, hx, hl, hlen, hg⟩ := DataW.trod_array Tryz.underlying47 hf'
  match xs, hlen, hg, hx with
  | [y0, y1], _, hg, hx =>
    have e0 : DataW.trod enc Tryz.prog W 0 (fun _ => true) held n tIs [c0] = some y0 := by
      have e : DataW.trod enc Tryz.prog W 0 (fun _ => true) held n tIs (List.take (Tryz.prog.cellsOf tIs) (List.drop (0 * Tryz.prog.cellsOf tIs) [c0, c1])) = some y0 := hg 0 (by decide)
      rw [cellsIs] at e; exact e
    have e1 : DataW.trod enc Tryz.prog W 0 (fun _ => true) held n tIs [c1] = some y1 := by
      have e : DataW.trod enc Tryz.prog W 0 (fun _ => true) held n tIs (List.take (Tryz.prog.cellsOf tIs) (List.drop (1 * Tryz.prog.cellsOf tIs) [c0, c1])) = some y1 := hg 1 (by decide)
      rw [cellsIs] at e; exact e
    have hd0 : d = .agg [y0.1, y1.1] := congrArg Prod.fst hx
    have hwt : ∀ m, (m ∈ y0.1.weights Tryz.prog tIs ∨ m ∈ y1.1.weights Tryz.prog tIs) → m ≤ reachBytes := by
      intro m hm
      refine hz m ?_
      rw [hd0]
      rcases hm with hm | hm <;> simp [DataW.weights, DataW.weightsAll, Tryz.underlying47, hm]
    obtain ⟨la, ha⟩ := ints_in e0 (fun m hm => hwt m (Or.inl hm))
    obtain ⟨lb, hb⟩ := ints_in e1 (fun m hm => hwt m (Or.inr hm))
    exact ⟨c0, c1, la, lb, rfl, ha, hb, hlt⟩
end
end Jo
end Go.Proofs.YtpdpjgeoclilhaaGreat
