/-
  What the statements' rows give: rows of acts, of pages, of numbers.
-/
import Derived.Test.YthciofgkdfideaaOpen
import Derived.Test.YthciofgkdfideaaCacheMap
namespace Go.Proofs.Ythciofgkdfideaa
open Go.ChangeShapes Go.WideShapes Go.ChangeAt Go.RowKit Go.Joins Go.Deep
namespace Ca
open Mem (Bs bs LAt tI tS)
/-- An act that came in. -/
structure ActC where
  k : Int
  n : Int
  d : Bs
  w : Bool
abbrev actV (x : ActC) : List Value := [.int .i64 x.k, .int .i64 x.n, .string (bs x.d), .bool x.w]
abbrev iV (x : Int) : List Value := [.int .i64 x]
abbrev tB : TypeId := 4
theorem cellsI : Try.prog.cellsOf tI = 1 := by kernel_rfl
theorem cellsS : Try.prog.cellsOf tS = 1 := by kernel_rfl
theorem cellsB : Try.prog.cellsOf tB = 1 := by kernel_rfl
theorem cellsP : Try.prog.cellsOf tP = 2 := by kernel_rfl
theorem bytesI : 0 < Try.prog.bytesOf tI := of_decide_eq_true (by kernel_rfl)
theorem bytesP : 0 < Try.prog.bytesOf tP := of_decide_eq_true (by kernel_rfl)
section
variable {H : Type} {enc : TypeId × Value → H} {W : World} {b0 : Nat} {held : Bool} {r : Reach}
theorem int_el (n : Nat) (cs : List Value) (x : DataW H × List MemPlace) (h : DataW.trod enc Try.prog W 0 (fun _ => true) held n tI cs = some x) (_hz : ∀ m ∈ x.1.weights Try.prog tI, m ≤ reachBytes) : ∃ a : Int, cs = iV a ∧ (iV a).length = 1 ∧ Wf a := by
  obtain ⟨z, h2, hy, hw⟩ := DataW.trod_int Try.underlying3 h
  exact ⟨z, h2, rfl, hw⟩
def FitP (p : Pg) : Prop := Wf p.1 ∧ p.2.length ≤ reachBytes
set_option maxRecDepth 100000 in
theorem page_el (n : Nat) (cs : List Value) (x : DataW H × List MemPlace) (h : DataW.trod enc Try.prog W 0 (fun _ => true) held n tP cs = some x) (hz : ∀ m ∈ x.1.weights Try.prog tP, m ≤ reachBytes) : ∃ a : Pg, cs = pV a ∧ (pV a).length = 2 ∧ FitP a := by
  obtain ⟨ys, k, _, hx, hlen, hyl, hf⟩ := DataW.trod_struct Try.underlying44 h
  rw [cellsP] at hlen
  match cs, hlen with
  | [c0, c1], _ =>
    match ys, hyl, hf, hx with
    | [y0, y1], _, hf, hx =>
      have e0 : DataW.trod enc Try.prog W 0 (fun _ => true) held k tI [c0] = some y0 := by
        have e : DataW.trod enc Try.prog W 0 (fun _ => true) held k tI (List.take (Try.prog.cellsOf tI) (List.drop 0 [c0, c1])) = some y0 := hf 0 _ rfl
        rw [cellsI] at e; exact e
      have e1 : DataW.trod enc Try.prog W 0 (fun _ => true) held k tS [c1] = some y1 := by
        have e : DataW.trod enc Try.prog W 0 (fun _ => true) held k tS (List.take (Try.prog.cellsOf tS) (List.drop 1 [c0, c1])) = some y1 := hf 1 _ rfl
        rw [cellsS] at e; exact e
      obtain ⟨z0, h0, _, w0⟩ := DataW.trod_int Try.underlying3 e0
      obtain ⟨z1, h1, hy1, _⟩ := DataW.trod_string Try.underlying9 e1
      simp at h0 h1
      subst h0 h1
      refine ⟨(z0, z1.data.toList), rfl, rfl, w0, hz _ ?_⟩
      subst hy1
      have hxf : x.1 = .agg [y0.1, .lit (.string z1.data.toList)] := by rw [hx]; rfl
      rw [hxf]
      simp [DataW.weights, DataW.weightsEach, Try.underlying44]
set_option maxRecDepth 100000 in
theorem ints_of {v : Value} {d : DataW H} {ps : List MemPlace} (hv : Value.okWide Try.prog W r b0 42 v) (hd : DataW.Trod enc Try.prog W 0 (fun _ => true) held 42 v d ps) (hz : ∀ n ∈ d.weights Try.prog 42, n ≤ reachBytes) :
    ∃ l : List Int, LAt 1 iV W v l ∧ (∀ a ∈ l, Wf a) ∧ ∀ x ∈ ps, x.block < W.heap.size := by
  obtain ⟨fuel, hf⟩ := hd
  have hlt := DataW.trod_lt _ _ _ _ hf
  obtain ⟨ao, n, c, rfl⟩ := okWide_slice Try.underlying42 hv
  have hf' : DataW.trod enc Try.prog W 0 (fun _ => true) held fuel 42 [.slice ao n c] = some (d, ps) := hf
  obtain ⟨l, h1, h2⟩ := Opn.list_in (α := Int) 0 42 tI 1 iV Wf Try.underlying42 cellsI (by decide) bytesI int_el hf' hz
  exact ⟨l, h1, h2, hlt⟩
set_option maxRecDepth 100000 in
theorem pages_of {v : Value} {d : DataW H} {ps : List MemPlace} (hv : Value.okWide Try.prog W r b0 tPs v) (hd : DataW.Trod enc Try.prog W 0 (fun _ => true) held tPs v d ps) (hz : ∀ n ∈ d.weights Try.prog tPs, n ≤ reachBytes) :
    ∃ l : List Pg, LAt 2 pV W v l ∧ (∀ a ∈ l, FitP a) ∧ ∀ x ∈ ps, x.block < W.heap.size := by
  obtain ⟨fuel, hf⟩ := hd
  have hlt := DataW.trod_lt _ _ _ _ hf
  obtain ⟨ao, n, c, rfl⟩ := okWide_slice Try.underlying33 hv
  have hf' : DataW.trod enc Try.prog W 0 (fun _ => true) held fuel tPs [.slice ao n c] = some (d, ps) := hf
  obtain ⟨l, h1, h2⟩ := Opn.list_in (α := Pg) (0, []) tPs tP 2 pV FitP Try.underlying33 cellsP (by decide) bytesP page_el hf' hz
  exact ⟨l, h1, h2, hlt⟩
end
end Ca
end Go.Proofs.Ythciofgkdfideaa
