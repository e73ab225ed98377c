/-
  What comes in: a list of strings, a cell by value; as the frames want them.
-/
import Derived.Test.YtkoglikaaehhjaaGreatDoorNodeFrame
namespace Go.Proofs.YtkoglikaaehhjaaGreatDoor
open Go.ChangeShapes Go.WideShapes Go.ChangeAt Go.RowKit Go.Joins Go.Deep
namespace Ch
open No (Bs bs SAt sV C tS tSs tC cellsS cellsC bytesS str_el cell_el list_of)
section
variable {H : Type} {enc : TypeId × Value → H} {W : World} {b0 : Nat} {held : Bool} {r : Reach}
set_option maxRecDepth 100000 in
theorem strs_of {v : Value} {d : DataW H} {ps : List MemPlace} (hv : Value.okWide Tryz.prog W r b0 tSs v) (hd : DataW.Trod enc Tryz.prog W 0 (fun _ => true) held tSs v d ps) (hz : ∀ n ∈ d.weights Tryz.prog tSs, n ≤ reachBytes) :
    ∃ l : List Bs, SAt W v l ∧ (∀ a ∈ l, a.length ≤ reachBytes) ∧ ∀ x ∈ ps, x.block < W.heap.size := by
  obtain ⟨fuel, hf⟩ := hd
  have hlt := DataW.trod_lt _ _ _ _ hf
  obtain ⟨ao, n, c, rfl⟩ := okWide_slice Tryz.underlying22 hv
  have hf' : DataW.trod enc Tryz.prog W 0 (fun _ => true) held fuel tSs [.slice ao n c] = some (d, ps) := hf
  obtain ⟨l, h1, h2⟩ := list_of (α := Bs) [] tSs tS 1 sV List.length Tryz.underlying22 cellsS (by decide) bytesS str_el hf' hz
  exact ⟨l, h1, h2, hlt⟩
theorem array3 {α : Type} {cs : Array α} (h : cs.size = 3) : ∃ a b c, cs = #[a, b, c] := by
  match cs, h with
  | ⟨[a, b, c]⟩, _ => exact ⟨a, b, c, rfl⟩
set_option maxRecDepth 100000 in
theorem cell_of {v : Value} {d : DataW H} {ps : List MemPlace} (hv : Value.okWide Tryz.prog W r b0 tC v) (hd : DataW.Trod enc Tryz.prog W 0 (fun _ => true) held tC v d ps) :
    ∃ c : C, v = .agg #[.int .i64 c.z, .string (bs c.d), .int .i64 c.p] ∧ ∀ x ∈ ps, x.block < W.heap.size := by
  obtain ⟨cs, rfl, hsz⟩ := okWide_struct Tryz.underlying24 hv
  obtain ⟨c0, c1, c2, rfl⟩ := array3 (hsz.trans cellsC)
  obtain ⟨fuel, hf⟩ := hd
  have hlt := DataW.trod_lt _ _ _ _ hf
  have hf' : DataW.trod enc Tryz.prog W 0 (fun _ => true) held fuel tC [c0, c1, c2] = some (d, ps) := hf
  obtain ⟨c, hc, -, -⟩ := cell_el _ _ _ hf'
  refine ⟨c, ?_, hlt⟩
  have hc2 : [c0, c1, c2] = [.int .i64 c.z, .string (bs c.d), .int .i64 c.p] := hc
  simp only [List.cons.injEq, and_true] at hc2
  obtain ⟨rfl, rfl, rfl⟩ := hc2
  rfl
end
end Ch
end Go.Proofs.YtkoglikaaehhjaaGreatDoor
