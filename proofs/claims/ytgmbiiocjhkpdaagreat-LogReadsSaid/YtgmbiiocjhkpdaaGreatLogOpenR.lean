/-
  What the statement's rows give: a row of sectors.
-/
import Derived.Test.YtgmbiiocjhkpdaaGreatOpen
import Derived.Test.YtgmbiiocjhkpdaaGreatLogReadsW
namespace Go.Proofs.YtgmbiiocjhkpdaaGreat
open Go.ChangeShapes Go.WideShapes Go.ChangeAt Go.RowKit Go.Joins Go.Deep
namespace Lt
open Mem (Bs bs LAt)
abbrev tSx : TypeId := 55
abbrev tSxs : TypeId := 52
theorem cells1 : Tryz.prog.cellsOf 3 = 1 := by kernel_rfl
theorem cells2 : Tryz.prog.cellsOf 53 = 1 := by kernel_rfl
theorem cells3 : Tryz.prog.cellsOf 9 = 1 := by kernel_rfl
theorem cellsSx : Tryz.prog.cellsOf tSx = 4 := by kernel_rfl
theorem bytesSx : 0 < Tryz.prog.bytesOf tSx := of_decide_eq_true (by kernel_rfl)
section
variable {H : Type} {enc : TypeId × Value → H} {W : World} {b0 : Nat} {held : Bool} {r : Reach}
theorem u64_of {z : Int} (h : (Lit.int .u64 z).wf = true) : ∃ b : Nat, z = (b : Int) ∧ b < 18446744073709551616 := by
  have hb : 0 ≤ z ∧ z ≤ 18446744073709551615 := by simpa [Lit.wf, IntKind.min, IntKind.max, IntKind.signed, IntKind.bits] using h
  exact ⟨z.toNat, by omega, by omega⟩
set_option maxRecDepth 100000 in
theorem sealed_el (n : Nat) (cs : List Value) (x : DataW H × List MemPlace) (h : DataW.trod enc Tryz.prog W 0 (fun _ => true) held n tSx cs = some x) (_hz : ∀ m ∈ x.1.weights Tryz.prog tSx, m ≤ reachBytes) : ∃ a : SdC, cs = sdV a ∧ (sdV a).length = 4 ∧ a.s < 18446744073709551616 := by
  obtain ⟨ys, k, _, hx, hlen, hyl, hf⟩ := DataW.trod_struct Tryz.underlying55 h
  rw [cellsSx] at hlen
  match cs, hlen with
  | [c0, c1, c2, c3], _ =>
    match ys, hyl, hf, hx with
    | [y0, y1, y2, y3], _, hf, hx =>
      have e0 : DataW.trod enc Tryz.prog W 0 (fun _ => true) held k 3 [c0] = some y0 := by
        have e : DataW.trod enc Tryz.prog W 0 (fun _ => true) held k 3 (List.take (Tryz.prog.cellsOf 3) (List.drop 0 [c0, c1, c2, c3])) = some y0 := hf 0 _ rfl
        rw [cells1] at e; exact e
      have e1 : DataW.trod enc Tryz.prog W 0 (fun _ => true) held k 3 [c1] = some y1 := by
        have e : DataW.trod enc Tryz.prog W 0 (fun _ => true) held k 3 (List.take (Tryz.prog.cellsOf 3) (List.drop 1 [c0, c1, c2, c3])) = some y1 := hf 1 _ rfl
        rw [cells1] at e; exact e
      have e2 : DataW.trod enc Tryz.prog W 0 (fun _ => true) held k 53 [c2] = some y2 := by
        have e : DataW.trod enc Tryz.prog W 0 (fun _ => true) held k 53 (List.take (Tryz.prog.cellsOf 53) (List.drop 2 [c0, c1, c2, c3])) = some y2 := hf 2 _ rfl
        rw [cells2] at e; exact e
      have e3 : DataW.trod enc Tryz.prog W 0 (fun _ => true) held k 9 [c3] = some y3 := by
        have e : DataW.trod enc Tryz.prog W 0 (fun _ => true) held k 9 (List.take (Tryz.prog.cellsOf 9) (List.drop 3 [c0, c1, c2, c3])) = some y3 := hf 3 _ rfl
        rw [cells3] at e; exact e
      obtain ⟨z0, h0, _, _⟩ := DataW.trod_int Tryz.underlying3 e0
      obtain ⟨z1, h1, _, _⟩ := DataW.trod_int Tryz.underlying3 e1
      obtain ⟨z2, h2, _, w2⟩ := DataW.trod_int Tryz.underlying53 e2
      obtain ⟨z3, h3, _, _⟩ := DataW.trod_string Tryz.underlying9 e3
      obtain ⟨s, rfl, hs⟩ := u64_of w2
      simp at h0 h1 h2 h3
      subst h0 h1 h2 h3
      exact ⟨⟨z0, z1, s, z3⟩, rfl, rfl, hs⟩
set_option maxRecDepth 100000 in
theorem sealeds_of {v : Value} {d : DataW H} {ps : List MemPlace} (hv : Value.okWide Tryz.prog W r b0 tSxs v) (hd : DataW.Trod enc Tryz.prog W 0 (fun _ => true) held tSxs v d ps) (hz : ∀ n ∈ d.weights Tryz.prog tSxs, n ≤ reachBytes) :
    ∃ l : List SdC, LAt 4 sdV W v l ∧ (∀ x ∈ l, x.s < 18446744073709551616) ∧ ∀ x ∈ ps, x.block < W.heap.size := by
  obtain ⟨fuel, hf⟩ := hd
  have hlt := DataW.trod_lt _ _ _ _ hf
  obtain ⟨ao, n, c, rfl⟩ := okWide_slice Tryz.underlying52 hv
  have hf' : DataW.trod enc Tryz.prog W 0 (fun _ => true) held fuel tSxs [.slice ao n c] = some (d, ps) := hf
  obtain ⟨l, h1, h2⟩ := Opn.list_in (α := SdC) ⟨0, 0, 0, ⟨#[]⟩⟩ tSxs tSx 4 sdV (fun x => x.s < 18446744073709551616) Tryz.underlying52 cellsSx (by decide) bytesSx sealed_el hf' hz
  exact ⟨l, h1, h2, hlt⟩
end
end Lt
end Go.Proofs.YtgmbiiocjhkpdaaGreat
