/-
  What the statements' rows give: rows of frames, of numbers.
-/
import Derived.Test.YtgmbiiocjhkpdaaGreatOpen
import Derived.Test.YtgmbiiocjhkpdaaGreatLogBackM
namespace Go.Proofs.YtgmbiiocjhkpdaaGreat
open Go.ChangeShapes Go.WideShapes Go.ChangeAt Go.RowKit Go.Joins Go.Deep
namespace Lo
open Mem (Bs bs LAt iV tI)
abbrev tBo : TypeId := 4
abbrev tBy : TypeId := 5
abbrev tIl : TypeId := 35
theorem cellsIn : Tryz.prog.cellsOf tI = 1 := by kernel_rfl
theorem cellsBo : Tryz.prog.cellsOf tBo = 1 := by kernel_rfl
theorem cellsBy : Tryz.prog.cellsOf tBy = 1 := by kernel_rfl
theorem cellsFI : Tryz.prog.cellsOf tFI = 4 := by kernel_rfl
theorem bytesIn : 0 < Tryz.prog.bytesOf tI := of_decide_eq_true (by kernel_rfl)
theorem bytesFI : 0 < Tryz.prog.bytesOf tFI := of_decide_eq_true (by kernel_rfl)
section
variable {H : Type} {enc : TypeId × Value → H} {W : World} {b0 : Nat} {held : Bool} {r : Reach}
theorem int_el (n : Nat) (cs : List Value) (x : DataW H × List MemPlace) (h : DataW.trod enc Tryz.prog W 0 (fun _ => true) held n tI cs = some x) (_hz : ∀ m ∈ x.1.weights Tryz.prog tI, m ≤ reachBytes) : ∃ a : Int, cs = iV a ∧ (iV a).length = 1 ∧ True := by
  obtain ⟨z, h2, hy, hw⟩ := DataW.trod_int Tryz.underlying3 h
  exact ⟨z, h2, rfl, trivial⟩
theorem u8_of {z : Int} (h : (Lit.int .u8 z).wf = true) : ∃ b : UInt8, z = (b.toNat : Int) := by
  have hb : 0 ≤ z ∧ z ≤ 255 := by simpa [Lit.wf, IntKind.min, IntKind.max, IntKind.signed, IntKind.bits] using h
  refine ⟨UInt8.ofNat z.toNat, ?_⟩
  have : (UInt8.ofNat z.toNat).toNat = z.toNat := by
    rw [UInt8.toNat_ofNat']
    omega
  rw [this]
  omega
set_option maxRecDepth 100000 in
theorem frame_el (n : Nat) (cs : List Value) (x : DataW H × List MemPlace) (h : DataW.trod enc Tryz.prog W 0 (fun _ => true) held n tFI cs = some x) (_hz : ∀ m ∈ x.1.weights Tryz.prog tFI, m ≤ reachBytes) : ∃ a : FI, cs = fiV a ∧ (fiV a).length = 4 ∧ True := by
  obtain ⟨ys, k, _, hx, hlen, hyl, hf⟩ := DataW.trod_struct Tryz.underlying64 h
  rw [cellsFI] at hlen
  match cs, hlen with
  | [c0, c1, c2, c3], _ =>
    match ys, hyl, hf, hx with
    | [y0, y1, y2, y3], _, hf, hx =>
      have e0 : DataW.trod enc Tryz.prog W 0 (fun _ => true) held k tI [c0] = some y0 := by
        have e : DataW.trod enc Tryz.prog W 0 (fun _ => true) held k tI (List.take (Tryz.prog.cellsOf tI) (List.drop 0 [c0, c1, c2, c3])) = some y0 := hf 0 _ rfl
        rw [cellsIn] at e; exact e
      have e1 : DataW.trod enc Tryz.prog W 0 (fun _ => true) held k tBy [c1] = some y1 := by
        have e : DataW.trod enc Tryz.prog W 0 (fun _ => true) held k tBy (List.take (Tryz.prog.cellsOf tBy) (List.drop 1 [c0, c1, c2, c3])) = some y1 := hf 1 _ rfl
        rw [cellsBy] at e; exact e
      have e2 : DataW.trod enc Tryz.prog W 0 (fun _ => true) held k tBo [c2] = some y2 := by
        have e : DataW.trod enc Tryz.prog W 0 (fun _ => true) held k tBo (List.take (Tryz.prog.cellsOf tBo) (List.drop 2 [c0, c1, c2, c3])) = some y2 := hf 2 _ rfl
        rw [cellsBo] at e; exact e
      have e3 : DataW.trod enc Tryz.prog W 0 (fun _ => true) held k tBo [c3] = some y3 := by
        have e : DataW.trod enc Tryz.prog W 0 (fun _ => true) held k tBo (List.take (Tryz.prog.cellsOf tBo) (List.drop 3 [c0, c1, c2, c3])) = some y3 := hf 3 _ rfl
        rw [cellsBo] at e; exact e
      obtain ⟨z0, h0, _, _⟩ := DataW.trod_int Tryz.underlying3 e0
      obtain ⟨z1, h1, _, w1⟩ := DataW.trod_int Tryz.underlying5 e1
      obtain ⟨z2, h2, _⟩ := DataW.trod_bool Tryz.underlying4 e2
      obtain ⟨z3, h3, _⟩ := DataW.trod_bool Tryz.underlying4 e3
      obtain ⟨f, rfl⟩ := u8_of w1
      simp at h0 h1 h2 h3
      subst h0 h1 h2 h3
      exact ⟨⟨z0, f, z2, z3⟩, rfl, rfl, trivial⟩
set_option maxRecDepth 100000 in
theorem ints_of {v : Value} {d : DataW H} {ps : List MemPlace} (hv : Value.okWide Tryz.prog W r b0 tIl v) (hd : DataW.Trod enc Tryz.prog W 0 (fun _ => true) held tIl v d ps) (hz : ∀ n ∈ d.weights Tryz.prog tIl, n ≤ reachBytes) :
    ∃ l : List Int, LAt 1 iV W v l ∧ ∀ x ∈ ps, x.block < W.heap.size := by
  obtain ⟨fuel, hf⟩ := hd
  have hlt := DataW.trod_lt _ _ _ _ hf
  obtain ⟨ao, n, c, rfl⟩ := okWide_slice Tryz.underlying35 hv
  have hf' : DataW.trod enc Tryz.prog W 0 (fun _ => true) held fuel tIl [.slice ao n c] = some (d, ps) := hf
  obtain ⟨l, h1, h2⟩ := Opn.list_in (α := Int) 0 tIl tI 1 iV (fun _ => True) Tryz.underlying35 cellsIn (by decide) bytesIn int_el hf' hz
  exact ⟨l, h1, hlt⟩
set_option maxRecDepth 100000 in
theorem frames_of {v : Value} {d : DataW H} {ps : List MemPlace} (hv : Value.okWide Tryz.prog W r b0 tFIs v) (hd : DataW.Trod enc Tryz.prog W 0 (fun _ => true) held tFIs v d ps) (hz : ∀ n ∈ d.weights Tryz.prog tFIs, n ≤ reachBytes) :
    ∃ l : List FI, LAt 4 fiV W v l ∧ Shp v ∧ ∀ x ∈ ps, x.block < W.heap.size := by
  obtain ⟨fuel, hf⟩ := hd
  have hlt := DataW.trod_lt _ _ _ _ hf
  obtain ⟨ao, n, c, rfl⟩ := okWide_slice Tryz.underlying61 hv
  have hf' : DataW.trod enc Tryz.prog W 0 (fun _ => true) held fuel tFIs [.slice ao n c] = some (d, ps) := hf
  obtain ⟨l, h1, h2⟩ := Opn.list_in (α := FI) ⟨0, 0, false, false⟩ tFIs tFI 4 fiV (fun _ => True) Tryz.underlying61 cellsFI (by decide) bytesFI frame_el hf' hz
  refine ⟨l, h1, ?_, hlt⟩
  rcases open_slice Tryz.underlying61 hf' with ⟨hcs, _⟩ | ⟨a, len, cap, m, n', D, Pl, hcs, _⟩
  · cases hcs
    exact Or.inr rfl
  · cases hcs
    exact Or.inl ⟨_, _, _, rfl⟩
end
end Lo
end Go.Proofs.YtgmbiiocjhkpdaaGreat
