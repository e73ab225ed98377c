/-
  What the statements' rows give: a pair of strings that came in.
-/
import Derived.Test.YtpabhekbkdpkiaaDoorValFrame
import Derived.SizedLaws
namespace Go.Proofs.YtpabhekbkdpkiaaDoor
open Go.ChangeShapes Go.WideShapes Go.ChangeAt Go.RowKit Go.Joins Go.Deep
namespace Va
theorem cells2s : Tryd.prog.cellsOf 33 = 2 := by kernel_rfl
theorem array2 {α : Type} {cs : Array α} (h : cs.size = 2) : ∃ a b, cs = #[a, b] := by
  obtain ⟨l⟩ := cs
  match l, h with
  | [a, b], _ => exact ⟨a, b, rfl⟩
theorem list2 {α : Type} {l : List α} (h : l.length = 2) : ∃ a b, l = [a, b] := by
  match l, h with
  | [a, b], _ => exact ⟨a, b, rfl⟩
set_option maxRecDepth 100000 in
theorem okWide_two {W : World} {r : Reach} {b0 : Nat} {v : Value} (h : Value.okWide Tryd.prog W r b0 33 v) : ∃ cs : Array Value, v = .agg cs ∧ cs.size = Tryd.prog.cellsOf 33 := by
  have ht := Tryd.underlying33
  simp only [Value.okWide, ht] at h
  obtain ⟨cs, h1, h2, _⟩ := h
  exact ⟨cs, h1, h2⟩
set_option maxRecDepth 100000 in
theorem two_of {H : Type} {enc : TypeId × Value → H} {W : World} {base b0 : Nat} {sp : Nat → Bool} {held : Bool} {r : Reach} {v : Value} {d : DataW H} {ps : List MemPlace} (hv : Value.okWide Tryd.prog W r b0 33 v) (hd : DataW.Trod enc Tryd.prog W base sp held 33 v d ps) :
    ∃ s0 s1 : ByteArray, v = .agg #[.string s0, .string s1] ∧ d = .agg [.lit (.string s0.data.toList), .lit (.string s1.data.toList)] ∧ ps = [] := by
  obtain ⟨cs, rfl, hsz⟩ := okWide_two hv
  obtain ⟨a, b, rfl⟩ := array2 (hsz.trans cells2s)
  obtain ⟨fuel, hf⟩ := hd
  obtain ⟨xs, k, rfl, hx, _, hl, he⟩ := DataW.trod_array Tryd.underlying33 hf
  obtain ⟨x, y, rfl⟩ := list2 hl
  have e0 := he 0 (by omega)
  have e1 := he 1 (by omega)
  rw [cellsStr] at e0 e1
  obtain ⟨s0, hc0, rfl, _⟩ := DataW.trod_string Tryd.underlying9 e0
  obtain ⟨s1, hc1, rfl, _⟩ := DataW.trod_string Tryd.underlying9 e1
  simp [Value.cells] at hc0 hc1
  subst hc0; subst hc1
  exact ⟨s0, s1, rfl, by simpa using congrArg Prod.fst hx, by simpa using congrArg Prod.snd hx⟩
theorem sized_two {H : Type} {ts : List TypeId} {ds : List (DataW H)} (h : (DataW.weightsEach Tryd.prog ts ds).all (· ≤ reachBytes) = true) {j : Nat} {l0 l1 : List UInt8} (ht : ts[j]? = some 33) (hd : ds[j]? = some (.agg [.lit (.string l0), .lit (.string l1)])) : l0.length ≤ reachBytes ∧ l1.length ≤ reachBytes := by
  constructor
  · have := List.all_eq_true.1 h _ (DataW.weights_mem_each ht hd l0.length (by simp [DataW.weights, DataW.weightsAll, Tryd.underlying33]))
    simpa using this
  · have := List.all_eq_true.1 h _ (DataW.weights_mem_each ht hd l1.length (by simp [DataW.weights, DataW.weightsAll, Tryd.underlying33]))
    simpa using this
end Va
end Go.Proofs.YtpabhekbkdpkiaaDoor
