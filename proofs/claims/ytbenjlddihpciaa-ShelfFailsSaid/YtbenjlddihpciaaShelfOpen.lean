/-
  What came in, as it is read: rows of bools, rows of acts.
-/
import Derived.Test.YtbenjlddihpciaaShelfPages
import Derived.Test.YtbenjlddihpciaaSpareOpen
namespace Go.Proofs.Ytbenjlddihpciaa
open Go.RowKit Go.ChangeShapes Go.WideShapes Go.Joins Go.Deep
namespace Sh
open Sp (addr_lt add_at cellsInt cellsStr)
open Mem (Bs LAt)
theorem cellsBool : Try.prog.cellsOf 4 = 1 := by kernel_rfl
abbrev bV (b : Bool) : List Value := [.bool b]
abbrev BAt (w : World) (x : Value) (l : List Bool) : Prop := LAt 1 bV w x l
theorem add_add (a : Addr) (x y : Nat) : (a.add x).add y = a.add (x + y) := by
  by_cases h1 : x = 0 <;> by_cases h2 : y = 0 <;> simp [Addr.add, h1, h2, Nat.add_assoc]
/-- An act that came in. -/
structure ActM where
  kind : Int
  n : Int
  data : ByteArray
  full : Bool
abbrev actV (x : ActM) : List Value := [.int .i64 x.kind, .int .i64 x.n, .string x.data, .bool x.full]
abbrev tAct : TypeId := 44
abbrev tActs : TypeId := 42
theorem cellsAct : Try.prog.cellsOf tAct = 4 := by kernel_rfl
section
variable {H : Type} {enc : TypeId × Value → H} {W : World} {b0 : Nat} {held : Bool} {r : Reach}
set_option maxRecDepth 100000 in
/-- A slice that came in, its elements as they are read. -/
theorem slice_of {α : Type} (t e : TypeId) (k : Nat) (ev : α → List Value) (G : α → Prop) (z : α) (hu : Try.prog.underlying t = some (.slice e)) (hk : Try.prog.cellsOf e = k) (hk0 : 0 < k)
    (hof : ∀ fuel cs x, DataW.trod enc Try.prog W 0 (fun _ => true) held fuel e cs = some x → ∃ a, cs = ev a ∧ G a) {v : Value} {d : DataW H} {ps : List MemPlace}
    (hv : Value.okWide Try.prog W r b0 t v) (hd : DataW.Trod enc Try.prog W 0 (fun _ => true) held t v d ps) (hl : ∀ a, (ev a).length = k) :
    ∃ l : List α, LAt k ev W v l ∧ (∀ a ∈ l, G a) ∧ ∀ x ∈ ps, x.block < W.heap.size := by
  obtain ⟨fuel, hf⟩ := hd
  have hlt := DataW.trod_lt _ _ _ _ hf
  obtain ⟨ao, n, c, rfl⟩ := okWide_slice hu hv
  have hf' : DataW.trod enc Try.prog W 0 (fun _ => true) held fuel t [.slice ao n c] = some (d, ps) := hf
  rcases open_slice hu hf' with ⟨hcs, _⟩ | ⟨a, len, cap, m, n', D, Pl, hcs, _, hle, hcap, hm, _, hi⟩
  · cases hcs
    exact ⟨[], LAt.nil _ _ _, fun _ h => (by cases h), hlt⟩
  · cases hcs
    simp only [if_true] at hm
    subst hm
    have hall : ∀ i, ∃ X : α, i < m → (∀ j, j < k → W.cell? (a.add (i * k + j)) = (ev X)[j]?) ∧ G X := by
      intro i
      by_cases h' : i < m
      · obtain ⟨cs', hc, ht⟩ := hi i h'
        rw [hk] at hc
        obtain ⟨_, hcl, hat⟩ := World.cells?_some hc
        obtain ⟨X, hX, hok⟩ := hof _ _ _ ht
        refine ⟨X, fun _ => ⟨fun j hj => ?_, hok⟩⟩
        have := hat j hj
        rw [add_add] at this
        rw [this, ← hX]
      · exact ⟨z, fun h => absurd h h'⟩
    obtain ⟨f, hF⟩ := Classical.axiomOfChoice hall
    by_cases hn : n = 0
    · subst hn
      exact ⟨[], LAt.nil _ _ _, fun _ h => (by cases h), hlt⟩
    · have hc0 := (hF 0 (by omega)).1 0 hk0
      have hc1 : W.cell? (a.add (0 * k + 0)) = some ((ev (f 0))[0]'(by rw [hl]; exact hk0)) := by rw [hc0, List.getElem?_eq_getElem (by rw [hl]; exact hk0)]
      obtain ⟨hb, hsp⟩ := addr_lt hc1
      have hb0 : (a.add (0 * k + 0)).block = a.block := by simp [Addr.add]
      have hs0 : (a.add (0 * k + 0)).spot = a.spot := by simp [Addr.add]
      rw [hb0] at hb
      rw [hs0] at hsp
      obtain ⟨b, o, sp⟩ := a
      have hsp' : sp = none := hsp
      subst hsp'
      have hlen : ((List.range n).map f).length = n := by rw [List.length_map, List.length_range]
      refine ⟨(List.range n).map f, ⟨Or.inr ⟨b, o, m, by rw [hlen], by rw [hlen]; exact hle, hb, fun j hj i hi => ?_⟩, by rw [hlen]; omega⟩, fun x hx => ?_, hlt⟩
      · have hj2 : j < n := by simpa using hj
        have := (hF j (by omega)).1 i hi
        rw [add_at, ← Nat.add_assoc] at this
        rw [this]
        simp
      · obtain ⟨j, hj, rfl⟩ := List.mem_map.1 hx
        exact (hF j (by have := List.mem_range.1 hj; omega)).2
set_option maxRecDepth 100000 in
theorem bools_of {v : Value} {d : DataW H} {ps : List MemPlace} (hv : Value.okWide Try.prog W r b0 48 v) (hd : DataW.Trod enc Try.prog W 0 (fun _ => true) held 48 v d ps) :
    ∃ l : List Bool, BAt W v l ∧ ∀ x ∈ ps, x.block < W.heap.size := by
  obtain ⟨l, h1, -, h3⟩ := slice_of (enc := enc) 48 4 1 bV (fun _ => True) false Try.underlying48 cellsBool (by decide) (fun fuel cs x h => by
    obtain ⟨b, hb, -⟩ := DataW.trod_bool Try.underlying4 h
    exact ⟨b, hb, trivial⟩) hv hd (fun _ => rfl)
  exact ⟨l, h1, h3⟩
set_option maxRecDepth 100000 in
/-- The cells of an act. -/
theorem act_of {n : Nat} {cs : List Value} {x : DataW H × List MemPlace} (h : DataW.trod enc Try.prog W 0 (fun _ => true) held n tAct cs = some x) : ∃ X : ActM, cs = actV X ∧ Wf X.n := by
  obtain ⟨ys, k, _, _, hlen, hyl, hf⟩ := DataW.trod_struct Try.underlying44 h
  rw [cellsAct] at hlen
  match cs, hlen with
  | [c0, c1, c2, c3], _ =>
    have e0 : DataW.trod enc Try.prog W 0 (fun _ => true) held k 3 [c0] = some (ys[0]'(by rw [hyl]; decide)) := by
      have e : DataW.trod enc Try.prog W 0 (fun _ => true) held k 3 (List.take (Try.prog.cellsOf 3) (List.drop 0 [c0, c1, c2, c3])) = ys[0]? := hf 0 _ rfl
      rw [cellsInt, List.getElem?_eq_getElem (by rw [hyl]; decide)] at e
      exact e
    have e1 : DataW.trod enc Try.prog W 0 (fun _ => true) held k 3 [c1] = some (ys[1]'(by rw [hyl]; decide)) := by
      have e : DataW.trod enc Try.prog W 0 (fun _ => true) held k 3 (List.take (Try.prog.cellsOf 3) (List.drop 1 [c0, c1, c2, c3])) = ys[1]? := hf 1 _ rfl
      rw [cellsInt, List.getElem?_eq_getElem (by rw [hyl]; decide)] at e
      exact e
    have e2 : DataW.trod enc Try.prog W 0 (fun _ => true) held k 9 [c2] = some (ys[2]'(by rw [hyl]; decide)) := by
      have e : DataW.trod enc Try.prog W 0 (fun _ => true) held k 9 (List.take (Try.prog.cellsOf 9) (List.drop 2 [c0, c1, c2, c3])) = ys[2]? := hf 2 _ rfl
      rw [cellsStr, List.getElem?_eq_getElem (by rw [hyl]; decide)] at e
      exact e
    have e3 : DataW.trod enc Try.prog W 0 (fun _ => true) held k 4 [c3] = some (ys[3]'(by rw [hyl]; decide)) := by
      have e : DataW.trod enc Try.prog W 0 (fun _ => true) held k 4 (List.take (Try.prog.cellsOf 4) (List.drop 3 [c0, c1, c2, c3])) = ys[3]? := hf 3 _ rfl
      rw [cellsBool, List.getElem?_eq_getElem (by rw [hyl]; decide)] at e
      exact e
    obtain ⟨z0, h0, _, _⟩ := DataW.trod_int Try.underlying3 e0
    obtain ⟨z1, h1, _, w1⟩ := DataW.trod_int Try.underlying3 e1
    obtain ⟨z2, h2, _, _⟩ := DataW.trod_string Try.underlying9 e2
    obtain ⟨z3, h3, _⟩ := DataW.trod_bool Try.underlying4 e3
    have h0' : c0 = .int .i64 z0 := by simpa using h0
    have h1' : c1 = .int .i64 z1 := by simpa using h1
    have h2' : c2 = .string z2 := by simpa using h2
    have h3' : c3 = .bool z3 := by simpa using h3
    subst h0' h1' h2' h3'
    exact ⟨⟨z0, z1, z2, z3⟩, rfl, w1⟩
abbrev AAt (w : World) (x : Value) (l : List ActM) : Prop := LAt 4 actV w x l
set_option maxRecDepth 100000 in
theorem acts_of {v : Value} {d : DataW H} {ps : List MemPlace} (hv : Value.okWide Try.prog W r b0 tActs v) (hd : DataW.Trod enc Try.prog W 0 (fun _ => true) held tActs v d ps) :
    ∃ l : List ActM, AAt W v l ∧ (∀ X ∈ l, Wf X.n) ∧ ∀ x ∈ ps, x.block < W.heap.size :=
  slice_of (enc := enc) tActs tAct 4 actV (fun X => Wf X.n) ⟨0, 0, ⟨#[]⟩, false⟩ Try.underlying42 cellsAct (by decide) (fun _ _ _ h => act_of h) hv hd (fun _ => rfl)
end
end Sh
end Go.Proofs.Ytbenjlddihpciaa
