/-
  SpareExact: what came in (a head by value, a row of pages), and whether a head is fit.
-/
import Derived.Test.YtkoglikaaehhjaaSpareRefGiveW
import Derived.Test.YtkoglikaaehhjaaSpareOpen
namespace Go.Proofs.Ytkoglikaaehhjaa
open Go.RowKit Go.ChangeShapes Go.WideShapes Go.Joins Go.Deep
namespace Sp
open Num (hid)
open Mem (Bs bs LAt)
theorem add_add (a : Addr) (x y : Nat) : (a.add x).add y = a.add (x + y) := by
  by_cases h1 : x = 0 <;> by_cases h2 : y = 0 <;> simp [Addr.add, h1, h2, Nat.add_assoc]
theorem array6 {α : Type} {cs : Array α} (h : cs.size = 6) : ∃ a b c d e f, cs = #[a, b, c, d, e, f] := by
  obtain ⟨l⟩ := cs
  match l, h with
  | [a, b, c, d, e, f], _ => exact ⟨a, b, c, d, e, f, rfl⟩
theorem cellsHead : Try.prog.cellsOf 35 = 6 := by kernel_rfl
theorem cellsI6 : Try.prog.cellsOf 3 = 1 := by kernel_rfl
theorem cellsU : Try.prog.cellsOf 33 = 1 := by kernel_rfl

set_option maxRecDepth 100000 in
theorem head_of {H : Type} {enc : TypeId × Value → H} {W : World} {base b0 : Nat} {sp : Nat → Bool} {held : Bool} {r : Reach} {v : Value} {d : DataW H} {ps : List MemPlace} (hv : Value.okWide Try.prog W r b0 35 v) (hd : DataW.Trod enc Try.prog W base sp held 35 v d ps) :
    ∃ (M P T S R : Int) (C : Nat), v = .agg #[.int .i64 M, .int .i64 P, .int .i64 T, .int .i64 S, .int .i64 R, .int .u64 C] ∧ C < 18446744073709551616 ∧ ps = [] := by
  obtain ⟨cs, rfl, hsz⟩ := okWide_struct Try.underlying35 hv
  obtain ⟨c0, c1, c2, c3, c4, c5, rfl⟩ := array6 (hsz.trans cellsHead)
  obtain ⟨fuel, hf⟩ := hd
  have hf' : DataW.trod enc Try.prog W base sp held fuel 35 [c0, c1, c2, c3, c4, c5] = some (d, ps) := hf
  obtain ⟨xs, n, _, hx, hl, hlen, hg⟩ := DataW.trod_struct Try.underlying35 hf'
  match xs, hlen with
  | [y0, y1, y2, y3, y4, y5], _ =>
    have e0 : DataW.trod enc Try.prog W base sp held n 3 [c0] = some y0 := by
      have e : DataW.trod enc Try.prog W base sp held n 3 (List.take (Try.prog.cellsOf 3) (List.drop 0 [c0, c1, c2, c3, c4, c5])) = some y0 := hg 0 _ rfl
      rw [cellsI6] at e; exact e
    have e1 : DataW.trod enc Try.prog W base sp held n 3 [c1] = some y1 := by
      have e : DataW.trod enc Try.prog W base sp held n 3 (List.take (Try.prog.cellsOf 3) (List.drop 1 [c0, c1, c2, c3, c4, c5])) = some y1 := hg 1 _ rfl
      rw [cellsI6] at e; exact e
    have e2 : DataW.trod enc Try.prog W base sp held n 3 [c2] = some y2 := by
      have e : DataW.trod enc Try.prog W base sp held n 3 (List.take (Try.prog.cellsOf 3) (List.drop 2 [c0, c1, c2, c3, c4, c5])) = some y2 := hg 2 _ rfl
      rw [cellsI6] at e; exact e
    have e3 : DataW.trod enc Try.prog W base sp held n 3 [c3] = some y3 := by
      have e : DataW.trod enc Try.prog W base sp held n 3 (List.take (Try.prog.cellsOf 3) (List.drop 3 [c0, c1, c2, c3, c4, c5])) = some y3 := hg 3 _ rfl
      rw [cellsI6] at e; exact e
    have e4 : DataW.trod enc Try.prog W base sp held n 3 [c4] = some y4 := by
      have e : DataW.trod enc Try.prog W base sp held n 3 (List.take (Try.prog.cellsOf 3) (List.drop 4 [c0, c1, c2, c3, c4, c5])) = some y4 := hg 4 _ rfl
      rw [cellsI6] at e; exact e
    have e5 : DataW.trod enc Try.prog W base sp held n 33 [c5] = some y5 := by
      have e : DataW.trod enc Try.prog W base sp held n 33 (List.take (Try.prog.cellsOf 33) (List.drop 5 [c0, c1, c2, c3, c4, c5])) = some y5 := hg 5 _ rfl
      rw [cellsU] at e; exact e
    obtain ⟨z0, h0, rfl, w0⟩ := DataW.trod_int Try.underlying3 e0
    obtain ⟨z1, h1, rfl, w1⟩ := DataW.trod_int Try.underlying3 e1
    obtain ⟨z2, h2, rfl, w2⟩ := DataW.trod_int Try.underlying3 e2
    obtain ⟨z3, h3, rfl, w3⟩ := DataW.trod_int Try.underlying3 e3
    obtain ⟨z4, h4, rfl, w4⟩ := DataW.trod_int Try.underlying3 e4
    obtain ⟨z5, h5, rfl, w5⟩ := DataW.trod_int Try.underlying33 e5
    simp at h0 h1 h2 h3 h4 h5
    subst h0 h1 h2 h3 h4 h5
    obtain ⟨C, hC, rfl⟩ := Num.nat_u64 w5
    refine ⟨z0, z1, z2, z3, z4, C, rfl, hC, ?_⟩
    simpa using congrArg Prod.snd hx
/-- A page that came in. -/
structure PgM where
  n : Int
  data : ByteArray
abbrev pgV (x : PgM) : List Value := [.int .i64 x.n, .string x.data]
abbrev tPg : TypeId := 45
abbrev tPgs : TypeId := 36
theorem cellsPg : Try.prog.cellsOf tPg = 2 := by kernel_rfl
section
variable {H : Type} {enc : TypeId × Value → H} {W : World} {b0 : Nat} {held : Bool} {r : Reach}
set_option maxRecDepth 100000 in
/-- A slice that came in, its elements as they are read. -/
theorem slice_of {α : Type} (t e : TypeId) (k : Nat) (ev : α → List Value) (G : α → Prop) (z : α) (hu : Try.prog.underlying t = some (.slice e)) (hk : Try.prog.cellsOf e = k) (hk0 : 0 < k)
    (hof : ∀ fuel cs x, DataW.trod enc Try.prog W 0 (fun _ => true) held fuel e cs = some x → ∃ a, cs = ev a ∧ G a) {v : Value} {d : DataW H} {ps : List MemPlace}
    (hv : Value.okWide Try.prog W r b0 t v) (hd : DataW.Trod enc Try.prog W 0 (fun _ => true) held t v d ps) (hl : ∀ a, (ev a).length = k) :
    ∃ l : List α, LAt k ev W v l ∧ (∀ a ∈ l, G a) ∧ ∀ x ∈ ps, x.block < W.heap.size := by
  obtain ⟨fuel, hf⟩ := hd
  have hlt := DataW.trod_lt _ _ _ _ hf
  obtain ⟨ao, n, c, rfl⟩ := okWide_slice hu hv
  have hf' : DataW.trod enc Try.prog W 0 (fun _ => true) held fuel t [.slice ao n c] = some (d, ps) := hf
  rcases open_slice hu hf' with ⟨hcs, _⟩ | ⟨a, len, cap, m, n', D, Pl, hcs, _, hle, hcap, hm, _, hi⟩
  · cases hcs
    exact ⟨[], LAt.nil _ _ _, fun _ h => (by cases h), hlt⟩
  · cases hcs
    simp only [if_true] at hm
    subst hm
    have hall : ∀ i, ∃ X : α, i < m → (∀ j, j < k → W.cell? (a.add (i * k + j)) = (ev X)[j]?) ∧ G X := by
      intro i
      by_cases h' : i < m
      · obtain ⟨cs', hc, ht⟩ := hi i h'
        rw [hk] at hc
        obtain ⟨_, hcl, hat⟩ := World.cells?_some hc
        obtain ⟨X, hX, hok⟩ := hof _ _ _ ht
        refine ⟨X, fun _ => ⟨fun j hj => ?_, hok⟩⟩
        have := hat j hj
        rw [add_add] at this
        rw [this, ← hX]
      · exact ⟨z, fun h => absurd h h'⟩
    obtain ⟨f, hF⟩ := Classical.axiomOfChoice hall
    by_cases hn : n = 0
    · subst hn
      exact ⟨[], LAt.nil _ _ _, fun _ h => (by cases h), hlt⟩
    · have hc0 := (hF 0 (by omega)).1 0 hk0
      have hc1 : W.cell? (a.add (0 * k + 0)) = some ((ev (f 0))[0]'(by rw [hl]; exact hk0)) := by rw [hc0, List.getElem?_eq_getElem (by rw [hl]; exact hk0)]
      obtain ⟨hb, hsp⟩ := addr_lt hc1
      have hb0 : (a.add (0 * k + 0)).block = a.block := by simp [Addr.add]
      have hs0 : (a.add (0 * k + 0)).spot = a.spot := by simp [Addr.add]
      rw [hb0] at hb
      rw [hs0] at hsp
      obtain ⟨b, o, sp⟩ := a
      have hsp' : sp = none := hsp
      subst hsp'
      have hlen : ((List.range n).map f).length = n := by rw [List.length_map, List.length_range]
      refine ⟨(List.range n).map f, ⟨Or.inr ⟨b, o, m, by rw [hlen], by rw [hlen]; exact hle, hb, fun j hj i hi => ?_⟩, by rw [hlen]; omega⟩, fun x hx => ?_, hlt⟩
      · have hj2 : j < n := by simpa using hj
        have := (hF j (by omega)).1 i hi
        rw [add_at, ← Nat.add_assoc] at this
        rw [this]
        simp
      · obtain ⟨j, hj, rfl⟩ := List.mem_map.1 hx
        exact (hF j (by have := List.mem_range.1 hj; omega)).2
set_option maxRecDepth 100000 in
theorem pg_of {n : Nat} {cs : List Value} {x : DataW H × List MemPlace} (h : DataW.trod enc Try.prog W 0 (fun _ => true) held n tPg cs = some x) : ∃ X : PgM, cs = pgV X := by
  obtain ⟨ys, k, _, _, hlen, hyl, hf⟩ := DataW.trod_struct Try.underlying45 h
  rw [cellsPg] at hlen
  match cs, hlen with
  | [c0, c1], _ =>
    have e0 : DataW.trod enc Try.prog W 0 (fun _ => true) held k 3 [c0] = some (ys[0]'(by rw [hyl]; decide)) := by
      have e : DataW.trod enc Try.prog W 0 (fun _ => true) held k 3 (List.take (Try.prog.cellsOf 3) (List.drop 0 [c0, c1])) = ys[0]? := hf 0 _ rfl
      rw [cellsInt, List.getElem?_eq_getElem (by rw [hyl]; decide)] at e
      exact e
    have e1 : DataW.trod enc Try.prog W 0 (fun _ => true) held k 9 [c1] = some (ys[1]'(by rw [hyl]; decide)) := by
      have e : DataW.trod enc Try.prog W 0 (fun _ => true) held k 9 (List.take (Try.prog.cellsOf 9) (List.drop 1 [c0, c1])) = ys[1]? := hf 1 _ rfl
      rw [cellsStr, List.getElem?_eq_getElem (by rw [hyl]; decide)] at e
      exact e
    obtain ⟨z0, h0, _, _⟩ := DataW.trod_int Try.underlying3 e0
    obtain ⟨z1, h1, _, _⟩ := DataW.trod_string Try.underlying9 e1
    have h0' : c0 = .int .i64 z0 := by simpa using h0
    have h1' : c1 = .string z1 := by simpa using h1
    subst h0' h1'
    exact ⟨⟨z0, z1⟩, rfl⟩
abbrev PAt (w : World) (x : Value) (l : List PgM) : Prop := LAt 2 pgV w x l
set_option maxRecDepth 100000 in
theorem pages_of {v : Value} {d : DataW H} {ps : List MemPlace} (hv : Value.okWide Try.prog W r b0 tPgs v) (hd : DataW.Trod enc Try.prog W 0 (fun _ => true) held tPgs v d ps) :
    ∃ l : List PgM, PAt W v l ∧ ∀ x ∈ ps, x.block < W.heap.size := by
  obtain ⟨l, h1, -, h3⟩ := slice_of (enc := enc) tPgs tPg 2 pgV (fun _ => True) ⟨0, ⟨#[]⟩⟩ Try.underlying36 cellsPg (by decide) (fun _ _ _ h => by
    obtain ⟨X, hX⟩ := pg_of h
    exact ⟨X, hX, trivial⟩) hv hd (fun _ => rfl)
  exact ⟨l, h1, h3⟩
end
/-! ### Fit -/
theorem fit_dec (h : Hd) : Fit h ↔ (h.mode = 1 ∨ h.mode = 2) ∧ 1 ≤ h.pages ∧ h.pages ≤ 4096 ∧ (0 ≤ h.trunk ∧ h.trunk < h.pages) ∧ (0 ≤ h.spare ∧ h.spare < h.pages) ∧ (0 ≤ h.root ∧ h.root < h.pages) ∧ (h.spare = 0 ↔ h.trunk = 0) := Iff.rfl
instance (h : Hd) : Decidable (Fit h) := by
  unfold Fit
  exact inferInstance
def fitB (h : Hd) : Bool := decide (Fit h)
theorem fit_eqb (S T : Int) : ((S == 0) == (T == 0)) = decide (S = 0 ↔ T = 0) := by
  have e : ∀ x : Int, (x == 0) = decide (x = 0) := fun x => by rw [Bool.eq_iff_iff, beq_iff_eq, decide_eq_true_eq]
  rw [e, e]
  by_cases hS : S = 0 <;> by_cases hT : T = 0 <;> simp [hS, hT]
set_option maxRecDepth 100000 in
set_option maxHeartbeats 1000000 in
theorem rfit_any (h : Hd) (w : World) :
    Calls Try.prog 14 #[hV h] w fun e w' => e = .returned (.bool (fitB h)) ∧ Below w.heap.size w w' := by
  obtain ⟨M, P, T, S, R, C⟩ := h
  unfold hV
  go_enter Try.func14, Try.ntmps14
  go_wp2
  all_goals
    go_ret
    refine ⟨congrArg (fun b => Ending.returned (.bool b)) ?_, (Below.refl _ _).alloc (Nat.le_refl _) _⟩
    unfold fitB
    first
      | exact (decide_eq_false (by unfold Fit; simp only; omega)).symm
      | (rw [fit_eqb]; exact decide_eq_decide.2 (by unfold Fit; simp only; omega))
end Sp
end Go.Proofs.Ytkoglikaaehhjaa
