/-
  What the statements' rows give: a node that came in.
-/
import Derived.Test.YtkoglikaaehhjaaGreatDoorGrpNoA
import Derived.ProofKit
import Derived.OpenShut
import Derived.ShutString
import Derived.Deep.Slices
import Derived.Deep.Fields
import Derived.SizedLaws
import Derived.Carry
import Derived.Lib.SmallJoins
namespace Go.Proofs.YtkoglikaaehhjaaGreatDoor
open Go.ChangeShapes Go.WideShapes Go.ChangeAt Go.RowKit Go.Joins Go.Deep
namespace No
/-- What memory can hold. -/
structure Wide (n : N) : Prop where
  k : ∀ x ∈ n.ks, x.length ≤ 140737488351232
  c : ∀ x ∈ n.cs, x.d.length ≤ 140737488351232
theorem addr_lt {w : World} {a : Addr} {v : Value} (h : w.cell? a = some v) : a.block < w.heap.size ∧ a.spot = none := by
  constructor
  · rcases Nat.lt_or_ge a.block w.heap.size with h' | h'
    · exact h'
    · simp [World.cell?, Array.getElem?_eq_none h'] at h
  · cases hs : a.spot with
    | none => rfl
    | some x =>
      exfalso
      unfold World.cell? at h
      rw [hs] at h
      split at h
      · simp at h
      · cases h
theorem add_at (b o n : Nat) : (⟨b, o, none⟩ : Addr).add n = ⟨b, o + n, none⟩ := by simp [Addr.add]
theorem cellsI : Tryz.prog.cellsOf tI = 1 := by kernel_rfl
theorem cellsS : Tryz.prog.cellsOf tS = 1 := by kernel_rfl
theorem cellsB : Tryz.prog.cellsOf 4 = 1 := by kernel_rfl
theorem cellsC : Tryz.prog.cellsOf tC = 3 := by kernel_rfl
theorem cellsSs : Tryz.prog.cellsOf tSs = 1 := by kernel_rfl
theorem cellsIs : Tryz.prog.cellsOf tIs = 1 := by kernel_rfl
theorem cellsCs : Tryz.prog.cellsOf tCs = 1 := by kernel_rfl
theorem cellsN : Tryz.prog.cellsOf tN = 4 := by kernel_rfl
theorem bytesI : 0 < Tryz.prog.bytesOf tI := of_decide_eq_true (by kernel_rfl)
theorem bytesS : 0 < Tryz.prog.bytesOf tS := of_decide_eq_true (by kernel_rfl)
theorem bytesC : 0 < Tryz.prog.bytesOf tC := of_decide_eq_true (by kernel_rfl)
theorem array4 {α : Type} {cs : Array α} (h : cs.size = 4) : ∃ a b c d, cs = #[a, b, c, d] := by
  obtain ⟨l⟩ := cs
  match l, h with
  | [a, b, c, d], _ => exact ⟨a, b, c, d, rfl⟩
section
variable {H : Type} {enc : TypeId × Value → H} {W : World} {b0 : Nat} {held : Bool} {r : Reach}
theorem weights_all {e : TypeId} : ∀ {ds : List (DataW H)} {d : DataW H}, d ∈ ds → ∀ n ∈ d.weights Tryz.prog e, n ∈ DataW.weightsAll Tryz.prog e ds
  | d :: r, x, hx, n, hn => by
    rw [DataW.weightsAll]
    rcases List.mem_cons.1 hx with rfl | hx
    · exact List.mem_append_left _ hn
    · exact List.mem_append_right _ (weights_all hx n hn)
set_option maxRecDepth 100000 in
/-- A slice that came in. -/
theorem list_of {α : Type} (none' : α) (t e : TypeId) (k : Nat) (eα : α → List Value) (big : α → Nat) (hu : Tryz.prog.underlying t = some (.slice e)) (hce : Tryz.prog.cellsOf e = k) (hk : 0 < k) (hby : 0 < Tryz.prog.bytesOf e)
    (hel : ∀ n cs x, DataW.trod enc Tryz.prog W 0 (fun _ => true) held n e cs = some x → ∃ a : α, cs = eα a ∧ (eα a).length = k ∧ (big a = 0 ∨ big a ∈ x.1.weights Tryz.prog e))
    {n : Nat} {v : Value} {x : DataW H × List MemPlace} (h : DataW.trod enc Tryz.prog W 0 (fun _ => true) held n t [v] = some x) (hz : ∀ n ∈ x.1.weights Tryz.prog t, n ≤ reachBytes) :
    ∃ l : List α, LAt k eα W v l ∧ ∀ a ∈ l, big a ≤ reachBytes := by
  rcases open_slice hu h with ⟨hcs, _⟩ | ⟨a, len, cap, m, n', D, Pl, hcs, _, hle, hcap, hm, hx, hi⟩
  · simp only [List.cons.injEq, and_true] at hcs
    subst hcs
    exact ⟨[], LAt.nil _ _ _, fun _ h => (by cases h)⟩
  · simp only [List.cons.injEq, and_true] at hcs
    subst hcs
    simp only [if_true] at hm
    subst hm
    have hdd : x.1 = .slice ((List.range len).map D) ((List.range (m - len)).map fun j => D (len + j)) := congrArg Prod.fst hx
    have hw : x.1.weights Tryz.prog t = (((List.range len).map D).length + ((List.range (m - len)).map fun j => D (len + j)).length) * Tryz.prog.bytesOf e :: (DataW.weightsAll Tryz.prog e ((List.range len).map D) ++ DataW.weightsAll Tryz.prog e ((List.range (m - len)).map fun j => D (len + j))) := by
      rw [hdd]
      simp only [DataW.weights, hu]
    rw [hw] at hz
    have hlen : len ≤ reachBytes := by
      have h0 := hz _ (List.mem_cons_self)
      rw [List.length_map, List.length_range, List.length_map, List.length_range] at h0
      refine Nat.le_trans ?_ h0
      exact Nat.le_trans (Nat.le_add_right len (m - len)) (Nat.le_mul_of_pos_right _ hby)
    have hall : ∀ i, ∃ X : α, i < len → (∀ j, j < k → W.cell? (a.add (i * k + j)) = (eα X)[j]?) ∧ big X ≤ reachBytes ∧ (eα X).length = k := by
      intro i
      by_cases h' : i < len
      · obtain ⟨cs', hc, ht⟩ := hi i (by omega)
        rw [hce] at hc
        obtain ⟨_, hcl, hat⟩ := World.cells?_some hc
        obtain ⟨X, hX, hXl, hmem⟩ := hel _ _ _ ht
        refine ⟨X, fun _ => ⟨fun j hj => ?_, ?_, hXl⟩⟩
        · have := hat j hj
          rw [add_add, hX] at this
          rw [this]
        · rcases hmem with h0 | hmem
          · rw [h0]; exact Nat.zero_le _
          · exact hz _ (List.mem_cons_of_mem _ (List.mem_append_left _ (weights_all (List.mem_map.2 ⟨i, List.mem_range.2 h', rfl⟩) _ hmem)))
      · exact ⟨none', fun h => absurd h h'⟩
    obtain ⟨f, hF⟩ := Classical.axiomOfChoice hall
    by_cases hn : len = 0
    · subst hn
      exact ⟨[], LAt.nil _ _ _, fun _ h => (by cases h)⟩
    · obtain ⟨hc0, -, hl0⟩ := hF 0 (by omega)
      have hc1 := hc0 0 hk
      rw [List.getElem?_eq_getElem (by omega)] at hc1
      obtain ⟨hb, hsp⟩ := addr_lt hc1
      have hb0 : (a.add (0 * k + 0)).block = a.block := by simp [Addr.add]
      have hs0 : (a.add (0 * k + 0)).spot = a.spot := by simp [Addr.add]
      rw [hb0] at hb
      rw [hs0] at hsp
      obtain ⟨b, o, sp⟩ := a
      have hsp' : sp = none := hsp
      subst hsp'
      have hll : ((List.range len).map f).length = len := by rw [List.length_map, List.length_range]
      refine ⟨(List.range len).map f, ⟨Or.inr ⟨b, o, m, by rw [hll], by rw [hll]; exact hle, hb, fun j hj i hi' => ?_⟩, by rw [hll]; unfold reachBytes at hlen; unfold maxLen; omega⟩, ?_⟩
      · have hj2 : j < len := by omega
        have h3 := (hF j hj2).1 i hi'
        have e : ((List.range len).map f)[j] = f j := by simp
        rw [e]
        rw [add_at] at h3
        rw [Nat.add_assoc]
        exact h3
      · intro x hx
        obtain ⟨j, hj, rfl⟩ := List.mem_map.1 hx
        exact (hF j (List.mem_range.1 hj)).2.1
theorem str_el (n : Nat) (cs : List Value) (x : DataW H × List MemPlace) (h : DataW.trod enc Tryz.prog W 0 (fun _ => true) held n tS cs = some x) : ∃ a : Bs, cs = sV a ∧ (sV a).length = 1 ∧ (a.length = 0 ∨ a.length ∈ x.1.weights Tryz.prog tS) := by
  obtain ⟨z, h2, hy, _⟩ := DataW.trod_string Tryz.underlying9 h
  refine ⟨z.data.toList, h2, rfl, Or.inr ?_⟩
  rw [hy]
  simp [DataW.weights]
theorem int_el (n : Nat) (cs : List Value) (x : DataW H × List MemPlace) (h : DataW.trod enc Tryz.prog W 0 (fun _ => true) held n tI cs = some x) : ∃ a : Int, cs = iV a ∧ (iV a).length = 1 ∧ (0 = 0 ∨ 0 ∈ x.1.weights Tryz.prog tI) := by
  obtain ⟨z, h2, hy, _⟩ := DataW.trod_int Tryz.underlying3 h
  exact ⟨z, h2, rfl, Or.inl rfl⟩
set_option maxRecDepth 100000 in
theorem cell_el (n : Nat) (cs : List Value) (x : DataW H × List MemPlace) (h : DataW.trod enc Tryz.prog W 0 (fun _ => true) held n tC cs = some x) : ∃ a : C, cs = a.vals ∧ a.vals.length = 3 ∧ (a.d.length = 0 ∨ a.d.length ∈ x.1.weights Tryz.prog tC) := by
  obtain ⟨ys, k, _, hx, hlen, hyl, hf⟩ := DataW.trod_struct Tryz.underlying24 h
  rw [cellsC] at hlen
  match cs, hlen with
  | [c0, c1, c2], _ =>
    match ys, hyl, hf, hx with
    | [y0, y1, y2], _, hf, hx =>
      have e0 : DataW.trod enc Tryz.prog W 0 (fun _ => true) held k tI [c0] = some y0 := by
        have e : DataW.trod enc Tryz.prog W 0 (fun _ => true) held k tI (List.take (Tryz.prog.cellsOf tI) (List.drop 0 [c0, c1, c2])) = some y0 := hf 0 _ rfl
        rw [cellsI] at e; exact e
      have e1 : DataW.trod enc Tryz.prog W 0 (fun _ => true) held k tS [c1] = some y1 := by
        have e : DataW.trod enc Tryz.prog W 0 (fun _ => true) held k tS (List.take (Tryz.prog.cellsOf tS) (List.drop 1 [c0, c1, c2])) = some y1 := hf 1 _ rfl
        rw [cellsS] at e; exact e
      have e2 : DataW.trod enc Tryz.prog W 0 (fun _ => true) held k tI [c2] = some y2 := by
        have e : DataW.trod enc Tryz.prog W 0 (fun _ => true) held k tI (List.take (Tryz.prog.cellsOf tI) (List.drop 2 [c0, c1, c2])) = some y2 := hf 2 _ rfl
        rw [cellsI] at e; exact e
      obtain ⟨z0, h0, _, w0⟩ := DataW.trod_int Tryz.underlying3 e0
      obtain ⟨z1, h1, hy1, _⟩ := DataW.trod_string Tryz.underlying9 e1
      obtain ⟨z2, h2, _, w2⟩ := DataW.trod_int Tryz.underlying3 e2
      simp at h0 h1 h2
      subst h0 h1 h2
      refine ⟨⟨z0, z1.data.toList, z2⟩, rfl, rfl, Or.inr ?_⟩
      subst hy1
      have hxf : x.1 = .agg [y0.1, .lit (.string z1.data.toList), y2.1] := by rw [hx]; rfl
      rw [hxf]
      simp [DataW.weights, DataW.weightsEach, Tryz.underlying24]
set_option maxRecDepth 100000 in
/-- A node that came in. -/
theorem node_of {v : Value} {d : DataW H} {ps : List MemPlace} (hv : Value.okWide Tryz.prog W r b0 tN v) (hd : DataW.Trod enc Tryz.prog W 0 (fun _ => true) held tN v d ps) (hz : ∀ n ∈ d.weights Tryz.prog tN, n ≤ reachBytes) :
    ∃ (n : N) (kv cv pv : Value), v = nV n.f kv cv pv ∧ NAt W kv cv pv n ∧ Wide n ∧ ∀ x ∈ ps, x.block < W.heap.size := by
  obtain ⟨cs, rfl, hsz⟩ := okWide_struct Tryz.underlying114 hv
  obtain ⟨c0, c1, c2, c3, rfl⟩ := array4 (hsz.trans cellsN)
  obtain ⟨fuel, hf⟩ := hd
  have hlt := DataW.trod_lt _ _ _ _ hf
  have hf' : DataW.trod enc Tryz.prog W 0 (fun _ => true) held fuel tN [c0, c1, c2, c3] = some (d, ps) := hf
  obtain ⟨xs, n, _, hx, hl, hlen, hg⟩ := DataW.trod_struct Tryz.underlying114 hf'
  match xs, hlen, hg, hx with
  | [y0, y1, y2, y3], _, hg, hx =>
    have e0 : DataW.trod enc Tryz.prog W 0 (fun _ => true) held n 4 [c0] = some y0 := by
      have e : DataW.trod enc Tryz.prog W 0 (fun _ => true) held n 4 (List.take (Tryz.prog.cellsOf 4) (List.drop 0 [c0, c1, c2, c3])) = some y0 := hg 0 _ rfl
      rw [cellsB] at e; exact e
    have e1 : DataW.trod enc Tryz.prog W 0 (fun _ => true) held n tSs [c1] = some y1 := by
      have e : DataW.trod enc Tryz.prog W 0 (fun _ => true) held n tSs (List.take (Tryz.prog.cellsOf tSs) (List.drop 1 [c0, c1, c2, c3])) = some y1 := hg 1 _ rfl
      rw [cellsSs] at e; exact e
    have e2 : DataW.trod enc Tryz.prog W 0 (fun _ => true) held n tCs [c2] = some y2 := by
      have e : DataW.trod enc Tryz.prog W 0 (fun _ => true) held n tCs (List.take (Tryz.prog.cellsOf tCs) (List.drop 2 [c0, c1, c2, c3])) = some y2 := hg 2 _ rfl
      rw [cellsCs] at e; exact e
    have e3 : DataW.trod enc Tryz.prog W 0 (fun _ => true) held n tIs [c3] = some y3 := by
      have e : DataW.trod enc Tryz.prog W 0 (fun _ => true) held n tIs (List.take (Tryz.prog.cellsOf tIs) (List.drop 3 [c0, c1, c2, c3])) = some y3 := hg 3 _ rfl
      rw [cellsIs] at e; exact e
    have hd0 : d = .agg [y0.1, y1.1, y2.1, y3.1] := by
      have := congrArg Prod.fst hx
      exact this
    have hwt : ∀ m, (m ∈ y1.1.weights Tryz.prog tSs ∨ m ∈ y2.1.weights Tryz.prog tCs ∨ m ∈ y3.1.weights Tryz.prog tIs) → m ≤ reachBytes := by
      intro m hm
      refine hz m ?_
      rw [hd0]
      rcases hm with hm | hm | hm <;> simp [DataW.weights, DataW.weightsEach, Tryz.underlying114, hm]
    obtain ⟨f, h0, _⟩ := DataW.trod_bool Tryz.underlying4 e0
    obtain ⟨ks, hk, kw⟩ := list_of (α := Bs) [] tSs tS 1 sV List.length Tryz.underlying22 cellsS (by decide) bytesS str_el e1 (fun m hm => hwt m (Or.inl hm))
    obtain ⟨cl, hc, cw⟩ := list_of (α := C) ⟨0, [], 0⟩ tCs tC 3 C.vals (fun c => c.d.length) Tryz.underlying56 cellsC (by decide) bytesC cell_el e2 (fun m hm => hwt m (Or.inr (Or.inl hm)))
    obtain ⟨pl, hp, -⟩ := list_of (α := Int) 0 tIs tI 1 iV (fun _ => 0) Tryz.underlying33 cellsI (by decide) bytesI int_el e3 (fun m hm => hwt m (Or.inr (Or.inr hm)))
    simp at h0
    subst h0
    exact ⟨⟨f, ks, cl, pl⟩, c1, c2, c3, rfl, ⟨hk, hc, hp⟩, ⟨kw, cw⟩, hlt⟩
end
end No
end Go.Proofs.YtkoglikaaehhjaaGreatDoor
