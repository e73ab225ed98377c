/-
  What the statements' rows give: a row of values that came in.
-/
import Derived.Test.YtiellodbkanciaaGreatDoorValFrame
import Derived.Test.YtiellodbkanciaaGreatDoorGrpRowA
import Derived.Deep.Slices
import Derived.Deep.Fields
import Derived.SizedLaws
namespace Go.Proofs.YtiellodbkanciaaGreatDoor
open Go.ChangeShapes Go.WideShapes Go.ChangeAt Go.RowKit Go.Joins Go.Deep
namespace Ro
open Va
/-- What memory can hold. -/
structure Few (l : Vs) : Prop where
  each : ∀ v ∈ l, v.S.size ≤ 140737488351232
  len : l.length ≤ 140737488351232
theorem addr_lt {w : World} {a : Addr} {v : Value} (h : w.cell? a = some v) : a.block < w.heap.size ∧ a.spot = none := by
  constructor
  · rcases Nat.lt_or_ge a.block w.heap.size with h' | h'
    · exact h'
    · simp [World.cell?, Array.getElem?_eq_none h'] at h
  · cases hs : a.spot with
    | none => rfl
    | some x =>
      exfalso
      unfold World.cell? at h
      rw [hs] at h
      split at h
      · simp at h
      · cases h
theorem add_at (b o n : Nat) : (⟨b, o, none⟩ : Addr).add n = ⟨b, o + n, none⟩ := by simp [Addr.add]
def V.cellL (v : V) : List Value := [.int .i64 v.K, .int .i64 v.N, .string v.S]
section
variable {H : Type} {enc : TypeId × Value → H} {W : World} {b0 : Nat} {held : Bool} {r : Reach}
set_option maxRecDepth 100000 in
/-- The cells of a value. -/
theorem val3_of {n : Nat} {cs : List Value} {x : DataW H × List MemPlace} (h : DataW.trod enc Tryz.prog W 0 (fun _ => true) held n tV cs = some x) :
    ∃ X : V, cs = X.cellL ∧ InI X.N ∧ X.S.size ∈ x.1.weights Tryz.prog tV := by
  obtain ⟨ys, k, _, hx, hlen, hyl, hf⟩ := DataW.trod_struct Tryz.underlying78 h
  rw [cellsVal] at hlen
  match cs, hlen with
  | [c0, c1, c2], _ =>
    match ys, hyl, hf, hx with
    | [y0, y1, y2], _, hf, hx =>
      have e0 : DataW.trod enc Tryz.prog W 0 (fun _ => true) held k 3 [c0] = some y0 := by
        have e : DataW.trod enc Tryz.prog W 0 (fun _ => true) held k 3 (List.take (Tryz.prog.cellsOf 3) (List.drop 0 [c0, c1, c2])) = some y0 := hf 0 _ rfl
        rw [cellsInt] at e; exact e
      have e1 : DataW.trod enc Tryz.prog W 0 (fun _ => true) held k 3 [c1] = some y1 := by
        have e : DataW.trod enc Tryz.prog W 0 (fun _ => true) held k 3 (List.take (Tryz.prog.cellsOf 3) (List.drop 1 [c0, c1, c2])) = some y1 := hf 1 _ rfl
        rw [cellsInt] at e; exact e
      have e2 : DataW.trod enc Tryz.prog W 0 (fun _ => true) held k 9 [c2] = some y2 := by
        have e : DataW.trod enc Tryz.prog W 0 (fun _ => true) held k 9 (List.take (Tryz.prog.cellsOf 9) (List.drop 2 [c0, c1, c2])) = some y2 := hf 2 _ rfl
        rw [cellsStr] at e; exact e
      obtain ⟨z0, h0, _, w0⟩ := DataW.trod_int Tryz.underlying3 e0
      obtain ⟨z1, h1, _, w1⟩ := DataW.trod_int Tryz.underlying3 e1
      obtain ⟨z2, h2, hy2, _⟩ := DataW.trod_string Tryz.underlying9 e2
      simp at h0 h1 h2
      subst h0 h1 h2
      refine ⟨⟨z0, z1, z2⟩, rfl, Num.int_i64 w1, ?_⟩
      subst hy2
      have hxf : x.1 = .agg [y0.1, y1.1, .lit (.string z2.data.toList)] := by rw [hx]; rfl
      rw [hxf]
      simp [DataW.weights, DataW.weightsEach, Tryz.underlying78]
theorem weights_all {e : TypeId} : ∀ {ds : List (DataW H)} {d : DataW H}, d ∈ ds → ∀ n ∈ d.weights Tryz.prog e, n ∈ DataW.weightsAll Tryz.prog e ds
  | d :: r, x, hx, n, hn => by
    rw [DataW.weightsAll]
    rcases List.mem_cons.1 hx with rfl | hx
    · exact List.mem_append_left _ hn
    · exact List.mem_append_right _ (weights_all hx n hn)
theorem bytesV : Tryz.prog.bytesOf tV = 32 := by kernel_rfl
set_option maxRecDepth 100000 in
/-- A row that came in. -/
theorem row_of {v : Value} {d : DataW H} {ps : List MemPlace} (hv : Value.okWide Tryz.prog W r b0 tR v) (hd : DataW.Trod enc Tryz.prog W 0 (fun _ => true) held tR v d ps) (hz : ∀ n ∈ d.weights Tryz.prog tR, n ≤ reachBytes) :
    ∃ l : Vs, RowAt W v l ∧ Wide l ∧ Few l ∧ ∀ x ∈ ps, x.block < W.heap.size := by
  obtain ⟨fuel, hf⟩ := hd
  have hlt := DataW.trod_lt _ _ _ _ hf
  obtain ⟨ao, n, c, rfl⟩ := okWide_slice Tryz.underlying41 hv
  have hf' : DataW.trod enc Tryz.prog W 0 (fun _ => true) held fuel tR [.slice ao n c] = some (d, ps) := hf
  rcases open_slice Tryz.underlying41 hf' with ⟨hcs, _⟩ | ⟨a, len, cap, m, n', D, Pl, hcs, _, hle, hcap, hm, hx, hi⟩
  · cases hcs
    exact ⟨[], RowAt.nil _ _ _, fun _ h => (by cases h), ⟨fun _ h => (by cases h), Nat.zero_le _⟩, hlt⟩
  · cases hcs
    simp only [if_true] at hm
    subst hm
    have hdd : d = .slice ((List.range n).map D) ((List.range (m - n)).map fun j => D (n + j)) := congrArg Prod.fst hx
    rw [hdd] at hz
    have hw : d.weights Tryz.prog tR = (((List.range n).map D).length + ((List.range (m - n)).map fun j => D (n + j)).length) * Tryz.prog.bytesOf tV :: (DataW.weightsAll Tryz.prog tV ((List.range n).map D) ++ DataW.weightsAll Tryz.prog tV ((List.range (m - n)).map fun j => D (n + j))) := by
      rw [hdd]
      simp only [DataW.weights, Tryz.underlying41]
    rw [← hdd, hw] at hz
    have hlen : n ≤ 140737488351232 := by
      have := hz _ (List.mem_cons_self)
      rw [bytesV, List.length_map, List.length_range, List.length_map, List.length_range] at this
      unfold reachBytes at this
      omega
    have hall : ∀ i, ∃ X : V, i < n → (∀ j, j < 3 → W.cell? (a.add (i * 3 + j)) = X.cellL[j]?) ∧ InI X.N ∧ X.S.size ≤ 140737488351232 := by
      intro i
      by_cases h' : i < n
      · obtain ⟨cs', hc, ht⟩ := hi i (by omega)
        rw [cellsVal] at hc
        obtain ⟨_, hcl, hat⟩ := World.cells?_some hc
        obtain ⟨X, hX, hok, hmem⟩ := val3_of ht
        refine ⟨X, fun _ => ⟨fun j hj => ?_, hok, ?_⟩⟩
        · have := hat j hj
          rw [add_add, hX] at this
          rw [this]
        · have := hz _ (List.mem_cons_of_mem _ (List.mem_append_left _ (weights_all (List.mem_map.2 ⟨i, List.mem_range.2 h', rfl⟩) _ hmem)))
          unfold reachBytes at this
          omega
      · exact ⟨⟨0, 0, ⟨#[]⟩⟩, fun h => absurd h h'⟩
    obtain ⟨f, hF⟩ := Classical.axiomOfChoice hall
    by_cases hn : n = 0
    · subst hn
      exact ⟨[], RowAt.nil _ _ _, fun _ h => (by cases h), ⟨fun _ h => (by cases h), Nat.zero_le _⟩, hlt⟩
    · have hc0 := (hF 0 (by omega)).1 0 (by decide)
      have hc1 : W.cell? (a.add (0 * 3 + 0)) = some (.int .i64 (f 0).K) := hc0
      obtain ⟨hb, hsp⟩ := addr_lt hc1
      have hb0 : (a.add (0 * 3 + 0)).block = a.block := by simp [Addr.add]
      have hs0 : (a.add (0 * 3 + 0)).spot = a.spot := by simp [Addr.add]
      rw [hb0] at hb
      rw [hs0] at hsp
      obtain ⟨b, o, sp⟩ := a
      have hsp' : sp = none := hsp
      subst hsp'
      have hll : ((List.range n).map f).length = n := by rw [List.length_map, List.length_range]
      refine ⟨(List.range n).map f, ⟨Or.inr ⟨b, o, m, by rw [hll], by rw [hll]; exact hle, hb, fun j hj => ?_⟩, by rw [hll]; omega⟩, ?_, ⟨?_, by rw [hll]; exact hlen⟩, hlt⟩
      · have hj2 : j < n := by omega
        have h3 := (hF j hj2).1
        have e : ((List.range n).map f)[j] = f j := by simp
        rw [e]
        have g0 := h3 0 (by decide)
        have g1 := h3 1 (by decide)
        have g2 := h3 2 (by decide)
        rw [add_at] at g0 g1 g2
        exact ⟨g0, by rw [Nat.add_assoc]; exact g1, by rw [Nat.add_assoc]; exact g2⟩
      · intro x hx
        obtain ⟨j, hj, rfl⟩ := List.mem_map.1 hx
        exact (hF j (List.mem_range.1 hj)).2.1
      · intro x hx
        obtain ⟨j, hj, rfl⟩ := List.mem_map.1 hx
        exact (hF j (List.mem_range.1 hj)).2.2
end
end Ro
end Go.Proofs.YtiellodbkanciaaGreatDoor
