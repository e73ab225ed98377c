/-
  What comes in, for any layer: a slice of the law's, its elements as they are read.
-/
import Derived.Test.YtgmbiiocjhkpdaaGreatMem
import Derived.ProofKit
import Derived.OpenShut
import Derived.ShutString
import Derived.Deep.Slices
import Derived.Deep.Fields
import Derived.SizedLaws
import Derived.Carry
import Derived.Lib.SmallJoins
namespace Go.Proofs.YtgmbiiocjhkpdaaGreat
open Go.ChangeShapes Go.WideShapes Go.ChangeAt Go.RowKit Go.Joins Go.Deep
namespace Opn
open Mem (Bs bs LAt tI tS)
theorem addr_lt {w : World} {a : Addr} {v : Value} (h : w.cell? a = some v) : a.block < w.heap.size ∧ a.spot = none := by
  constructor
  · rcases Nat.lt_or_ge a.block w.heap.size with h' | h'
    · exact h'
    · simp [World.cell?, Array.getElem?_eq_none h'] at h
  · cases hs : a.spot with
    | none => rfl
    | some x =>
      exfalso
      unfold World.cell? at h
      rw [hs] at h
      split at h
      · simp at h
      · cases h
theorem add_at (b o n : Nat) : (⟨b, o, none⟩ : Addr).add n = ⟨b, o + n, none⟩ := by simp [Addr.add]
section
variable {H : Type} {enc : TypeId × Value → H} {W : World} {b0 : Nat} {held : Bool} {r : Reach}
theorem weights_all {e : TypeId} : ∀ {ds : List (DataW H)} {d : DataW H}, d ∈ ds → ∀ n ∈ d.weights Tryz.prog e, n ∈ DataW.weightsAll Tryz.prog e ds
  | d :: r, x, hx, n, hn => by
    rw [DataW.weightsAll]
    rcases List.mem_cons.1 hx with rfl | hx
    · exact List.mem_append_left _ hn
    · exact List.mem_append_right _ (weights_all hx n hn)
set_option maxRecDepth 100000 in
/-- A slice that came in: its elements as they are read, and what each of them keeps. -/
theorem list_in {α : Type} (none' : α) (t e : TypeId) (k : Nat) (eα : α → List Value) (G : α → Prop) (hu : Tryz.prog.underlying t = some (.slice e)) (hce : Tryz.prog.cellsOf e = k) (hk : 0 < k) (hby : 0 < Tryz.prog.bytesOf e)
    (hel : ∀ n cs x, DataW.trod enc Tryz.prog W 0 (fun _ => true) held n e cs = some x → (∀ m ∈ x.1.weights Tryz.prog e, m ≤ reachBytes) → ∃ a : α, cs = eα a ∧ (eα a).length = k ∧ G a)
    {n : Nat} {v : Value} {x : DataW H × List MemPlace} (h : DataW.trod enc Tryz.prog W 0 (fun _ => true) held n t [v] = some x) (hz : ∀ n ∈ x.1.weights Tryz.prog t, n ≤ reachBytes) :
    ∃ l : List α, LAt k eα W v l ∧ ∀ a ∈ l, G a := by
  rcases open_slice hu h with ⟨hcs, _⟩ | ⟨a, len, cap, m, n', D, Pl, hcs, _, hle, hcap, hm, hx, hi⟩
  · simp only [List.cons.injEq, and_true] at hcs
    subst hcs
    exact ⟨[], LAt.nil _ _ _, fun _ h => (by cases h)⟩
  · simp only [List.cons.injEq, and_true] at hcs
    subst hcs
    simp only [if_true] at hm
    subst hm
    have hdd : x.1 = .slice ((List.range len).map D) ((List.range (m - len)).map fun j => D (len + j)) := congrArg Prod.fst hx
    have hw : x.1.weights Tryz.prog t = (((List.range len).map D).length + ((List.range (m - len)).map fun j => D (len + j)).length) * Tryz.prog.bytesOf e :: (DataW.weightsAll Tryz.prog e ((List.range len).map D) ++ DataW.weightsAll Tryz.prog e ((List.range (m - len)).map fun j => D (len + j))) := by
      rw [hdd]
      simp only [DataW.weights, hu]
    rw [hw] at hz
    have hlen : len ≤ reachBytes := by
      have h0 := hz _ (List.mem_cons_self)
      rw [List.length_map, List.length_range, List.length_map, List.length_range] at h0
      refine Nat.le_trans ?_ h0
      exact Nat.le_trans (Nat.le_add_right len (m - len)) (Nat.le_mul_of_pos_right _ hby)
    have hall : ∀ i, ∃ X : α, i < len → (∀ j, j < k → W.cell? (a.add (i * k + j)) = (eα X)[j]?) ∧ G X ∧ (eα X).length = k := by
      intro i
      by_cases h' : i < len
      · obtain ⟨cs', hc, ht⟩ := hi i (by omega)
        rw [hce] at hc
        obtain ⟨_, hcl, hat⟩ := World.cells?_some hc
        obtain ⟨X, hX, hXl, hG⟩ := hel _ _ _ ht (fun m hm => hz _ (List.mem_cons_of_mem _ (List.mem_append_left _ (weights_all (List.mem_map.2 ⟨i, List.mem_range.2 h', rfl⟩) _ hm))))
        refine ⟨X, fun _ => ⟨fun j hj => ?_, hG, hXl⟩⟩
        have := hat j hj
        rw [add_add, hX] at this
        rw [this]
      · exact ⟨none', fun h => absurd h h'⟩
    obtain ⟨f, hF⟩ := Classical.axiomOfChoice hall
    by_cases hn : len = 0
    · subst hn
      exact ⟨[], LAt.nil _ _ _, fun _ h => (by cases h)⟩
    · obtain ⟨hc0, -, hl0⟩ := hF 0 (by omega)
      have hc1 := hc0 0 hk
      rw [List.getElem?_eq_getElem (by omega)] at hc1
      obtain ⟨hb, hsp⟩ := addr_lt hc1
      have hb0 : (a.add (0 * k + 0)).block = a.block := by simp [Addr.add]
      have hs0 : (a.add (0 * k + 0)).spot = a.spot := by simp [Addr.add]
      rw [hb0] at hb
      rw [hs0] at hsp
      obtain ⟨b, o, sp⟩ := a
      have hsp' : sp = none := hsp
      subst hsp'
      have hll : ((List.range len).map f).length = len := by rw [List.length_map, List.length_range]
      refine ⟨(List.range len).map f, ⟨Or.inr ⟨b, o, m, by rw [hll], by rw [hll]; exact hle, hb, fun j hj i hi' => ?_⟩, by rw [hll]; unfold reachBytes at hlen; unfold maxLen; omega⟩, ?_⟩
      · have hj2 : j < len := by omega
        have h3 := (hF j hj2).1 i hi'
        have e : ((List.range len).map f)[j] = f j := by simp
        rw [e]
        rw [add_at] at h3
        rw [Nat.add_assoc]
        exact h3
      · intro x hx
        obtain ⟨j, hj, rfl⟩ := List.mem_map.1 hx
        exact (hF j (List.mem_range.1 hj)).2.1
end
end Opn
end Go.Proofs.YtgmbiiocjhkpdaaGreat
