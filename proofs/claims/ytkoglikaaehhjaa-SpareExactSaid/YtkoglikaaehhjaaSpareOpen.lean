/-
  What came in, as it is read: rows of ints, trunks by value.
-/
import Derived.Test.YtkoglikaaehhjaaSpareGood
import Derived.Test.YtkoglikaaehhjaaChecked
import Derived.ProofKit
import Derived.OpenShut
import Derived.ShutString
import Derived.Deep.Slices
import Derived.Deep.Fields
import Derived.Lib.SmallJoins
import Derived.ChangeOld
import Derived.Carry
namespace Go.Proofs.Ytkoglikaaehhjaa
open Go.RowKit Go.ChangeShapes Go.WideShapes Go.Joins Go.Deep
namespace Sp
open Mem (Bs bs IAt iV LAt)
theorem laidOut : laidOutB Try.prog = true := by kernel_rfl
theorem own : ownKnob Try.prog.godebug = none := by kernel_rfl
theorem cellsInt : Try.prog.cellsOf 3 = 1 := by kernel_rfl
theorem cellsStr : Try.prog.cellsOf 9 = 1 := by kernel_rfl
theorem cellsInts : Try.prog.cellsOf 22 = 1 := by kernel_rfl
theorem cellsTr : Try.prog.cellsOf tT = 2 := by kernel_rfl
section
variable {H : Type} {enc : TypeId × Value → H} {W : World} {b0 : Nat} {held : Bool} {r : Reach}
theorem addr_lt {w : World} {a : Addr} {v : Value} (h : w.cell? a = some v) : a.block < w.heap.size ∧ a.spot = none := by
  constructor
  · rcases Nat.lt_or_ge a.block w.heap.size with h' | h'
    · exact h'
    · simp [World.cell?, Array.getElem?_eq_none h'] at h
  · cases hs : a.spot with
    | none => rfl
    | some x =>
      exfalso
      unfold World.cell? at h
      rw [hs] at h
      split at h
      · simp at h
      · cases h
theorem add_at (b o n : Nat) : (⟨b, o, none⟩ : Addr).add n = ⟨b, o + n, none⟩ := by simp [Addr.add]
set_option maxRecDepth 100000 in
/-- A slice of ints, as it is read. -/
theorem ints_of {n : Nat} {v : Value} {x : DataW H × List MemPlace} (h : DataW.trod enc Try.prog W 0 (fun _ => true) held n 22 [v] = some x) :
    ∃ l : List Int, IAt W v l ∧ ∃ ao nn cap, v = .slice ao nn cap := by
  rcases open_slice Try.underlying22 h with ⟨hcs, _⟩ | ⟨a, len, cap, m, n', D, Pl, hcs, _, hle, hcap, hm, _, hi⟩
  · simp only [List.cons.injEq, and_true] at hcs
    subst hcs
    exact ⟨[], LAt.nil _ _ _, _, _, _, rfl⟩
  · simp only [List.cons.injEq, and_true] at hcs
    subst hcs
    simp only [if_true] at hm
    subst hm
    have hall : ∀ i, i < m → ∃ z : Int, W.cell? (a.add i) = some (.int .i64 z) := by
      intro i hi'
      obtain ⟨cs', hc, ht⟩ := hi i hi'
      rw [cellsInt] at hc
      obtain ⟨_, hcl, hat⟩ := World.cells?_some hc
      obtain ⟨z, hz, _⟩ := DataW.trod_int Try.underlying3 ht
      have := hat 0 (by omega)
      rw [hz] at this
      refine ⟨z, ?_⟩
      rw [Nat.mul_one] at this
      have e : (a.add i).add 0 = a.add i := by simp [Addr.add]
      rw [e] at this
      exact this
    by_cases hn : len = 0
    · subst hn
      exact ⟨[], LAt.nil _ _ _, _, _, _, rfl⟩
    · obtain ⟨z0, hz0⟩ := hall 0 (by omega)
      obtain ⟨hlt, hsp⟩ := addr_lt hz0
      have hb0 : (a.add 0).block = a.block := by simp [Addr.add]
      have hs0 : (a.add 0).spot = a.spot := by simp [Addr.add]
      rw [hb0] at hlt
      rw [hs0] at hsp
      obtain ⟨b, o, sp⟩ := a
      have hsp' : sp = none := hsp
      subst hsp'
      have hval : ∀ i, ∃ z : Int, i < m → W.cell? ((⟨b, o, none⟩ : Addr).add i) = some (.int .i64 z) := fun i => by
        by_cases h' : i < m
        · obtain ⟨z, hz⟩ := hall i h'
          exact ⟨z, fun _ => hz⟩
        · exact ⟨0, fun h => absurd h h'⟩
      obtain ⟨f, hB⟩ := Classical.axiomOfChoice hval
      have hlen : ((List.range len).map f).length = len := by rw [List.length_map, List.length_range]
      refine ⟨(List.range len).map f, ⟨Or.inr ⟨b, o, m, by rw [hlen], by rw [hlen]; exact hle, hlt, fun j hj i hi => ?_⟩, by rw [hlen]; omega⟩, _, _, _, rfl⟩
      have hj2 : j < len := by rw [hlen] at hj; exact hj
      have hi0 : i = 0 := by omega
      subst hi0
      have := hB j (by omega)
      rw [add_at] at this
      rw [Nat.mul_one, Nat.add_zero, this]
      simp [iV]
set_option maxRecDepth 100000 in
/-- A slice of ints that came in. -/
theorem ints1_of {v : Value} {d : DataW H} {ps : List MemPlace} (hv : Value.okWide Try.prog W r b0 22 v) (hd : DataW.Trod enc Try.prog W 0 (fun _ => true) held 22 v d ps) :
    ∃ l : List Int, IAt W v l ∧ ∀ x ∈ ps, x.block < W.heap.size := by
  obtain ⟨fuel, hf⟩ := hd
  have hlt := DataW.trod_lt _ _ _ _ hf
  obtain ⟨ao, n, c, rfl⟩ := okWide_slice Try.underlying22 hv
  have hf' : DataW.trod enc Try.prog W 0 (fun _ => true) held fuel 22 [.slice ao n c] = some (d, ps) := hf
  obtain ⟨l, h1, -⟩ := ints_of hf'
  exact ⟨l, h1, hlt⟩
set_option maxRecDepth 100000 in
/-- A trunk that came in by value. -/
theorem tr_of {v : Value} {d : DataW H} {ps : List MemPlace} (hv : Value.okWide Try.prog W r b0 tT v) (hd : DataW.Trod enc Try.prog W 0 (fun _ => true) held tT v d ps) :
    ∃ (t : Tr) (lv : Value), v = .agg #[.int .i64 t.next, lv] ∧ IAt W lv t.list ∧ ∀ x ∈ ps, x.block < W.heap.size := by
  obtain ⟨cs, rfl, hsz⟩ := okWide_struct Try.underlying24 hv
  obtain ⟨fuel, hf⟩ := hd
  have hlt := DataW.trod_lt _ _ _ _ hf
  have hf' : DataW.trod enc Try.prog W 0 (fun _ => true) held fuel tT cs.toList = some (d, ps) := by simpa [Value.cells] using hf
  obtain ⟨ys, k, _, _, hlen, hyl, hg⟩ := DataW.trod_struct Try.underlying24 hf'
  rw [cellsTr] at hlen
  obtain ⟨cl⟩ := cs
  simp only at hlen hg
  match cl, hlen with
  | [c0, c1], _ =>
    have e0 : DataW.trod enc Try.prog W 0 (fun _ => true) held k 3 [c0] = some (ys[0]'(by rw [hyl]; decide)) := by
      have e : DataW.trod enc Try.prog W 0 (fun _ => true) held k 3 (List.take (Try.prog.cellsOf 3) (List.drop 0 [c0, c1])) = ys[0]? := hg 0 _ rfl
      rw [cellsInt, List.getElem?_eq_getElem (by rw [hyl]; decide)] at e
      exact e
    have e1 : DataW.trod enc Try.prog W 0 (fun _ => true) held k 22 [c1] = some (ys[1]'(by rw [hyl]; decide)) := by
      have e : DataW.trod enc Try.prog W 0 (fun _ => true) held k 22 (List.take (Try.prog.cellsOf 22) (List.drop 1 [c0, c1])) = ys[1]? := hg 1 _ rfl
      rw [cellsInts, List.getElem?_eq_getElem (by rw [hyl]; decide)] at e
      exact e
    obtain ⟨z0, h0, _, w0⟩ := DataW.trod_int Try.underlying3 e0
    obtain ⟨l, hI, -⟩ := ints_of e1
    have h0' : c0 = .int .i64 z0 := by simpa using h0
    subst h0'
    exact ⟨⟨z0, l⟩, c1, rfl, hI, hlt⟩
end
end Sp
end Go.Proofs.Ytkoglikaaehhjaa
