/-
  Acts that came in: a struct by value, a slice of them, as they are read.
-/
import Derived.Test.YtiomojidfkpagaaGrpDskE
import Derived.ProofKit
import Derived.OpenShut
import Derived.ShutString
import Derived.Deep.Slices
import Derived.Deep.Fields
import Derived.Lib.SmallJoins
import Derived.ChangeOld
import Derived.Carry
namespace Go.Proofs.Ytiomojidfkpagaa
open Go.RowKit Go.ChangeShapes Go.WideShapes Go.Joins Go.Deep
namespace Disk

theorem laidOut : laidOutB Try.prog = true := by kernel_rfl
theorem own : ownKnob Try.prog.godebug = none := by kernel_rfl
theorem cellsInt : Try.prog.cellsOf 3 = 1 := by kernel_rfl
theorem cellsStr : Try.prog.cellsOf 9 = 1 := by kernel_rfl
theorem cellsU8 : Try.prog.cellsOf 5 = 1 := by kernel_rfl
theorem cellsInts : Try.prog.cellsOf 31 = 1 := by kernel_rfl
theorem cellsAct : Try.prog.cellsOf tAct = 6 := by kernel_rfl

section
variable {H : Type} {enc : TypeId × Value → H} {W : World} {b0 : Nat} {held : Bool} {r : Reach}
theorem addr_lt {w : World} {a : Addr} {v : Value} (h : w.cell? a = some v) : a.block < w.heap.size ∧ a.spot = none := by
  constructor
  · rcases Nat.lt_or_ge a.block w.heap.size with h' | h'
    · exact h'
    · simp [World.cell?, Array.getElem?_eq_none h'] at h
  · cases hs : a.spot with
    | none => rfl
    | some x =>
      exfalso
      unfold World.cell? at h
      rw [hs] at h
      split at h
      · simp at h
      · cases h
theorem byte_of {a : Int} (h : (Lit.int .u8 a).wf = true) : ∃ b : UInt8, a = (b.toNat : Int) := by
  have hb := bounds_u8 h
  refine ⟨UInt8.ofNat a.toNat, ?_⟩
  rw [UInt8.toNat_ofNat']
  omega

set_option maxRecDepth 100000 in
/-- A slice of ints, as it is read. -/
theorem ints_of {n : Nat} {v : Value} {x : DataW H × List MemPlace} (h : DataW.trod enc Try.prog W 0 (fun _ => true) held n 31 [v] = some x) :
    ∃ l : List Int, l.length ≤ maxLen ∧ IntsAt W v l ∧ (∃ ao nn cap, v = .slice ao nn cap) ∧ ∀ b o k cap, v = .slice (some ⟨b, o, none⟩) k cap → k ≠ 0 → b < W.heap.size := by
  rcases open_slice Try.underlying31 h with ⟨hcs, _⟩ | ⟨a, len, cap, m, n', D, Pl, hcs, _, hle, hcap, hm, _, hi⟩
  · simp only [List.cons.injEq, and_true] at hcs
    subst hcs
    exact ⟨[], Nat.zero_le _, Or.inl ⟨none, 0, rfl, rfl⟩, ⟨_, _, _, rfl⟩, fun b o k cap e => by cases e⟩
  · simp only [List.cons.injEq, and_true] at hcs
    subst hcs
    simp only [if_true] at hm
    subst hm
    have hall : ∀ i, i < m → ∃ z : Int, W.cell? (a.add i) = some (.int .i64 z) := by
      intro i hi'
      obtain ⟨cs', hc, ht⟩ := hi i hi'
      rw [cellsInt] at hc
      obtain ⟨_, hcl, hat⟩ := World.cells?_some hc
      obtain ⟨z, hz, _⟩ := DataW.trod_int Try.underlying3 ht
      have := hat 0 (by omega)
      rw [hz] at this
      refine ⟨z, ?_⟩
      rw [Nat.mul_one] at this
      have e : (a.add i).add 0 = a.add i := by simp [Addr.add]
      rw [e] at this
      exact this
    by_cases hn : len = 0
    · subst hn
      exact ⟨[], Nat.zero_le _, Or.inl ⟨some a, m, rfl, rfl⟩, ⟨_, _, _, rfl⟩, fun b o k cap e hk => by cases e; exact absurd rfl hk⟩
    · obtain ⟨z0, hz0⟩ := hall 0 (by omega)
      obtain ⟨hlt, hsp⟩ := addr_lt hz0
      have hb0 : (a.add 0).block = a.block := by simp [Addr.add]
      have hs0 : (a.add 0).spot = a.spot := by simp [Addr.add]
      rw [hb0] at hlt
      rw [hs0] at hsp
      obtain ⟨b, o, sp⟩ := a
      have hsp' : sp = none := hsp
      subst hsp'
      have hval : ∀ i, ∃ z : Int, i < m → W.cell? ((⟨b, o, none⟩ : Addr).add i) = some (.int .i64 z) := fun i => by
        by_cases h' : i < m
        · obtain ⟨z, hz⟩ := hall i h'
          exact ⟨z, fun _ => hz⟩
        · exact ⟨0, fun h => absurd h h'⟩
      obtain ⟨f, hB⟩ := Classical.axiomOfChoice hval
      refine ⟨(List.range len).map f, by rw [List.length_map, List.length_range]; omega, Or.inr ⟨b, o, m, by rw [List.length_map, List.length_range], hlt, fun j hj => ?_⟩, ⟨_, _, _, rfl⟩, fun b' o' k cap e _ => by cases e; exact hlt⟩
      have hj2 : j < len := by simpa using hj
      have := hB j (by omega)
      rw [show (⟨b, o, none⟩ : Addr).add j = ⟨b, o + j, none⟩ from by simp [Addr.add]] at this
      rw [this]
      simp

set_option maxRecDepth 100000 in
/-- The cells of an act. -/
theorem act_of {n : Nat} {cs : List Value} {x : DataW H × List MemPlace} (h : DataW.trod enc Try.prog W 0 (fun _ => true) held n tAct cs = some x) :
    ∃ X : ActM, cs = X.cells.toList ∧ ActOk W.heap.size W X ∧ ∃ ao nn cap, X.fv = .slice ao nn cap := by
  obtain ⟨ys, k, _, _, hlen, hyl, hf⟩ := DataW.trod_struct Try.underlying33 h
  rw [cellsAct] at hlen
  match cs, hlen with
  | [c0, c1, c2, c3, c4, c5], _ =>
    have e0 : DataW.trod enc Try.prog W 0 (fun _ => true) held k 3 [c0] = some (ys[0]'(by rw [hyl]; decide)) := by
      have e : DataW.trod enc Try.prog W 0 (fun _ => true) held k 3 (List.take (Try.prog.cellsOf 3) (List.drop 0 [c0, c1, c2, c3, c4, c5])) = ys[0]? := hf 0 _ rfl
      rw [cellsInt, List.getElem?_eq_getElem (by rw [hyl]; decide)] at e
      exact e
    have e1 : DataW.trod enc Try.prog W 0 (fun _ => true) held k 9 [c1] = some (ys[1]'(by rw [hyl]; decide)) := by
      have e : DataW.trod enc Try.prog W 0 (fun _ => true) held k 9 (List.take (Try.prog.cellsOf 9) (List.drop 1 [c0, c1, c2, c3, c4, c5])) = ys[1]? := hf 1 _ rfl
      rw [cellsStr, List.getElem?_eq_getElem (by rw [hyl]; decide)] at e
      exact e
    have e2 : DataW.trod enc Try.prog W 0 (fun _ => true) held k 3 [c2] = some (ys[2]'(by rw [hyl]; decide)) := by
      have e : DataW.trod enc Try.prog W 0 (fun _ => true) held k 3 (List.take (Try.prog.cellsOf 3) (List.drop 2 [c0, c1, c2, c3, c4, c5])) = ys[2]? := hf 2 _ rfl
      rw [cellsInt, List.getElem?_eq_getElem (by rw [hyl]; decide)] at e
      exact e
    have e3 : DataW.trod enc Try.prog W 0 (fun _ => true) held k 5 [c3] = some (ys[3]'(by rw [hyl]; decide)) := by
      have e : DataW.trod enc Try.prog W 0 (fun _ => true) held k 5 (List.take (Try.prog.cellsOf 5) (List.drop 3 [c0, c1, c2, c3, c4, c5])) = ys[3]? := hf 3 _ rfl
      rw [cellsU8, List.getElem?_eq_getElem (by rw [hyl]; decide)] at e
      exact e
    have e4 : DataW.trod enc Try.prog W 0 (fun _ => true) held k 3 [c4] = some (ys[4]'(by rw [hyl]; decide)) := by
      have e : DataW.trod enc Try.prog W 0 (fun _ => true) held k 3 (List.take (Try.prog.cellsOf 3) (List.drop 4 [c0, c1, c2, c3, c4, c5])) = ys[4]? := hf 4 _ rfl
      rw [cellsInt, List.getElem?_eq_getElem (by rw [hyl]; decide)] at e
      exact e
    have e5 : DataW.trod enc Try.prog W 0 (fun _ => true) held k 31 [c5] = some (ys[5]'(by rw [hyl]; decide)) := by
      have e : DataW.trod enc Try.prog W 0 (fun _ => true) held k 31 (List.take (Try.prog.cellsOf 31) (List.drop 5 [c0, c1, c2, c3, c4, c5])) = ys[5]? := hf 5 _ rfl
      rw [cellsInts, List.getElem?_eq_getElem (by rw [hyl]; decide)] at e
      exact e
    obtain ⟨z0, h0, _, w0⟩ := DataW.trod_int Try.underlying3 e0
    obtain ⟨z1, h1, _, w1⟩ := DataW.trod_string Try.underlying9 e1
    obtain ⟨z2, h2, _, w2⟩ := DataW.trod_int Try.underlying3 e2
    obtain ⟨z3, h3, _, w3⟩ := DataW.trod_int Try.underlying5 e3
    obtain ⟨z4, h4, _, w4⟩ := DataW.trod_int Try.underlying3 e4
    obtain ⟨fl, hfl, hI, ⟨ao, nn, cap, hv⟩, hold⟩ := ints_of e5
    have h0' : c0 = .int .i64 z0 := by simpa using h0
    have h1' : c1 = .string z1 := by simpa using h1
    have h2' : c2 = .int .i64 z2 := by simpa using h2
    have h3' : c3 = .int .u8 z3 := by simpa using h3
    have h4' : c4 = .int .i64 z4 := by simpa using h4
    obtain ⟨b, hb⟩ := byte_of w3
    have b2 := Num.int_i64 w2
    have b4 := Num.int_i64 w4
    refine ⟨⟨z0, z1, z2, b, z4, c5, fl⟩, ?_, ⟨w1, b2.2, b4.2, hI, hfl, hold⟩, ao, nn, cap, hv⟩
    subst h0' h1' h2' h3' h4' hb
    rfl

abbrev tActs : TypeId := 22
theorem add_at (b o n : Nat) : (⟨b, o, none⟩ : Addr).add n = ⟨b, o + n, none⟩ := by simp [Addr.add]

set_option maxRecDepth 100000 in
/-- A slice of acts that came in. -/
theorem acts_of {v : Value} {d : DataW H} {ps : List MemPlace} (hv : Value.okWide Try.prog W r b0 tActs v) (hd : DataW.Trod enc Try.prog W 0 (fun _ => true) held tActs v d ps) :
    ∃ l, ActsAt W.heap.size W v l ∧ ∀ x ∈ ps, x.block < W.heap.size := by
  obtain ⟨fuel, hf⟩ := hd
  have hlt := DataW.trod_lt _ _ _ _ hf
  obtain ⟨ao, n, c, rfl⟩ := okWide_slice Try.underlying22 hv
  have hf' : DataW.trod enc Try.prog W 0 (fun _ => true) held fuel tActs [.slice ao n c] = some (d, ps) := hf
  rcases open_slice Try.underlying22 hf' with ⟨hcs, _⟩ | ⟨a, len, cap, m, n', D, Pl, hcs, _, hle, hcap, hm, _, hi⟩
  · cases hcs
    exact ⟨[], ⟨Or.inl ⟨none, 0, rfl, rfl⟩, fun _ h => (by cases h), Nat.zero_le _⟩, hlt⟩
  · cases hcs
    simp only [if_true] at hm
    subst hm
    have hall : ∀ i, ∃ X : ActM, i < m → (∀ j, j < 6 → W.cell? (a.add (i * 6 + j)) = X.cells[j]?) ∧ ActOk W.heap.size W X := by
      intro i
      by_cases h' : i < m
      · obtain ⟨cs', hc, ht⟩ := hi i h'
        rw [cellsAct] at hc
        obtain ⟨_, hcl, hat⟩ := World.cells?_some hc
        obtain ⟨X, hX, hok, _⟩ := act_of ht
        refine ⟨X, fun _ => ⟨fun j hj => ?_, hok⟩⟩
        have := hat j hj
        rw [add_add, hX] at this
        rw [this]
        simp
      · exact ⟨⟨0, ⟨#[]⟩, 0, 0, 0, .bool false, []⟩, fun h => absurd h h'⟩
    obtain ⟨f, hF⟩ := Classical.axiomOfChoice hall
    by_cases hn : n = 0
    · subst hn
      exact ⟨[], ⟨Or.inl ⟨some a, m, rfl, rfl⟩, fun _ h => (by cases h), Nat.zero_le _⟩, hlt⟩
    · have hc0 := (hF 0 (by omega)).1 0 (by decide)
      have hc1 : W.cell? (a.add (0 * 6 + 0)) = some (.int .i64 (f 0).kind) := hc0
      obtain ⟨hb, hsp⟩ := addr_lt hc1
      have hb0 : (a.add (0 * 6 + 0)).block = a.block := by simp [Addr.add]
      have hs0 : (a.add (0 * 6 + 0)).spot = a.spot := by simp [Addr.add]
      rw [hb0] at hb
      rw [hs0] at hsp
      obtain ⟨b, o, sp⟩ := a
      have hsp' : sp = none := hsp
      subst hsp'
      refine ⟨(List.range n).map f, ⟨Or.inr ⟨b, o, m, by rw [List.length_map, List.length_range], hb, fun j hj i hi => ?_⟩, fun x hx => ?_, by rw [List.length_map, List.length_range]; omega⟩, hlt⟩
      · have hj2 : j < n := by simpa using hj
        have := (hF j (by omega)).1 i hi
        rw [add_at, ← Nat.add_assoc] at this
        rw [this]
        simp
      · obtain ⟨j, hj, rfl⟩ := List.mem_map.1 hx
        exact (hF j (by have := List.mem_range.1 hj; omega)).2

set_option maxRecDepth 100000 in
/-- An act that came in by value. -/
theorem act1_of {v : Value} {d : DataW H} {ps : List MemPlace} (hv : Value.okWide Try.prog W r b0 tAct v) (hd : DataW.Trod enc Try.prog W 0 (fun _ => true) held tAct v d ps) :
    ∃ X : ActM, v = .agg X.cells ∧ ActOk W.heap.size W X ∧ (∃ ao nn cap, X.fv = .slice ao nn cap) ∧ ∀ x ∈ ps, x.block < W.heap.size := by
  obtain ⟨cs, rfl, hsz⟩ := okWide_struct Try.underlying33 hv
  obtain ⟨fuel, hf⟩ := hd
  have hlt := DataW.trod_lt _ _ _ _ hf
  have hf' : DataW.trod enc Try.prog W 0 (fun _ => true) held fuel tAct cs.toList = some (d, ps) := by simpa [Value.cells] using hf
  obtain ⟨X, hX, hok, hfv⟩ := act_of hf'
  exact ⟨X, by rw [Array.ext' hX], hok, hfv, hlt⟩

set_option maxRecDepth 100000 in
/-- A slice of ints that came in. -/
theorem ints1_of {v : Value} {d : DataW H} {ps : List MemPlace} (hv : Value.okWide Try.prog W r b0 31 v) (hd : DataW.Trod enc Try.prog W 0 (fun _ => true) held 31 v d ps) :
    ∃ l : List Int, l.length ≤ maxLen ∧ IntsAt W v l ∧ (∀ b o k cap, v = .slice (some ⟨b, o, none⟩) k cap → k ≠ 0 → b < W.heap.size) ∧ ∀ x ∈ ps, x.block < W.heap.size := by
  obtain ⟨fuel, hf⟩ := hd
  have hlt := DataW.trod_lt _ _ _ _ hf
  obtain ⟨ao, n, c, rfl⟩ := okWide_slice Try.underlying31 hv
  have hf' : DataW.trod enc Try.prog W 0 (fun _ => true) held fuel 31 [.slice ao n c] = some (d, ps) := hf
  obtain ⟨l, h1, h2, _, h4⟩ := ints_of hf'
  exact ⟨l, h1, h2, h4, hlt⟩

end
end Disk
end Go.Proofs.Ytiomojidfkpagaa
