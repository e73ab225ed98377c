/-
  What the statement's rows give: a row of acts, each with its row of fates.
-/
import Derived.Test.YtgmbiiocjhkpdaaGreatOpen
import Derived.Test.YtgmbiiocjhkpdaaGreatGrpLgX
namespace Go.Proofs.YtgmbiiocjhkpdaaGreat
open Go.ChangeShapes Go.WideShapes Go.ChangeAt Go.RowKit Go.Joins Go.Deep
namespace Lt
open Mem (Bs bs LAt)
theorem cellsIn : Tryz.prog.cellsOf 3 = 1 := by kernel_rfl
theorem cellsU8 : Tryz.prog.cellsOf 5 = 1 := by kernel_rfl
theorem cellsBo : Tryz.prog.cellsOf 4 = 1 := by kernel_rfl
theorem cellsIl : Tryz.prog.cellsOf 35 = 1 := by kernel_rfl
theorem cellsAc : Tryz.prog.cellsOf tAc = 5 := by kernel_rfl
theorem bytesAc : 0 < Tryz.prog.bytesOf tAc := of_decide_eq_true (by kernel_rfl)
section
variable {H : Type} {enc : TypeId × Value → H} {W : World} {b0 : Nat} {held : Bool} {r : Reach}
theorem addr_lt {w : World} {a : Addr} {v : Value} (h : w.cell? a = some v) : a.block < w.heap.size ∧ a.spot = none := by
  constructor
  · rcases Nat.lt_or_ge a.block w.heap.size with h' | h'
    · exact h'
    · simp [World.cell?, Array.getElem?_eq_none h'] at h
  · cases hs : a.spot with
    | none => rfl
    | some x =>
      exfalso
      unfold World.cell? at h
      rw [hs] at h
      split at h
      · simp at h
      · cases h
theorem u8_of {z : Int} (h : (Lit.int .u8 z).wf = true) : ∃ b : UInt8, z = (b.toNat : Int) := by
  have hb : 0 ≤ z ∧ z ≤ 255 := by simpa [Lit.wf, IntKind.min, IntKind.max, IntKind.signed, IntKind.bits] using h
  refine ⟨UInt8.ofNat z.toNat, ?_⟩
  have : (UInt8.ofNat z.toNat).toNat = z.toNat := by
    rw [UInt8.toNat_ofNat']
    omega
  rw [this]
  omega
set_option maxRecDepth 100000 in
/-- A slice of ints, as it is read. -/
theorem ints_in {n : Nat} {v : Value} {x : DataW H × List MemPlace} (h : DataW.trod enc Tryz.prog W 0 (fun _ => true) held n 35 [v] = some x) :
    ∃ l : List Int, l.length ≤ maxLen ∧ Disk.IntsAt W v l ∧ (∃ ao nn cap, v = .slice ao nn cap) ∧ ∀ b o k cap, v = .slice (some ⟨b, o, none⟩) k cap → k ≠ 0 → b < W.heap.size := by
  rcases open_slice Tryz.underlying35 h with ⟨hcs, _⟩ | ⟨a, len, cap, m, n', D, Pl, hcs, _, hle, hcap, hm, _, hi⟩
  · simp only [List.cons.injEq, and_true] at hcs
    subst hcs
    exact ⟨[], Nat.zero_le _, Or.inl ⟨none, 0, rfl, rfl⟩, ⟨_, _, _, rfl⟩, fun b o k cap e => by cases e⟩
  · simp only [List.cons.injEq, and_true] at hcs
    subst hcs
    simp only [if_true] at hm
    subst hm
    have hall : ∀ i, i < m → ∃ z : Int, W.cell? (a.add i) = some (.int .i64 z) := by
      intro i hi'
      obtain ⟨cs', hc, ht⟩ := hi i hi'
      rw [cellsIn] at hc
      obtain ⟨_, hcl, hat⟩ := World.cells?_some hc
      obtain ⟨z, hz, _⟩ := DataW.trod_int Tryz.underlying3 ht
      have := hat 0 (by omega)
      rw [hz] at this
      refine ⟨z, ?_⟩
      rw [Nat.mul_one] at this
      have e : (a.add i).add 0 = a.add i := by simp [Addr.add]
      rw [e] at this
      exact this
    by_cases hn : len = 0
    · subst hn
      exact ⟨[], Nat.zero_le _, Or.inl ⟨some a, m, rfl, rfl⟩, ⟨_, _, _, rfl⟩, fun b o k cap e hk => by cases e; exact absurd rfl hk⟩
    · obtain ⟨z0, hz0⟩ := hall 0 (by omega)
      obtain ⟨hlt, hsp⟩ := addr_lt hz0
      have hb0 : (a.add 0).block = a.block := by simp [Addr.add]
      have hs0 : (a.add 0).spot = a.spot := by simp [Addr.add]
      rw [hb0] at hlt
      rw [hs0] at hsp
      obtain ⟨b, o, sp⟩ := a
      have hsp' : sp = none := hsp
      subst hsp'
      have hval : ∀ i, ∃ z : Int, i < m → W.cell? ((⟨b, o, none⟩ : Addr).add i) = some (.int .i64 z) := fun i => by
        by_cases h' : i < m
        · obtain ⟨z, hz⟩ := hall i h'
          exact ⟨z, fun _ => hz⟩
        · exact ⟨0, fun h => absurd h h'⟩
      obtain ⟨f, hB⟩ := Classical.axiomOfChoice hval
      refine ⟨(List.range len).map f, by rw [List.length_map, List.length_range]; omega, Or.inr ⟨b, o, m, by rw [List.length_map, List.length_range], hlt, fun j hj => ?_⟩, ⟨_, _, _, rfl⟩, fun b' o' k cap e _ => by cases e; exact hlt⟩
      have hj2 : j < len := by simpa using hj
      have := hB j (by omega)
      rw [show (⟨b, o, none⟩ : Addr).add j = ⟨b, o + j, none⟩ from by simp [Addr.add]] at this
      rw [this]
      simp

set_option maxRecDepth 100000 in
theorem act_el (n : Nat) (cs : List Value) (x : DataW H × List MemPlace) (h : DataW.trod enc Tryz.prog W 0 (fun _ => true) held n tAc cs = some x) (_hz : ∀ m ∈ x.1.weights Tryz.prog tAc, m ≤ reachBytes) : ∃ a : AcC, cs = acV a ∧ (acV a).length = 5 ∧ AcOk W.heap.size W a := by
  obtain ⟨ys, k, _, hx, hlen, hyl, hf⟩ := DataW.trod_struct Tryz.underlying37 h
  rw [cellsAc] at hlen
  match cs, hlen with
  | [c0, c1, c2, c3, c4], _ =>
    match ys, hyl, hf, hx with
    | [y0, y1, y2, y3, y4], _, hf, hx =>
      have e0 : DataW.trod enc Tryz.prog W 0 (fun _ => true) held k 3 [c0] = some y0 := by
        have e : DataW.trod enc Tryz.prog W 0 (fun _ => true) held k 3 (List.take (Tryz.prog.cellsOf 3) (List.drop 0 [c0, c1, c2, c3, c4])) = some y0 := hf 0 _ rfl
        rw [cellsIn] at e; exact e
      have e1 : DataW.trod enc Tryz.prog W 0 (fun _ => true) held k 3 [c1] = some y1 := by
        have e : DataW.trod enc Tryz.prog W 0 (fun _ => true) held k 3 (List.take (Tryz.prog.cellsOf 3) (List.drop 1 [c0, c1, c2, c3, c4])) = some y1 := hf 1 _ rfl
        rw [cellsIn] at e; exact e
      have e2 : DataW.trod enc Tryz.prog W 0 (fun _ => true) held k 5 [c2] = some y2 := by
        have e : DataW.trod enc Tryz.prog W 0 (fun _ => true) held k 5 (List.take (Tryz.prog.cellsOf 5) (List.drop 2 [c0, c1, c2, c3, c4])) = some y2 := hf 2 _ rfl
        rw [cellsU8] at e; exact e
      have e3 : DataW.trod enc Tryz.prog W 0 (fun _ => true) held k 4 [c3] = some y3 := by
        have e : DataW.trod enc Tryz.prog W 0 (fun _ => true) held k 4 (List.take (Tryz.prog.cellsOf 4) (List.drop 3 [c0, c1, c2, c3, c4])) = some y3 := hf 3 _ rfl
        rw [cellsBo] at e; exact e
      have e4 : DataW.trod enc Tryz.prog W 0 (fun _ => true) held k 35 [c4] = some y4 := by
        have e : DataW.trod enc Tryz.prog W 0 (fun _ => true) held k 35 (List.take (Tryz.prog.cellsOf 35) (List.drop 4 [c0, c1, c2, c3, c4])) = some y4 := hf 4 _ rfl
        rw [cellsIl] at e; exact e
      obtain ⟨z0, h0, _, _⟩ := DataW.trod_int Tryz.underlying3 e0
      obtain ⟨z1, h1, _, w1⟩ := DataW.trod_int Tryz.underlying3 e1
      obtain ⟨z2, h2, _, w2⟩ := DataW.trod_int Tryz.underlying5 e2
      obtain ⟨z3, h3, _⟩ := DataW.trod_bool Tryz.underlying4 e3
      obtain ⟨q, hq, hI, hsl, hold⟩ := ints_in e4
      obtain ⟨f, rfl⟩ := u8_of w2
      have b1 := Num.int_i64 w1
      simp at h0 h1 h2 h3
      subst h0 h1 h2 h3
      exact ⟨⟨z0, z1, f, z3, c4, q⟩, rfl, rfl, ⟨b1.2, b1.1, hI, hq, hold, hsl⟩⟩
set_option maxRecDepth 100000 in
theorem acts_of {v : Value} {d : DataW H} {ps : List MemPlace} (hv : Value.okWide Tryz.prog W r b0 tAcs v) (hd : DataW.Trod enc Tryz.prog W 0 (fun _ => true) held tAcs v d ps) (hz : ∀ n ∈ d.weights Tryz.prog tAcs, n ≤ reachBytes) :
    ∃ l : List AcC, LAt 5 acV W v l ∧ (∀ x ∈ l, AcOk W.heap.size W x) ∧ ∀ x ∈ ps, x.block < W.heap.size := by
  obtain ⟨fuel, hf⟩ := hd
  have hlt := DataW.trod_lt _ _ _ _ hf
  obtain ⟨ao, n, c, rfl⟩ := okWide_slice Tryz.underlying22 hv
  have hf' : DataW.trod enc Tryz.prog W 0 (fun _ => true) held fuel tAcs [.slice ao n c] = some (d, ps) := hf
  obtain ⟨l, h1, h2⟩ := Opn.list_in (α := AcC) ⟨0, 0, 0, false, .slice none 0 0, []⟩ tAcs tAc 5 acV (AcOk W.heap.size W) Tryz.underlying22 cellsAc (by decide) bytesAc act_el hf' hz
  exact ⟨l, h1, h2, hlt⟩
end
end Lt
end Go.Proofs.YtgmbiiocjhkpdaaGreat
