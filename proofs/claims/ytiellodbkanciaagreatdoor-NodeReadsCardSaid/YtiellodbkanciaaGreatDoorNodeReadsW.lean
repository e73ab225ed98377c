/-
  The walk of NodeReads.
-/
import Derived.Test.YtiellodbkanciaaGreatDoorNodeAwake
import Derived.Test.YtiellodbkanciaaGreatDoorNodeSame
import Derived.Test.YtiellodbkanciaaGreatDoorNodeRefDecode
namespace Go.Proofs.YtiellodbkanciaaGreatDoor
open Go.RowKit
namespace nodeReads
open No
open Num (hid)
theorem dec_small (S : Bs) : (decR S).n.ks.length ≤ 1000000 ∧ (decR S).n.cs.length ≤ 1000000 ∧ (decR S).n.ps.length ≤ 1000000 := by
  by_cases he : (decR S).e = 0
  · obtain ⟨h1, h2, h3, h4, -⟩ := decR_yes he
    obtain ⟨-, -, h6⟩ := okN_ways h1
    rcases h6 with ⟨-, h7, h8, -⟩ | ⟨-, -, h7, h8, -⟩
    · rw [h8]; exact ⟨by omega, by omega, Nat.zero_le _⟩
    · rw [h8]; exact ⟨by omega, Nat.zero_le _, by omega⟩
  · obtain ⟨h1, -⟩ := decR_no he
    rw [h1]
    exact ⟨Nat.zero_le _, Nat.zero_le _, Nat.zero_le _⟩
/-- What both Decodes give, their lists as slices. -/
def DG (x : Dr) (w w' : World) (e : Ending) : Prop := (∃ a1 c1 a2 c2 a3 c3, e = .returned (.tuple #[.agg #[.bool x.n.f, .slice a1 x.n.ks.length c1, .slice a2 x.n.cs.length c2, .slice a3 x.n.ps.length c3], .int .i64 x.e]) ∧ NAt w' (.slice a1 x.n.ks.length c1) (.slice a2 x.n.cs.length c2) (.slice a3 x.n.ps.length c3) x.n) ∧ Below w.heap.size w w'
theorem dg_of {x : Dr} {w w' : World} {e : Ending} (h : DecGives x w w' e) : DG x w w' e := by
  obtain ⟨⟨ks, cs, ps, rfl, hn⟩, hb⟩ := h
  obtain ⟨a1, c1, a2, c2, a3, c3, rfl, rfl, rfl⟩ := nat_slices hn
  exact ⟨⟨a1, c1, a2, c2, a3, c3, rfl, hn⟩, hb⟩
set_option maxRecDepth 100000 in
set_option maxHeartbeats 8000000 in
theorem walk (a1 : ByteArray) (W : World) (z1 : a1.size ≤ 140737488351232) :
    Calls Tryz.prog 4 #[.string a1] W fun e W' => e = .returned (.bool true) ∧ Below W.heap.size W W' := by
  obtain ⟨S, rfl⟩ : ∃ S, a1 = bs S := ⟨bl a1, rfl⟩
  have hS : S.length ≤ 281474976710656 := by rw [bs_size] at z1; omega
  have HAW := hid awake_any
  have HD := hid (fun w => (decode_any S hS w).mono fun _ _ h => dg_of h)
  have HR := hid (fun w => (rdecode_any S w).mono fun _ _ h => dg_of h)
  obtain ⟨l1, l2, l3⟩ := dec_small S
  have HSM := hid (fun k1 c1 p1 k2 c2 p2 w h1 h2 => same_yes k1 c1 p1 k2 c2 p2 (decR S).n l1 l2 l3 w h1 h2)
  rw [rdecR_is] at HR
  unfold nV at HSM
  clear l1 l2 l3 hS z1
  generalize decR S = X at *
  go_enter Tryz.func4, Tryz.ntmps4
  go_wp2_with fail
  refine (HAW.out _).mono ?_
  rintro e w1 ⟨rfl, hb⟩
  have B1 := hid hb
  clear hb
  go_wp2_with fail
  refine (HD.out _).mono ?_
  rintro e w2 ⟨⟨b1, d1, b2, d2, b3, d3, rfl, hn⟩, hb⟩
  have B2 := hid (B1.out.trans (hb.mono B1.out.size))
  have X2 := hid (Nb.new X.n.f (.slice b1 X.n.ks.length d1) (.slice b2 X.n.cs.length d2) (.slice b3 X.n.ps.length d3) w2)
  have N2 := hid (hn.on ((Below.refl w2.heap.size w2).alloc (Nat.le_refl _) (.cells #[.bool X.n.f, .slice b1 X.n.ks.length d1, .slice b2 X.n.cs.length d2, .slice b3 X.n.ps.length d3] tN)))
  have B3 := hid (B2.out.alloc B2.out.size (.cells #[.bool X.n.f, .slice b1 X.n.ks.length d1, .slice b2 X.n.cs.length d2, .slice b3 X.n.ps.length d3] tN))
  clear hb hn B1 B2
  go_wp2_with fail
  refine (HR.out _).mono ?_
  rintro e w3 ⟨⟨f1, g1, f2, g2, f3, g3, rfl, hn⟩, hb⟩
  have B4 := hid (B3.out.trans (hb.mono B3.out.size))
  have X3 := hid ((X2.out.on hb).on ((Below.refl w3.heap.size w3).alloc (Nat.le_refl _) (.cells #[.bool X.n.f, .slice f1 X.n.ks.length g1, .slice f2 X.n.cs.length g2, .slice f3 X.n.ps.length g3] tN)))
  have N3 := hid ((N2.out.on hb).on ((Below.refl w3.heap.size w3).alloc (Nat.le_refl _) (.cells #[.bool X.n.f, .slice f1 X.n.ks.length g1, .slice f2 X.n.cs.length g2, .slice f3 X.n.ps.length g3] tN)))
  have X4 := hid (Nb.new X.n.f (.slice f1 X.n.ks.length g1) (.slice f2 X.n.cs.length g2) (.slice f3 X.n.ps.length g3) w3)
  have N4 := hid (hn.on ((Below.refl w3.heap.size w3).alloc (Nat.le_refl _) (.cells #[.bool X.n.f, .slice f1 X.n.ks.length g1, .slice f2 X.n.cs.length g2, .slice f3 X.n.ps.length g3] tN)))
  have B5 := hid (B4.out.alloc B4.out.size (.cells #[.bool X.n.f, .slice f1 X.n.ks.length g1, .slice f2 X.n.cs.length g2, .slice f3 X.n.ps.length g3] tN))
  have hlt2 := (X2.out.on hb).lt
  clear hb hn B3 B4 X2 N2
  obtain ⟨c0, c1, c2, c3⟩ := X3.out.cells
  obtain ⟨e0, e1, e2, e3⟩ := X4.out.cells
  go_wp2_with fail
  refine (HSM.out _ _ _ _ _ _ _ N3.out N4.out).mono ?_
  rintro e w4 ⟨rfl, hb⟩
  have B6 := hid (B5.out.trans (hb.mono B5.out.size))
  clear hb c0 c1 c2 c3 e0 e1 e2 e3
  go_wp2
  go_ret
  exact ⟨rfl, B6.out⟩
end nodeReads
end Go.Proofs.YtiellodbkanciaaGreatDoor
