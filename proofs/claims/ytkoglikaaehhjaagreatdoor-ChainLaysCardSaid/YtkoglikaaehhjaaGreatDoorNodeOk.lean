/-
  Contract of the project's Good.
-/
import Derived.Test.YtkoglikaaehhjaaGreatDoorNodeGood
namespace Go.Proofs.YtkoglikaaehhjaaGreatDoor
open Go.RowKit
namespace No
open Num (hid)
theorem okN_long {n : N} (h : n.ks.all short = false) : okN n = false := by unfold okN; rw [h]; rfl
theorem okN_rise {n : N} (h : n.ks.all short = true) (h2 : rise n.ks = false) : okN n = false := by unfold okN; rw [h, h2]; rfl
theorem okN_leaf {n : N} (h : n.ks.all short = true) (h2 : rise n.ks = true) (hf : n.f = true) : okN n = okL n := by unfold okN; rw [h, h2, hf]; rfl
theorem okN_inner {n : N} (h : n.ks.all short = true) (h2 : rise n.ks = true) (hf : n.f = false) : okN n = okI n := by unfold okN; rw [h, h2, hf]; rfl
theorem nateq {a b : Nat} {x : Bool} (h : decide (a = b) = x) : ((a : Int) == (b : Int)) = x := (natbeq a b).trans h
theorem nateq0 {a : Nat} {x : Bool} (h : decide (a = 0) = x) : ((a : Int) == 0) = x := (natbeq a 0).trans h
set_option maxRecDepth 100000 in
set_option maxHeartbeats 4000000 in
theorem good_any (kv cv pv : Value) (n : N) (hp : n.ps.length ≤ 4000) (hk : n.ks.length ≤ 1000000) (w : World) (h : NAt w kv cv pv n) :
    Calls Tryz.prog 64 #[nV n.f kv cv pv] w fun e w' => e = .returned (.bool (okN n)) ∧ Below w.heap.size w w' := by
  have HA := hid h
  have HC := hid (fun w h => containsS_any kv n.ks w h)
  have HR := hid (fun w h => rise_any kv n.ks w h)
  have HCC := hid (fun w h => containsC_any cv n.cs w h)
  have HK := hid (fun (h0 : n.ps ≠ []) w h => arekids_any pv n.ps w h h0 (by omega))
  have hA := h.k
  have hB := h.c
  have hC := h.p
  obtain ⟨ao, cap, rfl, -, -, -⟩ := SAt.ways1 hA
  obtain ⟨ao2, cap2, rfl, -, -, -⟩ := CAt.ways3 hB
  obtain ⟨ao3, cap3, rfl, -, -, -⟩ := IAt.ways1 hC
  have B1 := hid ((Below.refl w.heap.size w).alloc (Nat.le_refl _) (.cells #[.bool n.f, .slice ao n.ks.length cap, .slice ao2 n.cs.length cap2, .slice ao3 n.ps.length cap3] tN))
  have N1 := hid (Nb.new n.f (.slice ao n.ks.length cap) (.slice ao2 n.cs.length cap2) (.slice ao3 n.ps.length cap3) w)
  have HA1 := hid (h.on ((Below.refl w.heap.size w).alloc (Nat.le_refl _) (.cells #[.bool n.f, .slice ao n.ks.length cap, .slice ao2 n.cs.length cap2, .slice ao3 n.ps.length cap3] tN)))
  clear h hA hB hC hp
  unfold nV
  cases hs : n.ks.all short with
  | false =>
    rw [okN_long hs]
    rw [hs] at HC
    clear hs
    go_enter Tryz.func64, Tryz.ntmps64
    go_wp2_with fail
    refine (HC.out _ HA1.out.k).mono ?_
    rintro e w3 ⟨rfl, hb⟩
    have B2 := hid (B1.out.trans (hb.mono B1.out.size))
    clear hb
    go_wp2
    go_ret
    exact ⟨rfl, B2.out⟩
  | true =>
    rw [hs] at HC
    cases hr : rise n.ks with
    | false =>
      rw [okN_rise hs hr]
      rw [hr] at HR
      clear hs hr
      go_enter Tryz.func64, Tryz.ntmps64
      go_wp2_with fail
      refine (HC.out _ HA1.out.k).mono ?_
      rintro e w3 ⟨rfl, hb⟩
      have B2 := hid (B1.out.trans (hb.mono B1.out.size))
      have N2 := hid (N1.out.on hb)
      have HA2 := hid (HA1.out.on hb)
      obtain ⟨c0, c1, c2, c3⟩ := N2.out.cells
      clear hb
      go_wp2_with fail
      refine (HR.out _ HA2.out.k).mono ?_
      rintro e w4 ⟨rfl, hb⟩
      have B3 := hid (B2.out.trans (hb.mono B2.out.size))
      clear hb
      go_wp2
      go_ret
      exact ⟨rfl, B3.out⟩
    | true =>
      rw [hr] at HR
      cases hf : n.f with
      | true =>
        rw [okN_leaf hs hr hf]
        rw [hf] at B1 N1 HA1
        have HL : Hid (okL n = (decide (n.cs.length = n.ks.length) && (decide (n.ps.length = 0) && n.cs.all okC))) := hid rfl
        rw [HL.out]
        clear hs hr hf HL
        cases h1 : decide (n.cs.length = n.ks.length) with
        | false =>
          have q1 := nateq h1
          clear h1
          generalize n.ks.length = kl at *
          generalize n.cs.length = cl at *
          generalize n.ps.length = pl at *
          go_enter Tryz.func64, Tryz.ntmps64
          go_wp2_with fail
          refine (HC.out _ HA1.out.k).mono ?_
          rintro e w3 ⟨rfl, hb⟩
          have B2 := hid (B1.out.trans (hb.mono B1.out.size))
          have N2 := hid (N1.out.on hb)
          have HA2 := hid (HA1.out.on hb)
          obtain ⟨c0, c1, c2, c3⟩ := N2.out.cells
          clear hb
          go_wp2_with fail
          refine (HR.out _ HA2.out.k).mono ?_
          rintro e w4 ⟨rfl, hb⟩
          have B3 := hid (B2.out.trans (hb.mono B2.out.size))
          have N3 := hid (N2.out.on hb)
          clear c0 c1 c2 c3
          obtain ⟨c0, c1, c2, c3⟩ := N3.out.cells
          clear hb
          go_wp2
          go_ret
          exact ⟨rfl, B3.out⟩
        | true =>
          have q1 := nateq h1
          clear h1
          cases h2 : decide (n.ps.length = 0) with
          | false =>
            have q2 := nateq0 h2
            clear h2
            generalize n.ks.length = kl at *
            generalize n.cs.length = cl at *
            generalize n.ps.length = pl at *
            go_enter Tryz.func64, Tryz.ntmps64
            go_wp2_with fail
            refine (HC.out _ HA1.out.k).mono ?_
            rintro e w3 ⟨rfl, hb⟩
            have B2 := hid (B1.out.trans (hb.mono B1.out.size))
            have N2 := hid (N1.out.on hb)
            have HA2 := hid (HA1.out.on hb)
            obtain ⟨c0, c1, c2, c3⟩ := N2.out.cells
            clear hb
            go_wp2_with fail
            refine (HR.out _ HA2.out.k).mono ?_
            rintro e w4 ⟨rfl, hb⟩
            have B3 := hid (B2.out.trans (hb.mono B2.out.size))
            have N3 := hid (N2.out.on hb)
            clear c0 c1 c2 c3
            obtain ⟨c0, c1, c2, c3⟩ := N3.out.cells
            clear hb
            go_wp2
            go_ret
            exact ⟨rfl, B3.out⟩
          | true =>
            have q2 := nateq0 h2
            clear h2
            generalize n.ks.length = kl at *
            generalize n.cs.length = cl at *
            generalize n.ps.length = pl at *
            go_enter Tryz.func64, Tryz.ntmps64
            go_wp2_with fail
            refine (HC.out _ HA1.out.k).mono ?_
            rintro e w3 ⟨rfl, hb⟩
            have B2 := hid (B1.out.trans (hb.mono B1.out.size))
            have N2 := hid (N1.out.on hb)
            have HA2 := hid (HA1.out.on hb)
            obtain ⟨c0, c1, c2, c3⟩ := N2.out.cells
            clear hb
            go_wp2_with fail
            refine (HR.out _ HA2.out.k).mono ?_
            rintro e w4 ⟨rfl, hb⟩
            have B3 := hid (B2.out.trans (hb.mono B2.out.size))
            have N3 := hid (N2.out.on hb)
            have HA3 := hid (HA2.out.on hb)
            clear c0 c1 c2 c3
            obtain ⟨c0, c1, c2, c3⟩ := N3.out.cells
            clear hb
            go_wp2_with fail
            refine (HCC.out _ HA3.out.c).mono ?_
            rintro e w5 ⟨rfl, hb⟩
            have B4 := hid (B3.out.trans (hb.mono B3.out.size))
            clear hb c0 c1 c2 c3
            go_wp2
            go_ret
            exact ⟨by simp, B4.out⟩
      | false =>
        rw [okN_inner hs hr hf]
        rw [hf] at B1 N1 HA1
        have HL : Hid (okI n = (decide (0 < n.ks.length) && (decide (n.ps.length = n.ks.length + 1) && (decide (n.cs.length = 0) && (n.ps.all okP && unlike n.ps))))) := hid rfl
        rw [HL.out]
        clear hs hr hf HL
        by_cases h0 : 0 < n.ks.length
        · rw [decide_eq_true h0]
          have g0 : (0 : Int) < n.ks.length := by omega
          by_cases h1 : n.ps.length = n.ks.length + 1
          · rw [decide_eq_true h1]
            have q1 : ((n.ps.length : Int) == (n.ks.length : Int) + 1) = true := by rw [beq_iff_eq]; omega
            have hpn : n.ps ≠ [] := fun e => by rw [e] at h1; simp at h1
            have HKK := hid (HK.out hpn)
            clear hpn HK
            by_cases h2 : n.cs.length = 0
            · rw [decide_eq_true h2]
              have q2 : ((n.cs.length : Int) == 0) = true := by rw [beq_iff_eq]; omega
              clear h0 h1 h2
              generalize n.ks.length = kl at *
              generalize n.cs.length = cl at *
              generalize n.ps.length = pl at *
              go_enter Tryz.func64, Tryz.ntmps64
              go_wp2_with fail
              refine (HC.out _ HA1.out.k).mono ?_
              rintro e w3 ⟨rfl, hb⟩
              have B2 := hid (B1.out.trans (hb.mono B1.out.size))
              have N2 := hid (N1.out.on hb)
              have HA2 := hid (HA1.out.on hb)
              obtain ⟨c0, c1, c2, c3⟩ := N2.out.cells
              clear hb
              go_wp2_with fail
              refine (HR.out _ HA2.out.k).mono ?_
              rintro e w4 ⟨rfl, hb⟩
              have B3 := hid (B2.out.trans (hb.mono B2.out.size))
              have N3 := hid (N2.out.on hb)
              have HA3 := hid (HA2.out.on hb)
              clear c0 c1 c2 c3
              obtain ⟨c0, c1, c2, c3⟩ := N3.out.cells
              clear hb
              go_wp2_with fail
              refine (HKK.out _ HA3.out.p).mono ?_
              rintro e w5 ⟨rfl, hb⟩
              have B4 := hid (B3.out.trans (hb.mono B3.out.size))
              clear hb c0 c1 c2 c3
              go_wp2
              go_ret
              exact ⟨rfl, B4.out⟩
            · rw [decide_eq_false h2]
              have q2 : ((n.cs.length : Int) == 0) = false := by rw [beq_eq_false_iff_ne]; omega
              clear h0 h1 h2
              generalize n.ks.length = kl at *
              generalize n.cs.length = cl at *
              generalize n.ps.length = pl at *
              go_enter Tryz.func64, Tryz.ntmps64
              go_wp2_with fail
              refine (HC.out _ HA1.out.k).mono ?_
              rintro e w3 ⟨rfl, hb⟩
              have B2 := hid (B1.out.trans (hb.mono B1.out.size))
              have N2 := hid (N1.out.on hb)
              have HA2 := hid (HA1.out.on hb)
              obtain ⟨c0, c1, c2, c3⟩ := N2.out.cells
              clear hb
              go_wp2_with fail
              refine (HR.out _ HA2.out.k).mono ?_
              rintro e w4 ⟨rfl, hb⟩
              have B3 := hid (B2.out.trans (hb.mono B2.out.size))
              have N3 := hid (N2.out.on hb)
              clear c0 c1 c2 c3
              obtain ⟨c0, c1, c2, c3⟩ := N3.out.cells
              clear hb
              go_wp2
              go_ret
              exact ⟨rfl, B3.out⟩
          · rw [decide_eq_false h1]
            have q1 : ((n.ps.length : Int) == (n.ks.length : Int) + 1) = false := by rw [beq_eq_false_iff_ne]; omega
            clear h0 h1
            generalize n.ks.length = kl at *
            generalize n.cs.length = cl at *
            generalize n.ps.length = pl at *
            go_enter Tryz.func64, Tryz.ntmps64
            go_wp2_with fail
            refine (HC.out _ HA1.out.k).mono ?_
            rintro e w3 ⟨rfl, hb⟩
            have B2 := hid (B1.out.trans (hb.mono B1.out.size))
            have N2 := hid (N1.out.on hb)
            have HA2 := hid (HA1.out.on hb)
            obtain ⟨c0, c1, c2, c3⟩ := N2.out.cells
            clear hb
            go_wp2_with fail
            refine (HR.out _ HA2.out.k).mono ?_
            rintro e w4 ⟨rfl, hb⟩
            have B3 := hid (B2.out.trans (hb.mono B2.out.size))
            have N3 := hid (N2.out.on hb)
            clear c0 c1 c2 c3
            obtain ⟨c0, c1, c2, c3⟩ := N3.out.cells
            clear hb
            go_wp2
            go_ret
            exact ⟨rfl, B3.out⟩
        · rw [decide_eq_false h0]
          have g0 : ¬ (0 : Int) < n.ks.length := by omega
          clear h0
          generalize n.ks.length = kl at *
          generalize n.cs.length = cl at *
          generalize n.ps.length = pl at *
          go_enter Tryz.func64, Tryz.ntmps64
          go_wp2_with fail
          refine (HC.out _ HA1.out.k).mono ?_
          rintro e w3 ⟨rfl, hb⟩
          have B2 := hid (B1.out.trans (hb.mono B1.out.size))
          have N2 := hid (N1.out.on hb)
          have HA2 := hid (HA1.out.on hb)
          obtain ⟨c0, c1, c2, c3⟩ := N2.out.cells
          clear hb
          go_wp2_with fail
          refine (HR.out _ HA2.out.k).mono ?_
          rintro e w4 ⟨rfl, hb⟩
          have B3 := hid (B2.out.trans (hb.mono B2.out.size))
          have N3 := hid (N2.out.on hb)
          clear c0 c1 c2 c3
          obtain ⟨c0, c1, c2, c3⟩ := N3.out.cells
          clear hb
          go_wp2
          go_ret
          exact ⟨rfl, B3.out⟩
end No
end Go.Proofs.YtkoglikaaehhjaaGreatDoor
