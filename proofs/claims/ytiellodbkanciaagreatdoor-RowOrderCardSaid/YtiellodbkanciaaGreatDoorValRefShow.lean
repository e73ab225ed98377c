/-
  Contracts of the reference's Digits, hex, odd, unhex.
-/
import Derived.Test.YtiellodbkanciaaGreatDoorGrpValB
namespace Go.Proofs.YtiellodbkanciaaGreatDoor
open Go.RowKit
namespace Va
open Num (hid)
set_option maxHeartbeats 1000000 in
theorem rodd_any (b : UInt8) (w : World) : Calls Tryz.prog 124 #[.int .u8 (b.toNat : Int)] w fun e w' => e = .returned (.bool (odd b)) ∧ w = w' := by
  have hv : odd b = (decide ((b.toNat : Int) < 32) || decide ((126 : Int) < (b.toNat : Int)) || ((b.toNat : Int) == 92)) := by
    unfold odd
    have e1 : decide ((b.toNat : Int) < 32) = decide (b.toNat < 32) := decide_eq_decide.2 (by omega)
    have e2 : decide ((126 : Int) < (b.toNat : Int)) = decide (126 < b.toNat) := decide_eq_decide.2 (by omega)
    have e3 : ((b.toNat : Int) == 92) = decide (b.toNat = 92) := by rw [Bool.eq_iff_iff]; simp only [beq_iff_eq, decide_eq_true_eq]; omega
    rw [e1, e2, e3]
  rw [hv]
  clear hv
  by_cases h1 : (b.toNat : Int) < 32
  · go_enter Tryz.func124, Tryz.ntmps124
    go_wp2
    go_ret
    exact ⟨ret_b (by rw [decide_eq_true h1]; rfl), rfl⟩
  · by_cases h2 : (126 : Int) < (b.toNat : Int)
    · go_enter Tryz.func124, Tryz.ntmps124
      go_wp2
      go_ret
      exact ⟨ret_b (by simp), rfl⟩
    · go_enter Tryz.func124, Tryz.ntmps124
      go_wp2
      go_ret
      exact ⟨ret_b (by rw [show decide ((b.toNat : Int) < 32) = false from decide_eq_false (by omega), show decide ((126 : Int) < (b.toNat : Int)) = false from decide_eq_false (by omega)]; rfl), rfl⟩
theorem hexc_nat {n : Nat} (h : n < 16) : ((hexc n).toNat : Int) = if n < 10 then 48 + (n : Int) else 87 + (n : Int) := by
  unfold hexc
  split
  · rw [Num.ofNat_toNat]; omega
  · rw [Num.ofNat_toNat]; omega
theorem rhex_any (n : Nat) (h : n < 16) (w : World) : Calls Tryz.prog 125 #[.int .u8 (n : Int)] w fun e w' => e = .returned (.int .u8 ((hexc n).toNat : Int)) ∧ w = w' := by
  rw [hexc_nat h]
  have h' : (n : Int) ≤ 15 := by omega
  by_cases h1 : n < 10
  · rw [if_pos h1]
    have h1' : (n : Int) < 10 := by omega
    go_enter Tryz.func125, Tryz.ntmps125
    go_wp2
    go_ret
    exact ⟨rfl, rfl⟩
  · rw [if_neg h1]
    have h1' : ¬ (n : Int) < 10 := by omega
    go_enter Tryz.func125, Tryz.ntmps125
    go_wp2
    go_ret
    exact ⟨Num.ret_u (by omega), rfl⟩
/-- What unhex answers. -/
def unhexI (c : UInt8) : Int := if hexv c < 16 then (hexv c : Int) else -1
theorem runhex_any (c : UInt8) (w : World) : Calls Tryz.prog 159 #[.int .u8 (c.toNat : Int)] w fun e w' => e = .returned (.int .i64 (unhexI c)) ∧ w = w' := by
  have hc : (c.toNat : Int) ≤ 255 := by have := c.toNat_lt; omega
  by_cases h1 : 48 ≤ c.toNat ∧ c.toNat ≤ 57
  · have e : unhexI c = (c.toNat : Int) - 48 := by unfold unhexI hexv; rw [if_pos h1, if_pos (by omega)]; omega
    rw [e]
    obtain ⟨a1, a2⟩ := h1
    have g1 : (48 : Int) ≤ (c.toNat : Int) := by omega
    have g2 : (c.toNat : Int) ≤ 57 := by omega
    go_enter Tryz.func159, Tryz.ntmps159
    go_wp2
    go_ret
    exact ⟨rfl, rfl⟩
  · have gd : (c.toNat : Int) < 48 ∨ ((48 : Int) ≤ (c.toNat : Int) ∧ (57 : Int) < (c.toNat : Int)) := by omega
    by_cases h2 : 97 ≤ c.toNat ∧ c.toNat ≤ 102
    · have e : unhexI c = (c.toNat : Int) - 97 + 10 := by unfold unhexI hexv; rw [if_neg h1, if_pos h2, if_pos (by omega)]; omega
      rw [e]
      obtain ⟨a1, a2⟩ := h2
      have g1 : (97 : Int) ≤ (c.toNat : Int) := by omega
      have g2 : (c.toNat : Int) ≤ 102 := by omega
      clear h1
      rcases gd with gd | ⟨gd, ge⟩
      · omega
      · go_enter Tryz.func159, Tryz.ntmps159
        go_wp2
        go_ret
        exact ⟨rfl, rfl⟩
    · have e : unhexI c = -1 := by unfold unhexI hexv; rw [if_neg h1, if_neg h2]; rfl
      rw [e]
      have gl : (c.toNat : Int) < 97 ∨ ((97 : Int) ≤ (c.toNat : Int) ∧ (102 : Int) < (c.toNat : Int)) := by omega
      clear h1 h2
      rcases gd with gd | ⟨gd, ge⟩ <;> rcases gl with gl | ⟨gl, gm⟩
      all_goals first | omega | (
        go_enter Tryz.func159, Tryz.ntmps159
        go_wp2
        go_ret
        exact ⟨rfl, rfl⟩)
/-! ### Digits -/
/-- What is still to be written, and what is written. -/
def DigAt (u m : Nat) (S : Bs) : Prop := (m ≠ 0 → Lib.decDigits u = Lib.decDigits m ++ S) ∧ (m = 0 → Lib.decDigits u = S)
theorem dig_start {u : Nat} (h : u ≠ 0) : DigAt u u [] := ⟨fun _ => by simp, fun e => absurd e h⟩
theorem dig_step {u m : Nat} {S : Bs} (hm : m ≠ 0) (h : DigAt u m S) : DigAt u (m / 10) (UInt8.ofNat (48 + m % 10) :: S) := by
  have h1 := h.1 hm
  by_cases h10 : m < 10
  · rw [Lib.decDigits_one h10] at h1
    refine ⟨fun e => absurd (by omega : m / 10 = 0) e, fun _ => ?_⟩
    rw [h1, Nat.mod_eq_of_lt h10]; rfl
  · have hd : Lib.decDigits m = Lib.decDigits (m / 10) ++ [UInt8.ofNat (48 + m % 10)] := by rw [Lib.decDigits, dif_neg h10]
    rw [hd] at h1
    refine ⟨fun _ => ?_, fun e => by omega⟩
    rw [h1]; simp
theorem dig_len {u m : Nat} {S : Bs} (hu : u < 10000000000000000000) (h : DigAt u m S) : S.length ≤ 19 := by
  have hn := nDigits_le hu
  rw [← Lib.decDigits_length] at hn
  by_cases hm : m = 0
  · rw [h.2 hm] at hn; exact hn
  · rw [h.1 hm, List.length_append] at hn; omega
set_option maxRecDepth 100000 in
set_option maxHeartbeats 2000000 in
theorem digits_any (n : Int) (hn : InI n) (w : World) : Calls Tryz.prog 123 #[.int .i64 n] w fun e w' => e = .returned (.string (bs (Lib.itoa n))) ∧ Below w.heap.size w w' := by
  obtain ⟨n0, n1⟩ := hn
  rcases Int.lt_trichotomy n 0 with hlt | rfl | hgt
  · obtain ⟨u, hu⟩ : ∃ u : Nat, n = -(u : Int) := ⟨n.natAbs, by omega⟩
    subst hu
    have e : Lib.itoa (-(u : Int)) = 45 :: Lib.decDigits u := by unfold Lib.itoa; rw [if_pos hlt]; congr 2; omega
    rw [e]
    have hu0 : u ≠ 0 := by omega
    have hub := hid (show u < 10000000000000000000 by omega)
    have H0 := hid (dig_start hu0)
    have hz : ((-(u : Int)) == 0) = false := by simp only [beq_eq_false_iff_ne, ne_eq]; omega
    have Hu0 := hid hu0
    clear e hu0
    go_enter Tryz.func123, Tryz.ntmps123
    go_wp2
    go_loopw [3, 4] (fun s k wr => ∃ (m : Nat) (S : Bs), m ≤ u ∧ k = .int .i64 (-(m : Int)) ∧ s = .string (bs S) ∧ Hid (DigAt u m S) ∧ Below w.heap.size w wr) (fun _ k _ => (-(intOf k)).toNat)
    case atStart => exact ⟨u, [], Nat.le_refl _, rfl, rfl, H0, Below.refl _ _⟩
    case round =>
      obtain ⟨m, S, hm, rfl, rfl, HD, hb⟩ := hrel
      have HB := hid hb
      have hszr := hb.size
      clear hb
      by_cases hm0 : m = 0
      · have HV := hid (show Lib.decDigits u = S from HD.out.2 hm0)
        have hz0 : ((-(m : Int)) == 0) = true := by simp only [beq_iff_eq]; omega
        have hbne : ((-(m : Int)) != 0) = false := by simp only [bne_eq_false_iff_eq]; omega
        have hl := hid (dig_len hub.out HD.out)
        have Hm0 := hid hm0
        clear hm0
        have h8 : ¬ 9223372036854775807 < 1 + (bs S).size := by rw [bs_size]; have := hl.out; omega
        go_wp2
        go_ret
        rw [HV.out]
        exact ⟨rfl, HB.out⟩
      · have HS := hid (dig_step hm0 HD.out)
        have hbne : ((-(m : Int)) != 0) = true := by simp only [bne_iff_ne, ne_eq]; omega
        have hl := hid (dig_len hub.out HD.out)
        obtain ⟨d, hd⟩ : ∃ d : Nat, d = m % 10 := ⟨_, rfl⟩
        obtain ⟨q, hq⟩ : ∃ q : Nat, q = m / 10 := ⟨_, rfl⟩
        rw [← hd, ← hq] at HS
        have t1 : (-(m : Int)).tmod 10 = -(d : Int) := by rw [Int.neg_tmod, Int.tmod_eq_emod_of_nonneg (by omega)]; omega
        have t2 : (-(m : Int)).tdiv 10 = -(q : Int) := by rw [Int.neg_tdiv, Int.tdiv_eq_ediv_of_nonneg (by omega)]; omega
        have d9 : d ≤ 9 := by omega
        have d9' : (d : Int) ≤ 9 := by omega
        have hqm : q < m := by omega
        have hqu : q ≤ u := by omega
        have hqb : (q : Int) ≤ 9223372036854775807 := by omega
        have w1 : (48 + (d : Int)) % 256 = 48 + (d : Int) := by omega
        have e48 : ((UInt8.ofNat (48 + d)).toNat : Int) = 48 + (d : Int) := by rw [Num.ofNat_toNat]; omega
        have h8 : ¬ 9223372036854775807 < 1 + (bs S).size := by rw [bs_size]; have := hl.out; omega
        have hcv := conv_one (UInt8.ofNat (48 + d)) wr
        rw [e48] at hcv
        clear e48
        have Hd := hid hd
        have Hq := hid hq
        clear hd hq hm0
        by_cases hd0 : d = 0
        · subst hd0
          have t1 : (-(m : Int)).tmod 10 = 0 := t1
          have hcv : (convert 80 9 (.slice (some ⟨wr.heap.size, 0, none⟩) 1 1)).run Tryz.prog (wr.alloc (.cells #[.int .u8 48] 5)) = .ok (.string ⟨#[48]⟩) (wr.alloc (.cells #[.int .u8 48] 5)) := conv_one 48 wr
          clear w1
          go_wp2
          go_roundw
          case rel =>
            refine ⟨q, UInt8.ofNat (48 + 0) :: S, hqu, rfl, ?_, HS, HB.out.alloc hszr _⟩
            rw [show (⟨#[48]⟩ : ByteArray) = bs [48] from rfl, bs_append]; rfl
          case measure => simp [intOf]; omega
        · have hd1 : 0 < d := by omega
          have hd2 : -(d : Int) < 0 := by omega
          clear hd0
          go_wp2
          go_roundw
          case rel =>
            refine ⟨q, UInt8.ofNat (48 + d) :: S, hqu, rfl, ?_, HS, HB.out.alloc hszr _⟩
            rw [show (48 : UInt8) + UInt8.ofNat d = UInt8.ofNat (48 + d) from UInt8.toNat_inj.1 (by simp), show (⟨#[UInt8.ofNat (48 + d)]⟩ : ByteArray) = bs [UInt8.ofNat (48 + d)] from rfl, bs_append]; rfl
          case measure => simp [intOf]; omega
  · rw [show Lib.itoa 0 = [48] by unfold Lib.itoa; rw [if_neg (by decide)]; exact Lib.decDigits_one (by decide)]
    go_enter Tryz.func123, Tryz.ntmps123
    go_wp2
    go_ret
    exact ⟨rfl, Below.refl _ _⟩
  · obtain ⟨u, hu⟩ : ∃ u : Nat, n = (u : Int) := ⟨n.toNat, by omega⟩
    subst hu
    have e : Lib.itoa (u : Int) = Lib.decDigits u := by unfold Lib.itoa; rw [if_neg (by omega)]; congr 1
    rw [e]
    have hu0 : u ≠ 0 := by omega
    have hub := hid (show u < 10000000000000000000 by omega)
    have H0 := hid (dig_start hu0)
    have hz : ((u : Int) == 0) = false := by simp only [beq_eq_false_iff_ne, ne_eq]; omega
    have Hu0 := hid hu0
    clear e hu0
    go_enter Tryz.func123, Tryz.ntmps123
    go_wp2
    go_loopw [3, 4] (fun s k wr => ∃ (m : Nat) (S : Bs), m ≤ u ∧ k = .int .i64 (m : Int) ∧ s = .string (bs S) ∧ Hid (DigAt u m S) ∧ Below w.heap.size w wr) (fun _ k _ => (intOf k).toNat)
    case atStart => exact ⟨u, [], Nat.le_refl _, rfl, rfl, H0, Below.refl _ _⟩
    case round =>
      obtain ⟨m, S, hm, rfl, rfl, HD, hb⟩ := hrel
      have HB := hid hb
      have hszr := hb.size
      clear hb
      by_cases hm0 : m = 0
      · have HV := hid (show Lib.decDigits u = S from HD.out.2 hm0)
        have hz0 : ((m : Int) == 0) = true := by simp only [beq_iff_eq]; omega
        have hbne : ((m : Int) != 0) = false := by simp only [bne_eq_false_iff_eq]; omega
        have hl := hid (dig_len hub.out HD.out)
        have Hm0 := hid hm0
        clear hm0
        go_wp2
        go_ret
        rw [HV.out]
        exact ⟨rfl, HB.out⟩
      · have HS := hid (dig_step hm0 HD.out)
        have hbne : ((m : Int) != 0) = true := by simp only [bne_iff_ne, ne_eq]; omega
        have hl := hid (dig_len hub.out HD.out)
        obtain ⟨d, hd⟩ : ∃ d : Nat, d = m % 10 := ⟨_, rfl⟩
        obtain ⟨q, hq⟩ : ∃ q : Nat, q = m / 10 := ⟨_, rfl⟩
        rw [← hd, ← hq] at HS
        have t1 : (m : Int) % 10 = (d : Int) := by omega
        have t2 : (m : Int) / 10 = (q : Int) := by omega
        have d9 : d ≤ 9 := by omega
        have d9' : (d : Int) ≤ 9 := by omega
        have hqm : q < m := by omega
        have hqu : q ≤ u := by omega
        have hqb : (q : Int) ≤ 9223372036854775807 := by omega
        have w1 : (48 + (d : Int)) % 256 = 48 + (d : Int) := by omega
        have e48 : ((UInt8.ofNat (48 + d)).toNat : Int) = 48 + (d : Int) := by rw [Num.ofNat_toNat]; omega
        have h8 : ¬ 9223372036854775807 < 1 + (bs S).size := by rw [bs_size]; have := hl.out; omega
        have hcv := conv_one (UInt8.ofNat (48 + d)) wr
        rw [e48] at hcv
        clear e48
        have Hd := hid hd
        have Hq := hid hq
        clear hd hq hm0
        go_wp2
        go_roundw
        case rel =>
          refine ⟨q, UInt8.ofNat (48 + d) :: S, hqu, rfl, ?_, HS, HB.out.alloc hszr _⟩
          rw [show (48 : UInt8) + UInt8.ofNat d = UInt8.ofNat (48 + d) from UInt8.toNat_inj.1 (by simp), show (⟨#[UInt8.ofNat (48 + d)]⟩ : ByteArray) = bs [UInt8.ofNat (48 + d)] from rfl, bs_append]; rfl
        case measure => simp [intOf]; omega
end Va
end Go.Proofs.YtiellodbkanciaaGreatDoor
