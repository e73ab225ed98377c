/-
  Contract of the reference's number.
-/
import Derived.Test.YtiellodbkanciaaGreatDoorValNumber
import Derived.Test.YtiellodbkanciaaGreatDoorGrpValB
namespace Go.Proofs.YtiellodbkanciaaGreatDoor
open Go.RowKit
namespace Va
open Num (hid)
theorem num_four {s : Bs} {f k v : Nat} (hN : NumAt s f k v) (hk : k ≤ s.length) :
    k = f ∨ (k = f + 1 ∧ v = 0 ∧ s[f]? = some 48) ∨ (k = f + 1 ∧ 1 ≤ v ∧ s[f]? ≠ some 48) ∨ (f + 1 < k ∧ 1 ≤ v) := by
  have hfk := hN.le
  by_cases hkf : k = f
  · exact Or.inl hkf
  · have hds := hN.some (by omega)
    have hl := congrArg List.length hds
    rw [List.length_take, List.length_drop] at hl
    by_cases h10 : v < 10
    · rw [Lib.decDigits_one h10] at hds hl
      simp only [List.length_cons, List.length_nil] at hl
      have hk1 : k = f + 1 := by omega
      have hat : s[f]? = some (UInt8.ofNat (48 + v)) := by
        have h := congrArg (fun l => l[0]?) hds
        simp only [List.getElem?_take_of_lt (show 0 < k - f by omega), List.getElem?_drop, Nat.add_zero] at h
        rw [h]; rfl
      by_cases hv : v = 0
      · subst hv
        exact Or.inr (Or.inl ⟨hk1, rfl, hat⟩)
      · refine Or.inr (Or.inr (Or.inl ⟨hk1, by omega, ?_⟩))
        rw [hat]
        intro e
        have := congrArg UInt8.toNat (Option.some.inj e)
        rw [Num.ofNat_toNat] at this
        have e48 : (48 : UInt8).toNat = 48 := rfl
        omega
    · have hx : Lib.decDigits v = Lib.decDigits (v / 10) ++ [UInt8.ofNat (48 + v % 10)] := by rw [Lib.decDigits, dif_neg h10]
      rw [hx, List.length_append, List.length_singleton] at hl
      have := digits_pos (v / 10)
      exact Or.inr (Or.inr (Or.inr ⟨by omega, by omega⟩))
theorem at_bl {s : ByteArray} {k : Nat} (h : k < s.size) : (bl s)[k]? = some s[k] := by
  rw [List.getElem?_eq_getElem (by rw [bl_len]; exact h)]; rfl
theorem dig_of {c : UInt8} (h0 : 48 ≤ c.toNat) (h1 : c.toNat ≤ 57) : c = UInt8.ofNat (48 + (c.toNat - 48)) := by
  apply UInt8.toNat_inj.1
  rw [Num.ofNat_toNat]; omega
theorem not_dig {c : UInt8} {d : Nat} (hd : d ≤ 9) (h : c = UInt8.ofNat (48 + d)) : 48 ≤ c.toNat ∧ c.toNat ≤ 57 ∧ d = c.toNat - 48 := by
  have := congrArg UInt8.toNat h
  rw [Num.ofNat_toNat] at this
  omega
set_option maxRecDepth 100000 in
set_option maxHeartbeats 16000000 in
theorem rnum1 (s : ByteArray) (hs : s.size ≤ 281474976710656) (w : World) (hp : 0 < s.size) (h45 : s[0].toNat = 45) :
    Calls Tryz.prog 134 #[.string s] w fun e w' => e = .returned (uV (numU (pintL (bl s)))) ∧ Below w.heap.size w w' := by
  obtain ⟨R, hR⟩ : ∃ R, R = pintL (bl s) := ⟨_, rfl⟩
  have HR := hid hR
  rw [← hR]
  clear hR
  have hF := hid (show From (bl s) 1 from Or.inl ⟨rfl, by
    have hc := rest_cons hp
    rw [List.drop_zero] at hc
    rw [hc, show s[0] = 45 from UInt8.toNat_inj.1 h45]; rfl⟩)
  have b45 : ((s[0].toNat : Int) == 45) = true := by simp only [beq_iff_eq]; omega
  clear h45
  go_enter Tryz.func134, Tryz.ntmps134
  go_wp2
  go_loop [5, 7] (fun i n => ∃ k v : Nat, k ≤ s.size ∧ i = .int .i64 k ∧ n = .int .i64 (-(v : Int)) ∧ Hid (NumAt (bl s) 1 k v)) (fun i _ => s.size - (intOf i).toNat)
  case atStart => exact ⟨1, 0, by omega, rfl, rfl, hid num_start⟩
  case round =>
    obtain ⟨k, v, hk, rfl, rfl, HN⟩ := hrel
    have hvb : (v : Int) ≤ 9223372036854775808 := by have h1 := HN.out.fits; have h2 := maxN_le 1; omega
    have hvb' : v ≤ 9223372036854775808 := HN.out.fits
    by_cases hlt : k < s.size
    · have hby : (s[k].toNat : Int) ≤ 255 := by have := s[k].toNat_lt; omega
      have hsk := hid (at_bl hlt)
      by_cases h48 : 48 ≤ s[k].toNat
      · by_cases h57 : s[k].toNat ≤ 57
        · obtain ⟨d, hd⟩ : ∃ d : Nat, d = s[k].toNat - 48 := ⟨_, rfl⟩
          have hd9 : d ≤ 9 := by omega
          have hdi : (s[k].toNat : Int) - 48 = (d : Int) := by omega
          have Hdc := hid (show s[k] = UInt8.ofNat (48 + d) by rw [hd]; exact dig_of h48 h57)
          have g1 : (48 : Int) ≤ (s[k].toNat : Int) := by omega
          have g2 : (s[k].toNat : Int) ≤ 57 := by omega
          have four := num_four HN.out (by rw [bl_len]; exact hk)
          clear h48 h57
          have Hd := hid hd
          clear hd
          have hsame := hid (fun (d' : Nat) (h1 : d' ≤ 9) (h2 : (bl s)[k]? = some (UInt8.ofNat (48 + d'))) => (show d' = d by
            rw [hsk.out] at h2
            have := not_dig h1 (Option.some.inj h2)
            have := Hd.out
            omega))
          have step : (((k : Int) == 2) = false ∧ (1 < k → 1 ≤ v)) ∨ (∃ hf1 : 1 < s.size, ((k : Int) == 2) = true ∧ ((s[1].toNat : Int) == 48) = false ∧ (1 < k → 1 ≤ v)) ∨ (∃ hf1 : 1 < s.size, ((k : Int) == 2) = true ∧ ((s[1].toNat : Int) == 48) = true ∧ ¬ (1 < k → 1 ≤ v)) := by
            rcases four with h | ⟨h1, h2, h3⟩ | ⟨h1, h2, h3⟩ | ⟨h1, h2⟩
            · exact Or.inl ⟨by simp only [beq_eq_false_iff_ne, ne_eq]; omega, fun h' => absurd h' (by omega)⟩
            · have hf1 : 1 < s.size := by omega
              rw [at_bl hf1] at h3
              refine Or.inr (Or.inr ⟨hf1, by simp only [beq_iff_eq]; omega, ?_, fun h' => by have := h' (by omega); omega⟩)
              rw [Option.some.inj h3]; rfl
            · have hf1 : 1 < s.size := by omega
              rw [at_bl hf1] at h3
              refine Or.inr (Or.inl ⟨hf1, by simp only [beq_iff_eq]; omega, ?_, fun _ => h2⟩)
              simp only [beq_eq_false_iff_ne, ne_eq]
              intro e
              exact h3 (by rw [show s[1] = 48 from UInt8.toNat_inj.1 (by show s[1].toNat = 48; omega)])
            · exact Or.inl ⟨by simp only [beq_eq_false_iff_ne, ne_eq]; omega, fun _ => h2⟩
          clear four
          obtain ⟨t, ht⟩ : ∃ t : Nat, t = (9223372036854775808 - d) / 10 := ⟨_, rfl⟩
          have htd : (-9223372036854775808 + (d : Int)).tdiv 10 = -(t : Int) := by
            rw [show (-9223372036854775808 + (d : Int)) = -(((9223372036854775808 - d : Nat)) : Int) by omega, Int.neg_tdiv, Int.tdiv_eq_ediv_of_nonneg (by omega)]
            omega
          have htw : wrap64 (-(t : Int)) = -(t : Int) := by rw [Num.wrap_i]; omega
          have hvw : wrap64 (-(v : Int)) = -(v : Int) := by rw [Num.wrap_i]; omega
          obtain ⟨v', hv'⟩ : ∃ v' : Nat, v' = 10 * v + d := ⟨_, rfl⟩
          have he : (-(v : Int)) * 10 - (d : Int) = -(v' : Int) := by omega
          rcases step with ⟨b4, h0⟩ | ⟨hf1, b4, b5, h0⟩ | ⟨hf1, b4, b5, h0⟩
          · have Hh0 := hid h0
            clear h0
            by_cases h5 : t < v
            · have h5' : -(v : Int) < -(t : Int) := by omega
              have h5i : (t : Int) < (v : Int) := by omega
              have hE : Ends (bl s) k := ends_of hF.out HN.out fun d h1 h2 h3 h4 => by
                have e := hsame.out d h1 h2
                subst e
                have := maxN_le 1
                omega
              clear ht hv' he
              have hpl := pintL_is hF.out HN.out (by rw [bl_len]; exact hk) hE
              have ways : (Hid (R = none) ∧ ((k : Int) == 1) = true) ∨ (((k : Int) == 1) = false ∧ ((-(v : Int)) == 0) = true ∧ Hid (R = none)) ∨ (((k : Int) == 1) = false ∧ ((-(v : Int)) == 0) = false ∧ Hid (R = some (-(v : Int), k))) := by
                by_cases hk0 : k = 1
                · exact Or.inl ⟨hid (by rw [HR.out, hpl, if_pos (Or.inl hk0)]), by simp only [beq_iff_eq]; omega⟩
                · by_cases hv0 : v = 0
                  · exact Or.inr (Or.inl ⟨by simp only [beq_eq_false_iff_ne, ne_eq]; omega, by simp only [beq_iff_eq]; omega, hid (by rw [HR.out, hpl, if_pos (Or.inr ⟨rfl, hv0⟩)])⟩)
                  · exact Or.inr (Or.inr ⟨by simp only [beq_eq_false_iff_ne, ne_eq]; omega, by simp only [beq_eq_false_iff_ne, ne_eq]; omega, hid (by rw [HR.out, hpl, if_neg (fun h => h.elim hk0 (fun h => hv0 h.2)), if_pos rfl])⟩)
              clear hpl hE
              rcases ways with ⟨HV, bk⟩ | ⟨bk, bv, HV⟩ | ⟨bk, bv, HV⟩
              · go_wp2
                rw [HV.out]
                exact bodyPost_ret (v := uV noneU) (by simp [results, uV, noneU, bs, go_sem]) rfl ⟨rfl, (Below.refl _ _).alloc (Nat.le_refl _) _⟩
              · go_wp2
                rw [HV.out]
                exact bodyPost_ret (v := uV noneU) (by simp [results, uV, noneU, bs, go_sem]) rfl ⟨rfl, (Below.refl _ _).alloc (Nat.le_refl _) _⟩
              · go_wp2
                rw [HV.out]
                exact bodyPost_ret (v := uV (numU (some (-(v : Int), k)))) (by simp [results, uV, numU, bs, go_sem]) rfl ⟨rfl, (Below.refl _ _).alloc (Nat.le_refl _) _⟩
            · have h5' : ¬ -(v : Int) < -(t : Int) := by omega
              have h5i : ¬ (t : Int) < (v : Int) := by omega
              have hv2 : v' ≤ 9223372036854775808 := by omega
              have m1 : -9223372036854775808 ≤ (-(v : Int)) * 10 := by omega
              have m2 : -9223372036854775808 ≤ (-(v : Int)) * 10 - (d : Int) := by omega
              have m3 : (-(v : Int)) * 10 ≤ 0 := by omega
              have HN2 := hid (num_step HN.out (by rw [bl_len]; exact hlt) hd9 (show (bl s)[k]'(by rw [bl_len]; exact hlt) = UInt8.ofNat (48 + d) from Hdc.out) Hh0.out (show 10 * v + d ≤ 9223372036854775808 by omega))
              rw [← hv'] at HN2
              have Hv' := hid hv'
              clear ht hv' hv2
              go_wp2
              go_round
              case rel => exact ⟨k + 1, v', by omega, by go_num, rfl, HN2⟩
              case measure => simp [intOf]; omega
          · have Hh0 := hid h0
            clear h0
            by_cases h5 : t < v
            · have h5' : -(v : Int) < -(t : Int) := by omega
              have h5i : (t : Int) < (v : Int) := by omega
              have hE : Ends (bl s) k := ends_of hF.out HN.out fun d h1 h2 h3 h4 => by
                have e := hsame.out d h1 h2
                subst e
                have := maxN_le 1
                omega
              clear ht hv' he
              have hpl := pintL_is hF.out HN.out (by rw [bl_len]; exact hk) hE
              have ways : (Hid (R = none) ∧ ((k : Int) == 1) = true) ∨ (((k : Int) == 1) = false ∧ ((-(v : Int)) == 0) = true ∧ Hid (R = none)) ∨ (((k : Int) == 1) = false ∧ ((-(v : Int)) == 0) = false ∧ Hid (R = some (-(v : Int), k))) := by
                by_cases hk0 : k = 1
                · exact Or.inl ⟨hid (by rw [HR.out, hpl, if_pos (Or.inl hk0)]), by simp only [beq_iff_eq]; omega⟩
                · by_cases hv0 : v = 0
                  · exact Or.inr (Or.inl ⟨by simp only [beq_eq_false_iff_ne, ne_eq]; omega, by simp only [beq_iff_eq]; omega, hid (by rw [HR.out, hpl, if_pos (Or.inr ⟨rfl, hv0⟩)])⟩)
                  · exact Or.inr (Or.inr ⟨by simp only [beq_eq_false_iff_ne, ne_eq]; omega, by simp only [beq_eq_false_iff_ne, ne_eq]; omega, hid (by rw [HR.out, hpl, if_neg (fun h => h.elim hk0 (fun h => hv0 h.2)), if_pos rfl])⟩)
              clear hpl hE
              rcases ways with ⟨HV, bk⟩ | ⟨bk, bv, HV⟩ | ⟨bk, bv, HV⟩
              · go_wp2
                rw [HV.out]
                exact bodyPost_ret (v := uV noneU) (by simp [results, uV, noneU, bs, go_sem]) rfl ⟨rfl, (Below.refl _ _).alloc (Nat.le_refl _) _⟩
              · go_wp2
                rw [HV.out]
                exact bodyPost_ret (v := uV noneU) (by simp [results, uV, noneU, bs, go_sem]) rfl ⟨rfl, (Below.refl _ _).alloc (Nat.le_refl _) _⟩
              · go_wp2
                rw [HV.out]
                exact bodyPost_ret (v := uV (numU (some (-(v : Int), k)))) (by simp [results, uV, numU, bs, go_sem]) rfl ⟨rfl, (Below.refl _ _).alloc (Nat.le_refl _) _⟩
            · have h5' : ¬ -(v : Int) < -(t : Int) := by omega
              have h5i : ¬ (t : Int) < (v : Int) := by omega
              have hv2 : v' ≤ 9223372036854775808 := by omega
              have m1 : -9223372036854775808 ≤ (-(v : Int)) * 10 := by omega
              have m2 : -9223372036854775808 ≤ (-(v : Int)) * 10 - (d : Int) := by omega
              have m3 : (-(v : Int)) * 10 ≤ 0 := by omega
              have HN2 := hid (num_step HN.out (by rw [bl_len]; exact hlt) hd9 (show (bl s)[k]'(by rw [bl_len]; exact hlt) = UInt8.ofNat (48 + d) from Hdc.out) Hh0.out (show 10 * v + d ≤ 9223372036854775808 by omega))
              rw [← hv'] at HN2
              have Hv' := hid hv'
              clear ht hv' hv2
              go_wp2
              go_round
              case rel => exact ⟨k + 1, v', by omega, by go_num, rfl, HN2⟩
              case measure => simp [intOf]; omega
          · have hE : Ends (bl s) k := ends_of hF.out HN.out fun d h1 h2 h3 h4 => by
              exact h0 h3
            clear ht hv' he h0
            have hpl := pintL_is hF.out HN.out (by rw [bl_len]; exact hk) hE
            have ways : (Hid (R = none) ∧ ((k : Int) == 1) = true) ∨ (((k : Int) == 1) = false ∧ ((-(v : Int)) == 0) = true ∧ Hid (R = none)) ∨ (((k : Int) == 1) = false ∧ ((-(v : Int)) == 0) = false ∧ Hid (R = some (-(v : Int), k))) := by
              by_cases hk0 : k = 1
              · exact Or.inl ⟨hid (by rw [HR.out, hpl, if_pos (Or.inl hk0)]), by simp only [beq_iff_eq]; omega⟩
              · by_cases hv0 : v = 0
                · exact Or.inr (Or.inl ⟨by simp only [beq_eq_false_iff_ne, ne_eq]; omega, by simp only [beq_iff_eq]; omega, hid (by rw [HR.out, hpl, if_pos (Or.inr ⟨rfl, hv0⟩)])⟩)
                · exact Or.inr (Or.inr ⟨by simp only [beq_eq_false_iff_ne, ne_eq]; omega, by simp only [beq_eq_false_iff_ne, ne_eq]; omega, hid (by rw [HR.out, hpl, if_neg (fun h => h.elim hk0 (fun h => hv0 h.2)), if_pos rfl])⟩)
            clear hpl hE
            rcases ways with ⟨HV, bk⟩ | ⟨bk, bv, HV⟩ | ⟨bk, bv, HV⟩
            · go_wp2
              rw [HV.out]
              exact bodyPost_ret (v := uV noneU) (by simp [results, uV, noneU, bs, go_sem]) rfl ⟨rfl, (Below.refl _ _).alloc (Nat.le_refl _) _⟩
            · go_wp2
              rw [HV.out]
              exact bodyPost_ret (v := uV noneU) (by simp [results, uV, noneU, bs, go_sem]) rfl ⟨rfl, (Below.refl _ _).alloc (Nat.le_refl _) _⟩
            · go_wp2
              rw [HV.out]
              exact bodyPost_ret (v := uV (numU (some (-(v : Int), k)))) (by simp [results, uV, numU, bs, go_sem]) rfl ⟨rfl, (Below.refl _ _).alloc (Nat.le_refl _) _⟩
        · have g2 : ¬ (s[k].toNat : Int) ≤ 57 := by omega
          have g1 : (48 : Int) ≤ (s[k].toNat : Int) := by omega
          have hE : Ends (bl s) k := ends_of hF.out HN.out fun d h1 h2 h3 h4 => by
            rw [hsk.out] at h2
            have := not_dig h1 (Option.some.inj h2)
            omega
          clear h48 h57
          have hpl := pintL_is hF.out HN.out (by rw [bl_len]; exact hk) hE
          have ways : (Hid (R = none) ∧ ((k : Int) == 1) = true) ∨ (((k : Int) == 1) = false ∧ ((-(v : Int)) == 0) = true ∧ Hid (R = none)) ∨ (((k : Int) == 1) = false ∧ ((-(v : Int)) == 0) = false ∧ Hid (R = some (-(v : Int), k))) := by
            by_cases hk0 : k = 1
            · exact Or.inl ⟨hid (by rw [HR.out, hpl, if_pos (Or.inl hk0)]), by simp only [beq_iff_eq]; omega⟩
            · by_cases hv0 : v = 0
              · exact Or.inr (Or.inl ⟨by simp only [beq_eq_false_iff_ne, ne_eq]; omega, by simp only [beq_iff_eq]; omega, hid (by rw [HR.out, hpl, if_pos (Or.inr ⟨rfl, hv0⟩)])⟩)
              · exact Or.inr (Or.inr ⟨by simp only [beq_eq_false_iff_ne, ne_eq]; omega, by simp only [beq_eq_false_iff_ne, ne_eq]; omega, hid (by rw [HR.out, hpl, if_neg (fun h => h.elim hk0 (fun h => hv0 h.2)), if_pos rfl])⟩)
          clear hpl hE
          rcases ways with ⟨HV, bk⟩ | ⟨bk, bv, HV⟩ | ⟨bk, bv, HV⟩
          · go_wp2
            rw [HV.out]
            exact bodyPost_ret (v := uV noneU) (by simp [results, uV, noneU, bs, go_sem]) rfl ⟨rfl, (Below.refl _ _).alloc (Nat.le_refl _) _⟩
          · go_wp2
            rw [HV.out]
            exact bodyPost_ret (v := uV noneU) (by simp [results, uV, noneU, bs, go_sem]) rfl ⟨rfl, (Below.refl _ _).alloc (Nat.le_refl _) _⟩
          · go_wp2
            rw [HV.out]
            exact bodyPost_ret (v := uV (numU (some (-(v : Int), k)))) (by simp [results, uV, numU, bs, go_sem]) rfl ⟨rfl, (Below.refl _ _).alloc (Nat.le_refl _) _⟩
      · have g1 : ¬ (48 : Int) ≤ (s[k].toNat : Int) := by omega
        have hE : Ends (bl s) k := ends_of hF.out HN.out fun d h1 h2 h3 h4 => by
          rw [hsk.out] at h2
          have := not_dig h1 (Option.some.inj h2)
          omega
        clear h48
        have hpl := pintL_is hF.out HN.out (by rw [bl_len]; exact hk) hE
        have ways : (Hid (R = none) ∧ ((k : Int) == 1) = true) ∨ (((k : Int) == 1) = false ∧ ((-(v : Int)) == 0) = true ∧ Hid (R = none)) ∨ (((k : Int) == 1) = false ∧ ((-(v : Int)) == 0) = false ∧ Hid (R = some (-(v : Int), k))) := by
          by_cases hk0 : k = 1
          · exact Or.inl ⟨hid (by rw [HR.out, hpl, if_pos (Or.inl hk0)]), by simp only [beq_iff_eq]; omega⟩
          · by_cases hv0 : v = 0
            · exact Or.inr (Or.inl ⟨by simp only [beq_eq_false_iff_ne, ne_eq]; omega, by simp only [beq_iff_eq]; omega, hid (by rw [HR.out, hpl, if_pos (Or.inr ⟨rfl, hv0⟩)])⟩)
            · exact Or.inr (Or.inr ⟨by simp only [beq_eq_false_iff_ne, ne_eq]; omega, by simp only [beq_eq_false_iff_ne, ne_eq]; omega, hid (by rw [HR.out, hpl, if_neg (fun h => h.elim hk0 (fun h => hv0 h.2)), if_pos rfl])⟩)
        clear hpl hE
        rcases ways with ⟨HV, bk⟩ | ⟨bk, bv, HV⟩ | ⟨bk, bv, HV⟩
        · go_wp2
          rw [HV.out]
          exact bodyPost_ret (v := uV noneU) (by simp [results, uV, noneU, bs, go_sem]) rfl ⟨rfl, (Below.refl _ _).alloc (Nat.le_refl _) _⟩
        · go_wp2
          rw [HV.out]
          exact bodyPost_ret (v := uV noneU) (by simp [results, uV, noneU, bs, go_sem]) rfl ⟨rfl, (Below.refl _ _).alloc (Nat.le_refl _) _⟩
        · go_wp2
          rw [HV.out]
          exact bodyPost_ret (v := uV (numU (some (-(v : Int), k)))) (by simp [results, uV, numU, bs, go_sem]) rfl ⟨rfl, (Below.refl _ _).alloc (Nat.le_refl _) _⟩
    · have hE : Ends (bl s) k := ends_of hF.out HN.out fun d h1 h2 h3 h4 => by
        rw [List.getElem?_eq_none (by rw [bl_len]; omega)] at h2
        cases h2
      have hpl := pintL_is hF.out HN.out (by rw [bl_len]; exact hk) hE
      have ways : (Hid (R = none) ∧ ((k : Int) == 1) = true) ∨ (((k : Int) == 1) = false ∧ ((-(v : Int)) == 0) = true ∧ Hid (R = none)) ∨ (((k : Int) == 1) = false ∧ ((-(v : Int)) == 0) = false ∧ Hid (R = some (-(v : Int), k))) := by
        by_cases hk0 : k = 1
        · exact Or.inl ⟨hid (by rw [HR.out, hpl, if_pos (Or.inl hk0)]), by simp only [beq_iff_eq]; omega⟩
        · by_cases hv0 : v = 0
          · exact Or.inr (Or.inl ⟨by simp only [beq_eq_false_iff_ne, ne_eq]; omega, by simp only [beq_iff_eq]; omega, hid (by rw [HR.out, hpl, if_pos (Or.inr ⟨rfl, hv0⟩)])⟩)
          · exact Or.inr (Or.inr ⟨by simp only [beq_eq_false_iff_ne, ne_eq]; omega, by simp only [beq_eq_false_iff_ne, ne_eq]; omega, hid (by rw [HR.out, hpl, if_neg (fun h => h.elim hk0 (fun h => hv0 h.2)), if_pos rfl])⟩)
      clear hpl hE
      rcases ways with ⟨HV, bk⟩ | ⟨bk, bv, HV⟩ | ⟨bk, bv, HV⟩
      · go_wp2
        rw [HV.out]
        exact bodyPost_ret (v := uV noneU) (by simp [results, uV, noneU, bs, go_sem]) rfl ⟨rfl, (Below.refl _ _).alloc (Nat.le_refl _) _⟩
      · go_wp2
        rw [HV.out]
        exact bodyPost_ret (v := uV noneU) (by simp [results, uV, noneU, bs, go_sem]) rfl ⟨rfl, (Below.refl _ _).alloc (Nat.le_refl _) _⟩
      · go_wp2
        rw [HV.out]
        exact bodyPost_ret (v := uV (numU (some (-(v : Int), k)))) (by simp [results, uV, numU, bs, go_sem]) rfl ⟨rfl, (Below.refl _ _).alloc (Nat.le_refl _) _⟩
set_option maxRecDepth 100000 in
set_option maxHeartbeats 16000000 in
theorem rnum0 (s : ByteArray) (hs : s.size ≤ 281474976710656) (w : World) (hp : 0 < s.size) (h45 : s[0].toNat ≠ 45) :
    Calls Tryz.prog 134 #[.string s] w fun e w' => e = .returned (uV (numU (pintL (bl s)))) ∧ Below w.heap.size w w' := by
  obtain ⟨R, hR⟩ : ∃ R, R = pintL (bl s) := ⟨_, rfl⟩
  have HR := hid hR
  rw [← hR]
  clear hR
  have hF := hid (show From (bl s) 0 from Or.inr ⟨rfl, by
    have hc := rest_cons hp
    rw [List.drop_zero] at hc
    rw [hc]
    intro e
    exact h45 (by rw [Option.some.inj e]; rfl)⟩)
  have b45 : ((s[0].toNat : Int) == 45) = false := by simp only [beq_eq_false_iff_ne, ne_eq]; omega
  clear h45
  go_enter Tryz.func134, Tryz.ntmps134
  go_wp2
  go_loop [5, 7] (fun i n => ∃ k v : Nat, k ≤ s.size ∧ i = .int .i64 k ∧ n = .int .i64 (-(v : Int)) ∧ Hid (NumAt (bl s) 0 k v)) (fun i _ => s.size - (intOf i).toNat)
  case atStart => exact ⟨0, 0, by omega, rfl, rfl, hid num_start⟩
  case round =>
    obtain ⟨k, v, hk, rfl, rfl, HN⟩ := hrel
    have hvb : (v : Int) ≤ 9223372036854775808 := by have h1 := HN.out.fits; have h2 := maxN_le 0; omega
    have hvb' : v ≤ 9223372036854775807 := HN.out.fits
    by_cases hlt : k < s.size
    · have hby : (s[k].toNat : Int) ≤ 255 := by have := s[k].toNat_lt; omega
      have hsk := hid (at_bl hlt)
      by_cases h48 : 48 ≤ s[k].toNat
      · by_cases h57 : s[k].toNat ≤ 57
        · obtain ⟨d, hd⟩ : ∃ d : Nat, d = s[k].toNat - 48 := ⟨_, rfl⟩
          have hd9 : d ≤ 9 := by omega
          have hdi : (s[k].toNat : Int) - 48 = (d : Int) := by omega
          have Hdc := hid (show s[k] = UInt8.ofNat (48 + d) by rw [hd]; exact dig_of h48 h57)
          have g1 : (48 : Int) ≤ (s[k].toNat : Int) := by omega
          have g2 : (s[k].toNat : Int) ≤ 57 := by omega
          have four := num_four HN.out (by rw [bl_len]; exact hk)
          clear h48 h57
          have Hd := hid hd
          clear hd
          have hsame := hid (fun (d' : Nat) (h1 : d' ≤ 9) (h2 : (bl s)[k]? = some (UInt8.ofNat (48 + d'))) => (show d' = d by
            rw [hsk.out] at h2
            have := not_dig h1 (Option.some.inj h2)
            have := Hd.out
            omega))
          have step : (((k : Int) == 1) = false ∧ (0 < k → 1 ≤ v)) ∨ (∃ hf1 : 0 < s.size, ((k : Int) == 1) = true ∧ ((s[0].toNat : Int) == 48) = false ∧ (0 < k → 1 ≤ v)) ∨ (∃ hf1 : 0 < s.size, ((k : Int) == 1) = true ∧ ((s[0].toNat : Int) == 48) = true ∧ ¬ (0 < k → 1 ≤ v)) := by
            rcases four with h | ⟨h1, h2, h3⟩ | ⟨h1, h2, h3⟩ | ⟨h1, h2⟩
            · exact Or.inl ⟨by simp only [beq_eq_false_iff_ne, ne_eq]; omega, fun h' => absurd h' (by omega)⟩
            · have hf1 : 0 < s.size := by omega
              rw [at_bl hf1] at h3
              refine Or.inr (Or.inr ⟨hf1, by simp only [beq_iff_eq]; omega, ?_, fun h' => by have := h' (by omega); omega⟩)
              rw [Option.some.inj h3]; rfl
            · have hf1 : 0 < s.size := by omega
              rw [at_bl hf1] at h3
              refine Or.inr (Or.inl ⟨hf1, by simp only [beq_iff_eq]; omega, ?_, fun _ => h2⟩)
              simp only [beq_eq_false_iff_ne, ne_eq]
              intro e
              exact h3 (by rw [show s[0] = 48 from UInt8.toNat_inj.1 (by show s[0].toNat = 48; omega)])
            · exact Or.inl ⟨by simp only [beq_eq_false_iff_ne, ne_eq]; omega, fun _ => h2⟩
          clear four
          obtain ⟨t, ht⟩ : ∃ t : Nat, t = (9223372036854775808 - d) / 10 := ⟨_, rfl⟩
          have htd : (-9223372036854775808 + (d : Int)).tdiv 10 = -(t : Int) := by
            rw [show (-9223372036854775808 + (d : Int)) = -(((9223372036854775808 - d : Nat)) : Int) by omega, Int.neg_tdiv, Int.tdiv_eq_ediv_of_nonneg (by omega)]
            omega
          have htw : wrap64 (-(t : Int)) = -(t : Int) := by rw [Num.wrap_i]; omega
          have hvw : wrap64 (-(v : Int)) = -(v : Int) := by rw [Num.wrap_i]; omega
          obtain ⟨v', hv'⟩ : ∃ v' : Nat, v' = 10 * v + d := ⟨_, rfl⟩
          have he : (-(v : Int)) * 10 - (d : Int) = -(v' : Int) := by omega
          rcases step with ⟨b4, h0⟩ | ⟨hf1, b4, b5, h0⟩ | ⟨hf1, b4, b5, h0⟩
          · have Hh0 := hid h0
            clear h0
            by_cases h5 : t < v
            · have h5' : -(v : Int) < -(t : Int) := by omega
              have h5i : (t : Int) < (v : Int) := by omega
              have hE : Ends (bl s) k := ends_of hF.out HN.out fun d h1 h2 h3 h4 => by
                have e := hsame.out d h1 h2
                subst e
                have := maxN_le 0
                omega
              clear ht hv' he
              have hpl := pintL_is hF.out HN.out (by rw [bl_len]; exact hk) hE
              have ways : (k = 0 ∧ Hid (R = none) ∧ ((k : Int) == 0) = true) ∨ (((k : Int) == 0) = false ∧ Hid (R = some ((v : Int), k))) := by
                by_cases hk0 : k = 0
                · exact Or.inl ⟨hk0, hid (by rw [HR.out, hpl, if_pos (Or.inl hk0)]), by simp only [beq_iff_eq]; omega⟩
                · exact Or.inr ⟨by simp only [beq_eq_false_iff_ne, ne_eq]; omega, hid (by rw [HR.out, hpl, if_neg (fun h => h.elim hk0 (fun h => absurd h.1 (by decide))), if_neg (by decide)])⟩
              clear hpl hE
              rcases ways with ⟨hk0, HV, bk⟩ | ⟨bk, HV⟩
              · clear hk0
                go_wp2
                rw [HV.out]
                exact bodyPost_ret (v := uV noneU) (by simp [results, uV, noneU, bs, go_sem]) rfl ⟨rfl, (Below.refl _ _).alloc (Nat.le_refl _) _⟩
              · go_wp2
                rw [HV.out]
                exact bodyPost_ret (v := uV (numU (some ((v : Int), k)))) (by simp [results, uV, numU, bs, go_sem]) rfl ⟨rfl, (Below.refl _ _).alloc (Nat.le_refl _) _⟩
            · have h5' : ¬ -(v : Int) < -(t : Int) := by omega
              have h5i : ¬ (t : Int) < (v : Int) := by omega
              have hv2 : v' ≤ 9223372036854775808 := by omega
              have m1 : -9223372036854775808 ≤ (-(v : Int)) * 10 := by omega
              have m2 : -9223372036854775808 ≤ (-(v : Int)) * 10 - (d : Int) := by omega
              have m3 : (-(v : Int)) * 10 ≤ 0 := by omega
              by_cases h6 : v' = 9223372036854775808
              · have b6 : ((-(v' : Int)) == -9223372036854775808) = true := by simp only [beq_iff_eq]; omega
                have he2 : (-(v' : Int) + (d : Int)).tdiv 10 = -(v : Int) := by
                  rw [show (-(v' : Int) + (d : Int)) = -(((10 * v : Nat)) : Int) by omega, Int.neg_tdiv, Int.tdiv_eq_ediv_of_nonneg (by omega)]
                  omega
                have hE : Ends (bl s) k := ends_of hF.out HN.out fun d h1 h2 h3 h4 => by
                  have e := hsame.out d h1 h2
                  subst e
                  have h4' : 10 * v + d ≤ 9223372036854775807 := h4
                  omega
                have Hv' := hid hv'
                clear ht hv' h6
                have hpl := pintL_is hF.out HN.out (by rw [bl_len]; exact hk) hE
                have ways : (k = 0 ∧ Hid (R = none) ∧ ((k : Int) == 0) = true) ∨ (((k : Int) == 0) = false ∧ Hid (R = some ((v : Int), k))) := by
                  by_cases hk0 : k = 0
                  · exact Or.inl ⟨hk0, hid (by rw [HR.out, hpl, if_pos (Or.inl hk0)]), by simp only [beq_iff_eq]; omega⟩
                  · exact Or.inr ⟨by simp only [beq_eq_false_iff_ne, ne_eq]; omega, hid (by rw [HR.out, hpl, if_neg (fun h => h.elim hk0 (fun h => absurd h.1 (by decide))), if_neg (by decide)])⟩
                clear hpl hE
                rcases ways with ⟨hk0, HV, bk⟩ | ⟨bk, HV⟩
                · clear hk0
                  go_wp2
                  rw [HV.out]
                  exact bodyPost_ret (v := uV noneU) (by simp [results, uV, noneU, bs, go_sem]) rfl ⟨rfl, (Below.refl _ _).alloc (Nat.le_refl _) _⟩
                · go_wp2
                  rw [HV.out]
                  exact bodyPost_ret (v := uV (numU (some ((v : Int), k)))) (by simp [results, uV, numU, bs, go_sem]) rfl ⟨rfl, (Below.refl _ _).alloc (Nat.le_refl _) _⟩
              · have b6 : ((-(v' : Int)) == -9223372036854775808) = false := by simp only [beq_eq_false_iff_ne, ne_eq]; omega
                have HN2 := hid (num_step HN.out (by rw [bl_len]; exact hlt) hd9 (show (bl s)[k]'(by rw [bl_len]; exact hlt) = UInt8.ofNat (48 + d) from Hdc.out) Hh0.out (show 10 * v + d ≤ 9223372036854775807 by omega))
                rw [← hv'] at HN2
                have Hv' := hid hv'
                clear ht hv' h6 hv2
                go_wp2
                go_round
                case rel => exact ⟨k + 1, v', by omega, by go_num, rfl, HN2⟩
                case measure => simp [intOf]; omega
          · have Hh0 := hid h0
            clear h0
            by_cases h5 : t < v
            · have h5' : -(v : Int) < -(t : Int) := by omega
              have h5i : (t : Int) < (v : Int) := by omega
              have hE : Ends (bl s) k := ends_of hF.out HN.out fun d h1 h2 h3 h4 => by
                have e := hsame.out d h1 h2
                subst e
                have := maxN_le 0
                omega
              clear ht hv' he
              have hpl := pintL_is hF.out HN.out (by rw [bl_len]; exact hk) hE
              have ways : (k = 0 ∧ Hid (R = none) ∧ ((k : Int) == 0) = true) ∨ (((k : Int) == 0) = false ∧ Hid (R = some ((v : Int), k))) := by
                by_cases hk0 : k = 0
                · exact Or.inl ⟨hk0, hid (by rw [HR.out, hpl, if_pos (Or.inl hk0)]), by simp only [beq_iff_eq]; omega⟩
                · exact Or.inr ⟨by simp only [beq_eq_false_iff_ne, ne_eq]; omega, hid (by rw [HR.out, hpl, if_neg (fun h => h.elim hk0 (fun h => absurd h.1 (by decide))), if_neg (by decide)])⟩
              clear hpl hE
              rcases ways with ⟨hk0, HV, bk⟩ | ⟨bk, HV⟩
              · clear hk0
                go_wp2
                rw [HV.out]
                exact bodyPost_ret (v := uV noneU) (by simp [results, uV, noneU, bs, go_sem]) rfl ⟨rfl, (Below.refl _ _).alloc (Nat.le_refl _) _⟩
              · go_wp2
                rw [HV.out]
                exact bodyPost_ret (v := uV (numU (some ((v : Int), k)))) (by simp [results, uV, numU, bs, go_sem]) rfl ⟨rfl, (Below.refl _ _).alloc (Nat.le_refl _) _⟩
            · have h5' : ¬ -(v : Int) < -(t : Int) := by omega
              have h5i : ¬ (t : Int) < (v : Int) := by omega
              have hv2 : v' ≤ 9223372036854775808 := by omega
              have m1 : -9223372036854775808 ≤ (-(v : Int)) * 10 := by omega
              have m2 : -9223372036854775808 ≤ (-(v : Int)) * 10 - (d : Int) := by omega
              have m3 : (-(v : Int)) * 10 ≤ 0 := by omega
              by_cases h6 : v' = 9223372036854775808
              · have b6 : ((-(v' : Int)) == -9223372036854775808) = true := by simp only [beq_iff_eq]; omega
                have he2 : (-(v' : Int) + (d : Int)).tdiv 10 = -(v : Int) := by
                  rw [show (-(v' : Int) + (d : Int)) = -(((10 * v : Nat)) : Int) by omega, Int.neg_tdiv, Int.tdiv_eq_ediv_of_nonneg (by omega)]
                  omega
                have hE : Ends (bl s) k := ends_of hF.out HN.out fun d h1 h2 h3 h4 => by
                  have e := hsame.out d h1 h2
                  subst e
                  have h4' : 10 * v + d ≤ 9223372036854775807 := h4
                  omega
                have Hv' := hid hv'
                clear ht hv' h6
                have hpl := pintL_is hF.out HN.out (by rw [bl_len]; exact hk) hE
                have ways : (k = 0 ∧ Hid (R = none) ∧ ((k : Int) == 0) = true) ∨ (((k : Int) == 0) = false ∧ Hid (R = some ((v : Int), k))) := by
                  by_cases hk0 : k = 0
                  · exact Or.inl ⟨hk0, hid (by rw [HR.out, hpl, if_pos (Or.inl hk0)]), by simp only [beq_iff_eq]; omega⟩
                  · exact Or.inr ⟨by simp only [beq_eq_false_iff_ne, ne_eq]; omega, hid (by rw [HR.out, hpl, if_neg (fun h => h.elim hk0 (fun h => absurd h.1 (by decide))), if_neg (by decide)])⟩
                clear hpl hE
                rcases ways with ⟨hk0, HV, bk⟩ | ⟨bk, HV⟩
                · clear hk0
                  go_wp2
                  rw [HV.out]
                  exact bodyPost_ret (v := uV noneU) (by simp [results, uV, noneU, bs, go_sem]) rfl ⟨rfl, (Below.refl _ _).alloc (Nat.le_refl _) _⟩
                · go_wp2
                  rw [HV.out]
                  exact bodyPost_ret (v := uV (numU (some ((v : Int), k)))) (by simp [results, uV, numU, bs, go_sem]) rfl ⟨rfl, (Below.refl _ _).alloc (Nat.le_refl _) _⟩
              · have b6 : ((-(v' : Int)) == -9223372036854775808) = false := by simp only [beq_eq_false_iff_ne, ne_eq]; omega
                have HN2 := hid (num_step HN.out (by rw [bl_len]; exact hlt) hd9 (show (bl s)[k]'(by rw [bl_len]; exact hlt) = UInt8.ofNat (48 + d) from Hdc.out) Hh0.out (show 10 * v + d ≤ 9223372036854775807 by omega))
                rw [← hv'] at HN2
                have Hv' := hid hv'
                clear ht hv' h6 hv2
                go_wp2
                go_round
                case rel => exact ⟨k + 1, v', by omega, by go_num, rfl, HN2⟩
                case measure => simp [intOf]; omega
          · have hE : Ends (bl s) k := ends_of hF.out HN.out fun d h1 h2 h3 h4 => by
              exact h0 h3
            clear ht hv' he h0
            have hpl := pintL_is hF.out HN.out (by rw [bl_len]; exact hk) hE
            have ways : (k = 0 ∧ Hid (R = none) ∧ ((k : Int) == 0) = true) ∨ (((k : Int) == 0) = false ∧ Hid (R = some ((v : Int), k))) := by
              by_cases hk0 : k = 0
              · exact Or.inl ⟨hk0, hid (by rw [HR.out, hpl, if_pos (Or.inl hk0)]), by simp only [beq_iff_eq]; omega⟩
              · exact Or.inr ⟨by simp only [beq_eq_false_iff_ne, ne_eq]; omega, hid (by rw [HR.out, hpl, if_neg (fun h => h.elim hk0 (fun h => absurd h.1 (by decide))), if_neg (by decide)])⟩
            clear hpl hE
            rcases ways with ⟨hk0, HV, bk⟩ | ⟨bk, HV⟩
            · clear hk0
              go_wp2
              rw [HV.out]
              exact bodyPost_ret (v := uV noneU) (by simp [results, uV, noneU, bs, go_sem]) rfl ⟨rfl, (Below.refl _ _).alloc (Nat.le_refl _) _⟩
            · go_wp2
              rw [HV.out]
              exact bodyPost_ret (v := uV (numU (some ((v : Int), k)))) (by simp [results, uV, numU, bs, go_sem]) rfl ⟨rfl, (Below.refl _ _).alloc (Nat.le_refl _) _⟩
        · have g2 : ¬ (s[k].toNat : Int) ≤ 57 := by omega
          have g1 : (48 : Int) ≤ (s[k].toNat : Int) := by omega
          have hE : Ends (bl s) k := ends_of hF.out HN.out fun d h1 h2 h3 h4 => by
            rw [hsk.out] at h2
            have := not_dig h1 (Option.some.inj h2)
            omega
          clear h48 h57
          have hpl := pintL_is hF.out HN.out (by rw [bl_len]; exact hk) hE
          have ways : (k = 0 ∧ Hid (R = none) ∧ ((k : Int) == 0) = true) ∨ (((k : Int) == 0) = false ∧ Hid (R = some ((v : Int), k))) := by
            by_cases hk0 : k = 0
            · exact Or.inl ⟨hk0, hid (by rw [HR.out, hpl, if_pos (Or.inl hk0)]), by simp only [beq_iff_eq]; omega⟩
            · exact Or.inr ⟨by simp only [beq_eq_false_iff_ne, ne_eq]; omega, hid (by rw [HR.out, hpl, if_neg (fun h => h.elim hk0 (fun h => absurd h.1 (by decide))), if_neg (by decide)])⟩
          clear hpl hE
          rcases ways with ⟨hk0, HV, bk⟩ | ⟨bk, HV⟩
          · clear hk0
            go_wp2
            rw [HV.out]
            exact bodyPost_ret (v := uV noneU) (by simp [results, uV, noneU, bs, go_sem]) rfl ⟨rfl, (Below.refl _ _).alloc (Nat.le_refl _) _⟩
          · go_wp2
            rw [HV.out]
            exact bodyPost_ret (v := uV (numU (some ((v : Int), k)))) (by simp [results, uV, numU, bs, go_sem]) rfl ⟨rfl, (Below.refl _ _).alloc (Nat.le_refl _) _⟩
      · have g1 : ¬ (48 : Int) ≤ (s[k].toNat : Int) := by omega
        have hE : Ends (bl s) k := ends_of hF.out HN.out fun d h1 h2 h3 h4 => by
          rw [hsk.out] at h2
          have := not_dig h1 (Option.some.inj h2)
          omega
        clear h48
        have hpl := pintL_is hF.out HN.out (by rw [bl_len]; exact hk) hE
        have ways : (k = 0 ∧ Hid (R = none) ∧ ((k : Int) == 0) = true) ∨ (((k : Int) == 0) = false ∧ Hid (R = some ((v : Int), k))) := by
          by_cases hk0 : k = 0
          · exact Or.inl ⟨hk0, hid (by rw [HR.out, hpl, if_pos (Or.inl hk0)]), by simp only [beq_iff_eq]; omega⟩
          · exact Or.inr ⟨by simp only [beq_eq_false_iff_ne, ne_eq]; omega, hid (by rw [HR.out, hpl, if_neg (fun h => h.elim hk0 (fun h => absurd h.1 (by decide))), if_neg (by decide)])⟩
        clear hpl hE
        rcases ways with ⟨hk0, HV, bk⟩ | ⟨bk, HV⟩
        · clear hk0
          go_wp2
          rw [HV.out]
          exact bodyPost_ret (v := uV noneU) (by simp [results, uV, noneU, bs, go_sem]) rfl ⟨rfl, (Below.refl _ _).alloc (Nat.le_refl _) _⟩
        · go_wp2
          rw [HV.out]
          exact bodyPost_ret (v := uV (numU (some ((v : Int), k)))) (by simp [results, uV, numU, bs, go_sem]) rfl ⟨rfl, (Below.refl _ _).alloc (Nat.le_refl _) _⟩
    · have hE : Ends (bl s) k := ends_of hF.out HN.out fun d h1 h2 h3 h4 => by
        rw [List.getElem?_eq_none (by rw [bl_len]; omega)] at h2
        cases h2
      have hpl := pintL_is hF.out HN.out (by rw [bl_len]; exact hk) hE
      have ways : (k = 0 ∧ Hid (R = none) ∧ ((k : Int) == 0) = true) ∨ (((k : Int) == 0) = false ∧ Hid (R = some ((v : Int), k))) := by
        by_cases hk0 : k = 0
        · exact Or.inl ⟨hk0, hid (by rw [HR.out, hpl, if_pos (Or.inl hk0)]), by simp only [beq_iff_eq]; omega⟩
        · exact Or.inr ⟨by simp only [beq_eq_false_iff_ne, ne_eq]; omega, hid (by rw [HR.out, hpl, if_neg (fun h => h.elim hk0 (fun h => absurd h.1 (by decide))), if_neg (by decide)])⟩
      clear hpl hE
      rcases ways with ⟨hk0, HV, bk⟩ | ⟨bk, HV⟩
      · clear hk0
        go_wp2
        rw [HV.out]
        exact bodyPost_ret (v := uV noneU) (by simp [results, uV, noneU, bs, go_sem]) rfl ⟨rfl, (Below.refl _ _).alloc (Nat.le_refl _) _⟩
      · go_wp2
        rw [HV.out]
        exact bodyPost_ret (v := uV (numU (some ((v : Int), k)))) (by simp [results, uV, numU, bs, go_sem]) rfl ⟨rfl, (Below.refl _ _).alloc (Nat.le_refl _) _⟩
set_option maxRecDepth 100000 in
set_option maxHeartbeats 4000000 in
theorem rnumE (s : ByteArray) (hp : s.size = 0) (w : World) :
    Calls Tryz.prog 134 #[.string s] w fun e w' => e = .returned (uV (numU (pintL (bl s)))) ∧ Below w.heap.size w w' := by
  have hz : bl s = [] := by
    apply List.length_eq_zero_iff.1
    rw [bl_len]; exact hp
  rw [hz, show numU (pintL []) = noneU from rfl]
  have h0 : ¬ 0 < s.size := by omega
  have h1 : s = ⟨#[]⟩ := by
    show s = bs []
    rw [← hz]; rfl
  subst h1
  clear hp hz h0
  go_enter Tryz.func134, Tryz.ntmps134
  go_wp2
  go_loop [5, 7] (fun i n => i = .int .i64 0 ∧ n = .int .i64 0) (fun i _ => 0)
  case atStart => exact ⟨rfl, rfl⟩
  case round =>
    obtain ⟨rfl, rfl⟩ := hrel
    go_wp2
    exact bodyPost_ret (v := uV noneU) (by simp [results, uV, noneU, bs, go_sem]) rfl ⟨rfl, (Below.refl _ _).alloc (Nat.le_refl _) _⟩
theorem rnum_any (s : ByteArray) (hs : s.size ≤ 281474976710656) (w : World) :
    Calls Tryz.prog 134 #[.string s] w fun e w' => e = .returned (uV (numU (pintL (bl s)))) ∧ Below w.heap.size w w' := by
  by_cases hp : s.size = 0
  · exact rnumE s hp w
  · by_cases h45 : (s[0]'(by omega)).toNat = 45
    · exact rnum1 s hs w (by omega) h45
    · exact rnum0 s hs w (by omega) h45
end Va
end Go.Proofs.YtiellodbkanciaaGreatDoor
