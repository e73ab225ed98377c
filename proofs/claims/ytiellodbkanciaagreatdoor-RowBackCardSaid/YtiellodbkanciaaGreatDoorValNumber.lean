/-
  Plain mathematics of the number at the beginning of a text: what a loop over its digits holds, and when it is at the end. No program in sight.
-/
import Derived.Test.YtiellodbkanciaaGreatDoorGrpValA
namespace Go.Proofs.YtiellodbkanciaaGreatDoor
namespace Va
theorem dig_take : ∀ (q u : Nat), q < (Lib.decDigits u).length → (Lib.decDigits u).take ((Lib.decDigits u).length - q) = Lib.decDigits (u / 10 ^ q)
  | 0, u, _ => by simp
  | q + 1, u, h => by
    have h10 : ¬ u < 10 := fun h10 => by
      rw [Lib.decDigits_one h10] at h
      simp at h
    have hd : Lib.decDigits u = Lib.decDigits (u / 10) ++ [UInt8.ofNat (48 + u % 10)] := by rw [Lib.decDigits, dif_neg h10]
    rw [hd] at h ⊢
    rw [List.length_append, List.length_singleton] at h ⊢
    have ih := dig_take q (u / 10) (by omega)
    rw [show (Lib.decDigits (u / 10)).length + 1 - (q + 1) = (Lib.decDigits (u / 10)).length - q by omega, List.take_append_of_le_length (by omega), ih, Nat.div_div_eq_div_mul, Nat.pow_succ, Nat.mul_comm]
theorem dig_inj {u v : Nat} (hu : u < 18446744073709551616) (hv : v < 18446744073709551616) (h : Lib.decDigits u = Lib.decDigits v) : u = v := by
  have h1 := parse10_digits u hu
  rw [h, parse10_digits v hv] at h1
  injection h1 with h1
  exact h1.symm
/-- The greatest number that fits behind a sign, or none. -/
def maxN (f : Nat) : Nat := if f = 1 then 9223372036854775808 else 9223372036854775807
theorem maxN_le (f : Nat) : maxN f ≤ 9223372036854775808 := by unfold maxN; split <;> omega
/-- Where the digits begin: behind a sign, or at once. -/
def From (s : Bs) (f : Nat) : Prop := (f = 1 ∧ s.head? = some 45) ∨ (f = 0 ∧ s.head? ≠ some 45)
/-- The digits from f to k say v. -/
structure NumAt (s : Bs) (f k v : Nat) : Prop where
  le : f ≤ k
  none : k = f → v = 0
  some : f < k → (s.drop f).take (k - f) = Lib.decDigits v
  fits : v ≤ maxN f
theorem itoa_parts {s : Bs} {f j : Nat} (hf : From s f) (hj : 1 ≤ j) {n : Int} (hn : InI n) (h : Lib.itoa n = s.take j) : ∃ u : Nat, u ≤ maxN f ∧ (f = 1 → 1 ≤ u) ∧ (s.drop f).take (j - f) = Lib.decDigits u ∧ n = if f = 1 then -(u : Int) else u := by
  unfold InI at hn
  have hh : (s.take j).head? = s.head? := by
    cases s with
    | nil => simp
    | cons a l =>
      obtain ⟨j, rfl⟩ : ∃ i, j = i + 1 := ⟨j - 1, by omega⟩
      simp
  have hdt : (s.take j).drop f = (s.drop f).take (j - f) := by rw [List.drop_take]
  unfold Lib.itoa at h
  by_cases hneg : n < 0
  · rw [if_pos hneg] at h
    have h45 : s.head? = some 45 := by rw [← hh, ← h]; rfl
    rcases hf with ⟨rfl, _⟩ | ⟨rfl, h0⟩
    · refine ⟨n.natAbs, by unfold maxN; simp; omega, fun _ => by omega, ?_, by simp; omega⟩
      rw [← hdt, ← h]; rfl
    · exact absurd h45 h0
  · rw [if_neg hneg] at h
    obtain ⟨c, r, hd, h1, h2⟩ := digits_cons n.toNat
    have hne : s.head? ≠ some 45 := by
      rw [← hh, ← h, hd]
      intro e
      simp at e
      subst e
      revert h1; decide
    rcases hf with ⟨rfl, h45⟩ | ⟨rfl, _⟩
    · exact absurd h45 hne
    · refine ⟨n.toNat, by unfold maxN; simp; omega, fun e => by omega, ?_, by simp; omega⟩
      rw [← hdt, ← h]; rfl
/-- If a longer beginning is a number, the next byte goes on with this one. -/
theorem goes_on {s : Bs} {f k v j : Nat} (hf : From s f) (hN : NumAt s f k v) (hkj : k < j) (hj : j ≤ s.length) {n : Int} (h : intAt (s.take j) = some n) :
    ∃ d : Nat, d ≤ 9 ∧ s[k]? = some (UInt8.ofNat (48 + d)) ∧ (f < k → 1 ≤ v) ∧ 10 * v + d ≤ maxN f := by
  obtain ⟨hn, hi⟩ := intAt_back h
  obtain ⟨u, hu, _, hd, _⟩ := itoa_parts hf (by omega) hn hi
  have hmax := maxN_le f
  have hfk := hN.le
  have hlen : (Lib.decDigits u).length = j - f := by
    rw [← hd, List.length_take, List.length_drop]; omega
  have ht := dig_take (j - (k + 1)) u (by omega)
  have hpre : (s.drop f).take (k + 1 - f) = Lib.decDigits (u / 10 ^ (j - (k + 1))) := by
    rw [← ht, ← hd, List.take_take, List.length_take, List.length_drop]
    congr 1
    omega
  have hu' : u / 10 ^ (j - (k + 1)) ≤ maxN f := Nat.le_trans (Nat.div_le_self _ _) hu
  generalize u / 10 ^ (j - (k + 1)) = x at hpre hu'
  have hat : s[k]? = ((s.drop f).take (k + 1 - f))[k - f]? := by
    rw [List.getElem?_take_of_lt (by omega), List.getElem?_drop]
    congr 1; omega
  rcases Nat.lt_or_ge f k with hlt | hge
  · have hv := hN.some hlt
    have hsp : (s.drop f).take (k + 1 - f) = (s.drop f).take (k - f) ++ [s[k]'(by omega)] := by
      rw [show k + 1 - f = (k - f) + 1 by omega, List.take_succ_eq_append_getElem (by rw [List.length_drop]; omega)]
      congr 2
      rw [List.getElem_drop]
      congr 1; omega
    have h10 : ¬ x < 10 := by
      intro h10
      have h1 := congrArg List.length hpre
      rw [Lib.decDigits_one h10, hsp, List.length_append, hv] at h1
      have := digits_pos v
      simp only [List.length_cons, List.length_nil] at h1
      omega
    have hx : Lib.decDigits x = Lib.decDigits (x / 10) ++ [UInt8.ofNat (48 + x % 10)] := by rw [Lib.decDigits, dif_neg h10]
    rw [hsp, hv, hx] at hpre
    have h2 := List.append_inj' hpre rfl
    have hvx : v = x / 10 := dig_inj (by have := hN.fits; omega) (by omega) h2.1
    refine ⟨x % 10, by omega, ?_, fun _ => by omega, by omega⟩
    rw [List.getElem?_eq_getElem (by omega)]
    have h3 := h2.2
    simp only [List.cons.injEq, and_true] at h3
    rw [h3]
  · have hkf : k = f := by omega
    subst hkf
    have hv0 := hN.none rfl
    have hl1 : (Lib.decDigits x).length = 1 := by
      rw [← hpre, List.length_take, List.length_drop]; omega
    have h10 : x < 10 := by
      apply Classical.byContradiction
      intro h10
      have hx : Lib.decDigits x = Lib.decDigits (x / 10) ++ [UInt8.ofNat (48 + x % 10)] := by rw [Lib.decDigits, dif_neg h10]
      rw [hx, List.length_append] at hl1
      have := digits_pos (x / 10)
      simp at hl1
      rw [hl1] at this
      simp at this
    rw [Lib.decDigits_one h10] at hpre
    refine ⟨x, by omega, ?_, fun h => absurd h (by omega), by omega⟩
    rw [hat, hpre]
    simp
theorem num_start {s : Bs} {f : Nat} : NumAt s f f 0 := ⟨Nat.le_refl _, fun _ => rfl, fun h => absurd h (by omega), Nat.zero_le _⟩
theorem num_step {s : Bs} {f k v d : Nat} (hN : NumAt s f k v) (hk : k < s.length) (hd : d ≤ 9) (hs : s[k] = UInt8.ofNat (48 + d)) (h0 : f < k → 1 ≤ v) (hfit : 10 * v + d ≤ maxN f) : NumAt s f (k + 1) (10 * v + d) := by
  have hfk := hN.le
  refine ⟨by omega, fun h => absurd h (by omega), fun _ => ?_, hfit⟩
  have hsp : (s.drop f).take (k + 1 - f) = (s.drop f).take (k - f) ++ [s[k]] := by
    rw [show k + 1 - f = (k - f) + 1 by omega, List.take_succ_eq_append_getElem (by rw [List.length_drop]; omega)]
    congr 2
    rw [List.getElem_drop]
    congr 1; omega
  rw [hsp, hs]
  rcases Nat.lt_or_ge f k with hlt | hge
  · have hv := h0 hlt
    rw [hN.some hlt]
    have hx : Lib.decDigits (10 * v + d) = Lib.decDigits ((10 * v + d) / 10) ++ [UInt8.ofNat (48 + (10 * v + d) % 10)] := by rw [Lib.decDigits, dif_neg (by omega)]
    rw [hx, show (10 * v + d) / 10 = v by omega, show (10 * v + d) % 10 = d by omega]
  · have hkf : k = f := by omega
    have hv0 := hN.none hkf
    subst hv0
    rw [show k - f = 0 by omega, List.take_zero, List.nil_append, Nat.mul_zero, Nat.zero_add, Lib.decDigits_one (by omega)]
/-- No longer beginning is a number. -/
def Ends (s : Bs) (k : Nat) : Prop := ∀ j, k < j → j ≤ s.length → intAt (s.take j) = none
theorem ends_of {s : Bs} {f k v : Nat} (hf : From s f) (hN : NumAt s f k v)
    (h : ∀ d : Nat, d ≤ 9 → s[k]? = some (UInt8.ofNat (48 + d)) → (f < k → 1 ≤ v) → 10 * v + d ≤ maxN f → False) : Ends s k := by
  intro j hkj hj
  cases hx : intAt (s.take j) with
  | none => rfl
  | some n =>
    obtain ⟨d, h1, h2, h3, h4⟩ := goes_on hf hN hkj hj hx
    exact absurd (h d h1 h2 h3 h4) id
/-- What the number at the beginning is. -/
theorem pintL_is {s : Bs} {f k v : Nat} (hf : From s f) (hN : NumAt s f k v) (hk : k ≤ s.length) (hE : Ends s k) :
    pintL s = if k = f ∨ (f = 1 ∧ v = 0) then none else some (if f = 1 then -(v : Int) else (v : Int), k) := by
  have hmax := maxN_le f
  have hfits := hN.fits
  have hfk := hN.le
  have hsmall : ∀ j, 1 ≤ j → j ≤ k → ∀ n, intAt (s.take j) = some n → ∃ u : Nat, (f = 1 → 1 ≤ u) ∧ (s.drop f).take (j - f) = Lib.decDigits u := by
    intro j hj1 hjk n h
    obtain ⟨hn, hi⟩ := intAt_back h
    obtain ⟨u, _, h1, h2, _⟩ := itoa_parts hf hj1 hn hi
    exact ⟨u, h1, h2⟩
  have hnone : (∀ j, 1 ≤ j → j ≤ k → intAt (s.take j) = none) → pintL s = none := by
    intro h
    unfold pintL
    refine pint_none _ _ fun j h1 h2 => ?_
    rcases Nat.lt_or_ge k j with h3 | h3
    · exact hE j h3 (by omega)
    · exact h j h1 h3
  by_cases hkf : k = f
  · rw [if_pos (Or.inl hkf)]
    refine hnone fun j h1 h2 => ?_
    cases hx : intAt (s.take j) with
    | none => rfl
    | some n =>
      obtain ⟨u, _, h3⟩ := hsmall j h1 h2 n hx
      have := congrArg List.length h3
      have hp := digits_pos u
      rw [List.length_take] at this
      have hf1 : f ≤ 1 := by rcases hf with ⟨rfl, _⟩ | ⟨rfl, _⟩ <;> omega
      omega
  · have hlt : f < k := by omega
    have hds := hN.some hlt
    by_cases h0 : f = 1 ∧ v = 0
    · rw [if_pos (Or.inr h0)]
      obtain ⟨rfl, rfl⟩ := h0
      have hl := congrArg List.length hds
      rw [Lib.decDigits_one (by decide), List.length_take, List.length_drop] at hl
      simp at hl
      refine hnone fun j h1 h2 => ?_
      cases hx : intAt (s.take j) with
      | none => rfl
      | some n =>
        obtain ⟨u, hu, h3⟩ := hsmall j h1 h2 n hx
        have hu1 := hu rfl
        have hk2 : k = 2 := by omega
        subst hk2
        have hp := digits_pos u
        have hl3 := congrArg List.length h3
        rw [List.length_take, List.length_drop] at hl3
        have hj2 : j = 2 := by omega
        subst hj2
        rw [hds] at h3
        have h4 : (Lib.decDigits u).length = 1 := by rw [← h3, Lib.decDigits_one (by decide)]; rfl
        have h10 : u < 10 := by
          apply Classical.byContradiction
          intro h10
          have hx : Lib.decDigits u = Lib.decDigits (u / 10) ++ [UInt8.ofNat (48 + u % 10)] := by rw [Lib.decDigits, dif_neg h10]
          rw [hx, List.length_append] at h4
          have := digits_pos (u / 10)
          simp at h4
          rw [h4] at this
          simp at this
        have := dig_inj (by omega) (by decide) h3.symm
        omega
    · rw [if_neg (fun h => h.elim hkf h0)]
      have hi : ∃ n : Int, n = (if f = 1 then -(v : Int) else (v : Int)) ∧ InI n ∧ Lib.itoa n = s.take k := by
        refine ⟨_, rfl, ?_, ?_⟩
        · unfold InI
          unfold maxN at hfits
          split at hfits <;> rename_i e
          · rw [if_pos e]; omega
          · rw [if_neg e]; omega
        · have hsp : s.take k = s.take f ++ (s.drop f).take (k - f) := by
            rw [← List.take_add]; congr 1; omega
          rw [hsp, hds]
          rcases hf with ⟨rfl, h45⟩ | ⟨rfl, h45⟩
          · have hv : v ≠ 0 := fun e => h0 ⟨rfl, e⟩
            rw [if_pos rfl]
            unfold Lib.itoa
            rw [if_pos (by omega)]
            have ht : s.take 1 = [45] := by
              cases s with
              | nil => simp at h45
              | cons a l => simp at h45; simp [h45]
            rw [ht, show (-(v : Int)).natAbs = v by omega]
            rfl
          · rw [if_neg (by decide)]
            unfold Lib.itoa
            rw [if_neg (by omega), List.take_zero, List.nil_append]
            congr 1
      obtain ⟨n, hn, hI, hit⟩ := hi
      rw [← hn]
      have h20 := itoa_le hI
      have hlen : (Lib.itoa n).length = k := by rw [hit, List.length_take]; omega
      unfold pintL
      refine pint_is _ _ _ _ (by omega) (by omega) (by rw [← hit]; exact intAt_itoa hI) fun j h1 h2 => hE j h1 (by omega)
end Va
end Go.Proofs.YtiellodbkanciaaGreatDoor
