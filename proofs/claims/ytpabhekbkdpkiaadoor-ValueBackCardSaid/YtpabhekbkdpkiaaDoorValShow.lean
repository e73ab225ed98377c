/-
  Laws between Show and Parse of layer 6: bytes as they are written, numbers and their digits. No program in sight.
-/
import Derived.Test.YtpabhekbkdpkiaaDoorValLaws
namespace Go.Proofs.YtpabhekbkdpkiaaDoor
namespace Va
open Num (fixF unfF fixF_length)

/-! ### Bytes as they are written -/
theorem hexv_hexc : ∀ n : Fin 16, hexv (hexc n.val) = n.val := by decide +kernel
theorem hexc_hexv : ∀ c : Fin 256, hexv (UInt8.ofNat c.val) < 16 → hexc (hexv (UInt8.ofNat c.val)) = UInt8.ofNat c.val := by decide +kernel
theorem byte_fin (c : UInt8) : ∃ n : Fin 256, c = UInt8.ofNat n.val := ⟨⟨c.toNat, c.toNat_lt⟩, UInt8.toNat_inj.1 (by rw [Num.ofNat_toNat]; have := c.toNat_lt; simp only; omega)⟩
theorem hexc_back {c : UInt8} (h : hexv c < 16) : hexc (hexv c) = c := by
  obtain ⟨n, rfl⟩ := byte_fin c
  exact hexc_hexv n h
theorem hexv_back (n : Nat) (h : n < 16) : hexv (hexc n) = n := hexv_hexc ⟨n, h⟩
theorem byte_of (b : UInt8) : UInt8.ofNat (16 * (b.toNat / 16) + b.toNat % 16) = b := by
  apply UInt8.toNat_inj.1
  rw [Num.ofNat_toNat]
  have := b.toNat_lt
  omega
theorem odd_39 {b : UInt8} (h : odd b = true) : b.toNat ≠ 39 := by
  intro e
  unfold odd at h
  rw [e] at h
  exact absurd h (by decide)
theorem odd_92 {b : UInt8} (h : odd b = false) : b.toNat ≠ 92 := by
  intro e
  unfold odd at h
  rw [e] at h
  exact absurd h (by decide)
theorem pbyte_shb (b : UInt8) (r : Bs) : pbyte (shb b ++ r) = some (b, (shb b).length) := by
  unfold shb
  by_cases h39 : b.toNat = 39
  · have e : b = 39 := UInt8.toNat_inj.1 h39
    subst e
    rfl
  · rw [if_neg h39]
    cases ho : odd b with
    | true =>
      have hb := b.toNat_lt
      rw [if_pos rfl]
      have e92 : (92 : UInt8).toNat = 92 := rfl
      simp only [List.cons_append, List.nil_append, pbyte, e92, if_neg (by decide : ¬ 92 = 39), if_true]
      rw [hexv_back _ (by omega), hexv_back _ (by omega), byte_of]
      rw [if_pos ⟨by omega, by omega, ho⟩]
      rfl
    | false =>
      have h92 := odd_92 ho
      simp [pbyte, h39, h92, ho]
theorem pbyte_back : ∀ (l : Bs) (b : UInt8) (n : Nat), pbyte l = some (b, n) → 1 ≤ n ∧ n ≤ l.length ∧ l.take n = shb b
  | [], b, n, h => by simp [pbyte] at h
  | c :: l, b, n, h => by
    simp only [pbyte] at h
    split at h
    · rename_i h39
      have e : c = 39 := UInt8.toNat_inj.1 h39
      subst e
      match l with
      | [] => simp at h
      | d :: l =>
        simp only at h
        split at h
        · rename_i hd
          have e2 : d = 39 := UInt8.toNat_inj.1 hd
          subst e2
          simp only [Option.some.injEq, Prod.mk.injEq] at h
          obtain ⟨rfl, rfl⟩ := h
          exact ⟨by decide, by simp, rfl⟩
        · cases h
    · rename_i h39
      split at h
      · rename_i h92
        have e : c = 92 := UInt8.toNat_inj.1 h92
        subst e
        match l with
        | [] => simp at h
        | [_] => simp at h
        | x :: y :: l =>
          simp only at h
          split at h
          · rename_i hh
            obtain ⟨h1, h2, h3⟩ := hh
            simp only [Option.some.injEq, Prod.mk.injEq] at h
            obtain ⟨rfl, rfl⟩ := h
            refine ⟨by decide, by simp, ?_⟩
            have et : (UInt8.ofNat (16 * hexv x + hexv y)).toNat = 16 * hexv x + hexv y := by rw [Num.ofNat_toNat]; omega
            unfold shb
            rw [if_neg (odd_39 h3), if_pos h3, et]
            rw [show (16 * hexv x + hexv y) / 16 = hexv x by omega, show (16 * hexv x + hexv y) % 16 = hexv y by omega, hexc_back h1, hexc_back h2]
            rfl
          · cases h
      · rename_i h92
        split at h
        · cases h
        · rename_i ho
          simp only [Option.some.injEq, Prod.mk.injEq] at h
          obtain ⟨rfl, rfl⟩ := h
          refine ⟨by decide, by simp, ?_⟩
          unfold shb
          rw [if_neg h39, if_neg ho]
          rfl
theorem shb_pos (b : UInt8) : 1 ≤ (shb b).length := by unfold shb; split <;> (try split) <;> simp
theorem shb_le (b : UInt8) : (shb b).length ≤ 3 := by unfold shb; split <;> (try split) <;> simp
theorem pbyte_end (r : Bs) (h : r.head? ≠ some 39) : pbyte (39 :: r) = none := by
  have e : (39 : UInt8).toNat = 39 := rfl
  match r with
  | [] => rfl
  | d :: r =>
    have : d.toNat ≠ 39 := fun e => h (by rw [show d = 39 from UInt8.toNat_inj.1 e]; rfl)
    simp [pbyte, this]
theorem pq_show : ∀ (S : Bs) (k : Nat) (r : Bs), S.length ≤ k → r.head? ≠ some 39 → pq k (showS S ++ 39 :: r) = some (S, (showS S).length + 1)
  | [], k, r, _, h => by
    cases k <;> simp [showS, pq, pbyte_end r h]
  | b :: l, k, r, hk, h => by
    obtain ⟨k, rfl⟩ : ∃ j, k = j + 1 := ⟨k - 1, by simp at hk; omega⟩
    have ih := pq_show l k r (by simpa using hk) h
    simp only [showS, List.append_assoc, pq, pbyte_shb, List.drop_left, ih, Option.map_some, List.length_append]
    rw [Nat.add_assoc]
theorem pq_back : ∀ (k : Nat) (l S : Bs) (n : Nat), pq k l = some (S, n) → 1 ≤ n ∧ n ≤ l.length ∧ S.length ≤ k ∧ l.take n = showS S ++ [39]
  | 0, l, S, n, h => by
    simp only [pq] at h
    split at h
    · cases h
    · split at h
      · rename_i hh
        simp only [Option.some.injEq, Prod.mk.injEq] at h
        obtain ⟨rfl, rfl⟩ := h
        match l, hh with
        | c :: l, hh =>
          simp at hh
          subst hh
          exact ⟨by decide, by simp, by simp, rfl⟩
      · cases h
  | k + 1, l, S, n, h => by
    simp only [pq] at h
    split at h
    · rename_i b m hb
      obtain ⟨g1, g2, g3⟩ := pbyte_back _ _ _ hb
      cases hq : pq k (l.drop m) with
      | none => rw [hq] at h; cases h
      | some x =>
        obtain ⟨S', n'⟩ := x
        rw [hq] at h
        simp only [Option.map_some, Option.some.injEq, Prod.mk.injEq] at h
        obtain ⟨rfl, rfl⟩ := h
        obtain ⟨k1, k2, k3, k4⟩ := pq_back k _ _ _ hq
        rw [List.length_drop] at k2
        refine ⟨by omega, by omega, by simpa using k3, ?_⟩
        rw [List.take_add, k4, g3, showS, List.append_assoc]
    · split at h
      · rename_i hh
        simp only [Option.some.injEq, Prod.mk.injEq] at h
        obtain ⟨rfl, rfl⟩ := h
        match l, hh with
        | c :: l, hh =>
          simp at hh
          subst hh
          exact ⟨by decide, by simp, by simp, rfl⟩
      · cases h
theorem showS_length (S : Bs) : (showS S).length ≤ 3 * S.length := by
  induction S with
  | nil => simp [showS]
  | cons b l ih => have := shb_le b; simp [showS]; omega

/-! ### Numbers and their digits -/
theorem parse10_append : ∀ (l m : Bs) (acc : Nat), Lib.parseUint10 acc (l ++ m) = (match Lib.parseUint10 acc l with | .ok a => Lib.parseUint10 a m | x => x)
  | [], m, acc => by simp [Lib.parseUint10]
  | c :: l, m, acc => by
    simp only [List.cons_append, Lib.parseUint10]
    split
    · split
      · rfl
      · split
        · rfl
        · exact parse10_append l m _
    · rfl
theorem digit_nat {d : Nat} (h : d < 10) : (UInt8.ofNat (48 + d)).toNat = 48 + d := by rw [Num.ofNat_toNat]; omega
theorem parse10_digits (u : Nat) (h : u < 18446744073709551616) : Lib.parseUint10 0 (Lib.decDigits u) = .ok u := by
  induction u using Nat.strongRecOn with
  | _ u ih =>
    rw [Lib.decDigits]
    by_cases hu : u < 10
    · rw [dif_pos hu]
      simp only [Lib.parseUint10, digit_nat hu]
      rw [if_pos (by omega), if_neg (by omega), if_neg (by omega)]
      congr 1; omega
    · rw [dif_neg hu, parse10_append, ih (u / 10) (by omega) (by omega)]
      simp only [Lib.parseUint10, digit_nat (Nat.mod_lt u (by decide : 10 > 0))]
      rw [if_pos (by omega), if_neg (by omega), if_neg (by omega)]
      congr 1; omega
theorem digits_all (u : Nat) : ∀ c ∈ Lib.decDigits u, 48 ≤ c.toNat ∧ c.toNat ≤ 57 := by
  induction u using Nat.strongRecOn with
  | _ u ih =>
    rw [Lib.decDigits]
    by_cases hu : u < 10
    · rw [dif_pos hu]
      intro c hc
      simp only [List.mem_singleton] at hc
      subst hc
      rw [digit_nat hu]; omega
    · rw [dif_neg hu]
      intro c hc
      rcases List.mem_append.1 hc with hc | hc
      · exact ih (u / 10) (by omega) c hc
      · simp only [List.mem_singleton] at hc
        subst hc
        rw [digit_nat (Nat.mod_lt u (by decide : 10 > 0))]; omega
theorem digits_pos (u : Nat) : 1 ≤ (Lib.decDigits u).length := by rw [Lib.decDigits_length]; exact Lib.nDigits_pos u
theorem digits_cons (u : Nat) : ∃ c r, Lib.decDigits u = c :: r ∧ 48 ≤ c.toNat ∧ c.toNat ≤ 57 := by
  have h := digits_pos u
  have ha := digits_all u
  match hd : Lib.decDigits u with
  | [] => rw [hd] at h; simp at h
  | c :: r => exact ⟨c, r, rfl, ha c (by rw [hd]; simp)⟩
theorem nDigits_le {u : Nat} (h : u < 10000000000000000000) : Lib.nDigits u ≤ 19 := by
  have key : ∀ (k u : Nat), u < 10 ^ k → 1 ≤ k → Lib.nDigits u ≤ k := by
    intro k
    induction k with
    | zero => intro u _ h; omega
    | succ k ih =>
      intro u hu _
      by_cases h10 : u < 10
      · rw [Lib.nDigits_small h10]; omega
      · rw [Lib.nDigits_big h10]
        have hk : 1 ≤ k := by
          rcases Nat.eq_zero_or_pos k with e | e
          · subst e; simp at hu; omega
          · exact e
        have := ih (u / 10) (by rw [Nat.pow_succ] at hu; omega) hk
        omega
  exact key 19 u h (by decide)
theorem itoa_le {n : Int} (h : InI n) : (Lib.itoa n).length ≤ 20 := by
  unfold InI at h
  unfold Lib.itoa
  split
  · have := nDigits_le (u := n.natAbs) (by omega)
    simp only [List.length_cons, Lib.decDigits_length]; omega
  · have := nDigits_le (u := n.toNat) (by omega)
    rw [Lib.decDigits_length]; omega
theorem itoa_pos (n : Int) : 1 ≤ (Lib.itoa n).length := by
  unfold Lib.itoa
  split
  · simp
  · exact digits_pos _
theorem itoa_all (n : Int) : ∀ c ∈ Lib.itoa n, (48 ≤ c.toNat ∧ c.toNat ≤ 57) ∨ c.toNat = 45 := by
  unfold Lib.itoa
  intro c hc
  split at hc
  · rcases List.mem_cons.1 hc with rfl | hc
    · exact Or.inr rfl
    · exact Or.inl (digits_all _ c hc)
  · exact Or.inl (digits_all _ c hc)
theorem atoi_itoa {n : Int} (h : InI n) : Lib.atoiAll (Lib.itoa n) = .ok n := by
  unfold InI at h
  unfold Lib.itoa
  split
  · obtain ⟨c, r, hd, h1, h2⟩ := digits_cons n.natAbs
    have hp := parse10_digits n.natAbs (by omega)
    rw [hd] at hp ⊢
    rw [Lib.atoiAll_minus]
    unfold Lib.parseMag
    rw [if_neg (by simp), hp]
    simp only [Lib.signed]
    rw [if_neg (by omega)]
    congr 1; omega
  · obtain ⟨c, r, hd, h1, h2⟩ := digits_cons n.toNat
    have hp := parse10_digits n.toNat (by omega)
    rw [hd] at hp ⊢
    rw [Lib.atoiAll_plain _ _ (by omega) (by omega)]
    unfold Lib.parseMag
    rw [if_neg (by simp), hp]
    simp only [Lib.signless]
    rw [if_neg (by omega)]
    congr 1; omega
theorem intAt_itoa {n : Int} (h : InI n) : intAt (Lib.itoa n) = some n := by
  unfold intAt
  rw [atoi_itoa h]
  simp
theorem intAt_back {l : Bs} {n : Int} (h : intAt l = some n) : InI n ∧ Lib.itoa n = l := by
  unfold intAt at h
  split at h
  · rename_i m hm
    split at h
    · rename_i hi
      obtain rfl := Option.some.inj h
      exact ⟨Lib.atoiAll_bounds hm, hi⟩
    · cases h
  · cases h
theorem pint_some : ∀ (M : Nat) (s : Bs) (n : Int) (m : Nat), pint M s = some (n, m) → 1 ≤ m ∧ m ≤ M ∧ intAt (s.take m) = some n
  | 0, _, _, _, h => by simp [pint] at h
  | M + 1, s, n, m, h => by
    simp only [pint] at h
    split at h
    · rename_i k hk
      simp only [Option.some.injEq, Prod.mk.injEq] at h
      obtain ⟨rfl, rfl⟩ := h
      exact ⟨by omega, Nat.le_refl _, hk⟩
    · obtain ⟨h1, h2, h3⟩ := pint_some M s n m h
      exact ⟨h1, by omega, h3⟩
theorem pint_is : ∀ (M : Nat) (s : Bs) (n : Int) (m : Nat), 1 ≤ m → m ≤ M → intAt (s.take m) = some n → (∀ j, m < j → j ≤ M → intAt (s.take j) = none) → pint M s = some (n, m)
  | 0, _, _, _, h, h', _, _ => by omega
  | M + 1, s, n, m, h1, h2, h3, h4 => by
    by_cases e : m = M + 1
    · subst e
      simp only [pint, h3]
    · have := h4 (M + 1) (by omega) (Nat.le_refl _)
      simp only [pint, this]
      exact pint_is M s n m h1 (by omega) h3 (fun j hj hj' => h4 j hj (by omega))
theorem pint_none : ∀ (M : Nat) (s : Bs), (∀ j, 1 ≤ j → j ≤ M → intAt (s.take j) = none) → pint M s = none
  | 0, _, _ => rfl
  | M + 1, s, h => by
    simp only [pint, h (M + 1) (by omega) (Nat.le_refl _)]
    exact pint_none M s (fun j h1 h2 => h j h1 (by omega))
/-- The number at the beginning of a text. -/
def pintL (s : Bs) : Option (Int × Nat) := pint (min s.length 20) s
theorem pint_show {n : Int} (h : InI n) (r : Bs) : pintL (Lib.itoa n ++ 41 :: r) = some (n, (Lib.itoa n).length) := by
  have h20 := itoa_le h
  refine pint_is _ _ _ _ (itoa_pos n) ?_ ?_ ?_
  · simp only [List.length_append, List.length_cons]; omega
  · rw [List.take_left, intAt_itoa h]
  · intro j hj _
    cases hx : intAt (List.take j (Lib.itoa n ++ 41 :: r)) with
    | none => rfl
    | some k =>
      obtain ⟨_, hk⟩ := intAt_back hx
      have hall := itoa_all k 41
      rw [hk] at hall
      have hm : (41 : UInt8) ∈ List.take j (Lib.itoa n ++ 41 :: r) := by
        obtain ⟨i, rfl⟩ : ∃ i, j = (Lib.itoa n).length + (i + 1) := ⟨j - (Lib.itoa n).length - 1, by omega⟩
        rw [List.take_length_add_append]
        simp
      have := hall hm
      have e : (41 : UInt8).toNat = 41 := rfl
      omega

/-! ### Show and Parse -/
theorem itoa_head (n : Int) (r : Bs) : ∃ c t, Lib.itoa n ++ r = c :: t ∧ ((48 ≤ c.toNat ∧ c.toNat ≤ 57) ∨ c.toNat = 45) := by
  have h := itoa_pos n
  have ha := itoa_all n
  match hd : Lib.itoa n with
  | [] => rw [hd] at h; simp at h
  | c :: t => exact ⟨c, t ++ r, rfl, ha c (by rw [hd]; simp)⟩
theorem parse_eq (s : Bs) : parseL s = if nullL.isPrefixOf s then ⟨0, 0, [], 4, 0⟩ else if [39].isPrefixOf s then quotedU 2 1 (pq 2000 (s.drop 1)) else if [120, 39].isPrefixOf s then quotedU 3 2 (pq 2000 (s.drop 2)) else numU (pintL s) := rfl
theorem show_null : showL 0 0 [] = nullL := by simp [showL, good_null]
theorem show_int (N : Int) : showL 1 N [] = Lib.itoa N := by simp [showL, good_int]
theorem show_text {S : Bs} (h : S.length ≤ 2000) : showL 2 0 S = 39 :: (showS S ++ [39]) := by simp [showL, good_text h, openL]
theorem show_blob {S : Bs} (h : S.length ≤ 2000) : showL 3 0 S = 120 :: 39 :: (showS S ++ [39]) := by simp [showL, good_blob h, openL]
theorem parse_show {K N : Int} {S : Bs} (h : Good K N S) (hN : InI N) (r : Bs) : parseL (showL K N S ++ 41 :: r) = ⟨K, N, S, (showL K N S).length, 0⟩ := by
  have h41 : ∀ r : Bs, (41 :: r).head? ≠ some 39 := fun r => by simp
  rw [parse_eq]
  rcases h with ⟨rfl, rfl, rfl⟩ | ⟨rfl, rfl⟩ | ⟨rfl | rfl, rfl, hS⟩
  · rw [show_null, if_pos (by simp [nullL, List.isPrefixOf])]
    rfl
  · obtain ⟨c, t, hc, h1⟩ := itoa_head N (41 :: r)
    have e110 : c ≠ 110 := fun e => by subst e; revert h1; decide
    have e39 : c ≠ 39 := fun e => by subst e; revert h1; decide
    have e120 : c ≠ 120 := fun e => by subst e; revert h1; decide
    rw [show_int, pint_show hN]
    rw [hc, if_neg (by simp [nullL, List.isPrefixOf, Ne.symm e110]), if_neg (by simp [List.isPrefixOf, Ne.symm e39]), if_neg (by simp [List.isPrefixOf, Ne.symm e120])]
    rfl
  · rw [show_text hS, if_neg (by simp [nullL, List.isPrefixOf]), if_pos (by simp [List.isPrefixOf])]
    have e : List.drop 1 (39 :: (showS S ++ [39]) ++ 41 :: r) = showS S ++ 39 :: 41 :: r := by simp
    rw [e, pq_show S 2000 _ hS (h41 r)]
    simp only [quotedU, List.length_append, List.length_cons, List.length_nil, Un.mk.injEq, true_and, and_true]
    omega
  · rw [show_blob hS, if_neg (by simp [nullL, List.isPrefixOf]), if_neg (by simp [List.isPrefixOf]), if_pos (by simp [List.isPrefixOf])]
    have e : List.drop 2 (120 :: 39 :: (showS S ++ [39]) ++ 41 :: r) = showS S ++ 39 :: 41 :: r := by simp
    rw [e, pq_show S 2000 _ hS (h41 r)]
    simp only [quotedU, List.length_append, List.length_cons, List.length_nil, Un.mk.injEq, true_and, and_true]
    omega
theorem prefix_take {p s : Bs} (h : p.isPrefixOf s = true) : s.take p.length = p := by
  have := List.isPrefixOf_iff_prefix.1 h
  exact (List.prefix_iff_eq_take.1 this).symm
theorem prefix_len {p s : Bs} (h : p.isPrefixOf s = true) : p.length ≤ s.length := (List.isPrefixOf_iff_prefix.1 h).length_le
theorem parse_bare (s : Bs) (h : (parseL s).e ≠ 0) : (parseL s).Bare := by
  rw [parse_eq] at h ⊢
  split
  · rename_i h0; rw [if_pos h0] at h; exact absurd rfl h
  · rename_i h0
    rw [if_neg h0] at h
    split
    · rename_i h1
      rw [if_pos h1] at h
      cases hq : pq 2000 (s.drop 1) with
      | none => exact ⟨rfl, rfl, rfl, rfl⟩
      | some x => rw [hq] at h; exact absurd rfl h
    · rename_i h1
      rw [if_neg h1] at h
      split
      · rename_i h2
        rw [if_pos h2] at h
        cases hq : pq 2000 (s.drop 2) with
        | none => exact ⟨rfl, rfl, rfl, rfl⟩
        | some x => rw [hq] at h; exact absurd rfl h
      · rename_i h2
        rw [if_neg h2] at h
        cases hq : pintL s with
        | none => exact ⟨rfl, rfl, rfl, rfl⟩
        | some x => rw [hq] at h; exact absurd rfl h
theorem parse_back (s : Bs) (h : (parseL s).e = 0) : 1 ≤ (parseL s).n ∧ (parseL s).n ≤ s.length ∧ InI (parseL s).N ∧ Good (parseL s).K (parseL s).N (parseL s).S ∧ showL (parseL s).K (parseL s).N (parseL s).S = s.take (parseL s).n := by
  rw [parse_eq] at h ⊢
  split
  · rename_i h0
    exact ⟨by simp, prefix_len h0, by unfold InI; decide, good_null, by simp [showL, good_null]; exact (prefix_take h0).symm⟩
  · rename_i h0
    rw [if_neg h0] at h
    split
    · rename_i h1
      rw [if_pos h1] at h
      cases hq : pq 2000 (s.drop 1) with
      | none => rw [hq] at h; simp [quotedU, noneU] at h
      | some x =>
        obtain ⟨S, n⟩ := x
        obtain ⟨g1, g2, g3, g4⟩ := pq_back _ _ _ _ hq
        have hl := prefix_len h1
        have ht := prefix_take h1
        simp only [List.length_cons, List.length_nil] at hl ht
        rw [List.length_drop] at g2
        simp only [quotedU]
        refine ⟨by omega, by omega, by unfold InI; decide, good_text g3, ?_⟩
        rw [List.take_add, g4]
        simp only [showL, if_pos (good_text g3), if_neg (by decide : ¬ (2 : Int) = 0), if_neg (by decide : ¬ (2 : Int) = 1), openL, if_true]
        rw [show s.take 1 = [39] from ht, List.append_assoc]
    · rename_i h1
      rw [if_neg h1] at h
      split
      · rename_i h2
        rw [if_pos h2] at h
        cases hq : pq 2000 (s.drop 2) with
        | none => rw [hq] at h; simp [quotedU, noneU] at h
        | some x =>
          obtain ⟨S, n⟩ := x
          obtain ⟨g1, g2, g3, g4⟩ := pq_back _ _ _ _ hq
          have hl := prefix_len h2
          have ht := prefix_take h2
          simp only [List.length_cons, List.length_nil] at hl ht
          rw [List.length_drop] at g2
          simp only [quotedU]
          refine ⟨by omega, by omega, by unfold InI; decide, good_blob g3, ?_⟩
          rw [List.take_add, g4]
          simp only [showL, if_pos (good_blob g3), if_neg (by decide : ¬ (3 : Int) = 0), if_neg (by decide : ¬ (3 : Int) = 1), openL, if_neg (by decide : ¬ (3 : Int) = 2)]
          rw [show s.take 2 = [120, 39] from ht, List.append_assoc]
      · rename_i h2
        rw [if_neg h2] at h
        cases hq : pintL s with
        | none => rw [hq] at h; simp [numU, noneU] at h
        | some x =>
          obtain ⟨n, m⟩ := x
          obtain ⟨g1, g2, g3⟩ := pint_some _ _ _ _ hq
          obtain ⟨k1, k2⟩ := intAt_back g3
          simp only [numU]
          refine ⟨g1, by omega, k1, good_int n, ?_⟩
          simp only [showL, if_pos (good_int n), if_neg (by decide : ¬ (1 : Int) = 0), if_true]
          exact k2
end Va
end Go.Proofs.YtpabhekbkdpkiaaDoor
