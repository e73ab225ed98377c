/-
  Plain mathematics of layer 1 (num): what Fixed, Unfixed, Var, Unvar, Fold, Unfold compute, as functions on lists of bytes and numbers, and the facts between them. No program in sight.
-/
import Derived.WalkKit
namespace Go.Proofs.Ytkoglikaaehhjaa
namespace Num

/-- The bytes of a number in groups of 7 bits, the lowest first; at most f + 1 of them. -/
def varF : Nat → Nat → List UInt8
  | 0, n => [UInt8.ofNat n]
  | f + 1, n => if n < 128 then [UInt8.ofNat n] else UInt8.ofNat (n % 128 + 128) :: varF f (n / 128)
def varB (n : Nat) : List UInt8 := varF 9 n

/-- The last k bytes of n, the highest first. -/
def fixF : Nat → Nat → List UInt8
  | 0, _ => []
  | k + 1, n => fixF k (n / 256) ++ [UInt8.ofNat n]

/-- The width that counts: from 1 to 8. -/
def clampW (width : Int) : Nat := if width < 1 then 1 else if 8 < width then 8 else width.toNat

def unfF : Nat → List UInt8 → Nat
  | acc, [] => acc
  | acc, b :: r => unfF (acc * 256 + b.toNat) r

/-- What Unvar gives from byte i on: the number, how many bytes, the error. -/
def unvL : Nat → Nat → List UInt8 → Nat × Nat × Int
  | _, _, [] => (0, 0, 3)
  | i, acc, b :: r =>
    if (0 < i ∧ b.toNat = 0) ∨ (i = 9 ∧ 1 < b.toNat) then (0, 0, 4)
    else if b.toNat < 128 then (acc + b.toNat % 128 * 128 ^ i, i + 1, 0)
    else unvL (i + 1) (acc + b.toNat % 128 * 128 ^ i) r

/-- What Unfixed gives: the number, the error. -/
def unfixL (l : List UInt8) : Nat × Int := if 1 ≤ l.length ∧ l.length ≤ 8 then (unfF 0 l, 0) else (0, 1)

def foldI (n : Int) : Int := if 0 ≤ n then 2 * n else -2 * n - 1
def unfoldI (n : Int) : Int := if n % 2 = 0 then n / 2 else -(n / 2) - 1

theorem clamp_pos (width : Int) : 1 ≤ clampW width := by unfold clampW; split <;> (try split) <;> omega
theorem clamp_le (width : Int) : clampW width ≤ 8 := by unfold clampW; split <;> (try split) <;> omega
theorem clamp_if (width : Int) (wd : Nat) (h : wd = clampW width) : (if 8 < (if width < 1 then 1 else width) then 8 else (if width < 1 then 1 else width)) = (wd : Int) := by
  rw [h]; unfold clampW; split <;> (try split) <;> (try split) <;> omega

theorem ofNat_toNat (n : Nat) : (UInt8.ofNat n).toNat = n % 256 := by simp

theorem fixF_length (k n : Nat) : (fixF k n).length = k := by
  induction k generalizing n with
  | zero => rfl
  | succ k ih => simp [fixF, ih]

/-- The byte of a group behind which another one stands, and the last one: names that the walks leave closed. -/
def moreB (n : Nat) : UInt8 := UInt8.ofNat (n % 128 + 128)
def lowB (n : Nat) : UInt8 := UInt8.ofNat n
theorem varF_more (f n : Nat) (h : 128 ≤ n) : varF (f + 1) n = moreB n :: varF f (n / 128) := by rw [varF, if_neg (by omega)]; rfl
theorem varF_low (f n : Nat) (h : n < 128) : varF f n = [lowB n] := by cases f <;> simp [varF, lowB, h]
theorem moreB_nat (n : Nat) : (moreB n).toNat = n % 128 + 128 := by unfold moreB; rw [ofNat_toNat]; omega
theorem lowB_nat (n : Nat) : (lowB n).toNat = n % 256 := ofNat_toNat n

theorem varF_pos (f n : Nat) : 1 ≤ (varF f n).length := by
  cases f with
  | zero => simp [varF]
  | succ f => unfold varF; split <;> simp

theorem varF_le (f n : Nat) : (varF f n).length ≤ f + 1 := by
  induction f generalizing n with
  | zero => simp [varF]
  | succ f ih => unfold varF; split
                 · simp
                 · simp only [List.length_cons]; have := ih (n / 128); omega

theorem varB_pos (n : Nat) : 1 ≤ (varB n).length := varF_pos 9 n
theorem varB_le (n : Nat) : (varB n).length ≤ 10 := varF_le 9 n

theorem varF_mono (f a b : Nat) (h : a ≤ b) : (varF f a).length ≤ (varF f b).length := by
  induction f generalizing a b with
  | zero => simp [varF]
  | succ f ih =>
    unfold varF
    by_cases h1 : a < 128 <;> by_cases h2 : b < 128
    · simp [h1, h2]
    · simp [h1, h2]
    · omega
    · simp only [h1, h2, if_false, List.length_cons]
      have := ih (a / 128) (b / 128) (Nat.div_le_div_right h)
      omega

theorem varB_mono (a b : Nat) (h : a ≤ b) : (varB a).length ≤ (varB b).length := varF_mono 9 a b h

theorem varB_one (n : Nat) : (varB n).length = 1 ↔ n < 128 := by
  unfold varB varF
  by_cases h : n < 128
  · simp [h]
  · simp only [h, if_false, List.length_cons, iff_false]
    have := varF_pos 8 (n / 128)
    omega

theorem unv_var : ∀ (f n i acc : Nat) (s : List UInt8), i + f = 9 → n < 2 * 128 ^ f → (0 < i → 0 < n) →
    unvL i acc (varF f n ++ s) = (acc + n * 128 ^ i, i + (varF f n).length, 0) := by
  intro f
  induction f with
  | zero =>
    intro n i acc s hi hn hp
    have e : (UInt8.ofNat n).toNat = n := by rw [ofNat_toNat]; exact Nat.mod_eq_of_lt (by omega)
    simp only [varF, List.cons_append, List.nil_append, unvL, e]
    rw [if_neg (by omega), if_pos (by omega), Nat.mod_eq_of_lt (by omega)]
    simp
  | succ f ih =>
    intro n i acc s hi hn hp
    unfold varF
    by_cases h : n < 128
    · have e : (UInt8.ofNat n).toNat = n := by rw [ofNat_toNat]; exact Nat.mod_eq_of_lt (by omega)
      simp only [h, if_true, List.cons_append, List.nil_append, unvL, e]
      rw [if_neg (by omega), Nat.mod_eq_of_lt h]
      simp
    · have e : (UInt8.ofNat (n % 128 + 128)).toNat = n % 128 + 128 := by rw [ofNat_toNat]; exact Nat.mod_eq_of_lt (by omega)
      simp only [h, if_false, List.cons_append, unvL, e]
      rw [if_neg (by omega), if_neg (by omega)]
      have e2 : (n % 128 + 128) % 128 = n % 128 := by omega
      rw [e2, ih (n / 128) (i + 1) _ s (by omega) (by rw [Nat.pow_succ] at hn; omega) (by omega)]
      refine Prod.ext ?_ (Prod.ext ?_ rfl)
      · simp only [Nat.pow_succ]
        have hd : n = n / 128 * 128 + n % 128 := by omega
        have e3 : n / 128 * (128 ^ i * 128) = n / 128 * 128 * 128 ^ i := by rw [Nat.mul_assoc, Nat.mul_comm 128]
        have e4 : n * 128 ^ i = n / 128 * 128 * 128 ^ i + n % 128 * 128 ^ i := by rw [← Nat.add_mul, ← hd]
        omega
      · simp only [List.length_cons]; omega

theorem unv_varB (n : Nat) (s : List UInt8) (h : n < 18446744073709551616) : unvL 0 0 (varB n ++ s) = (n, (varB n).length, 0) := by
  have := unv_var 9 n 0 0 s rfl (by omega) (by omega)
  simpa [varB] using this

theorem unv_cut : ∀ (f n i acc k : Nat), k < (varF f n).length → i + f = 9 → unvL i acc ((varF f n).take k) = (0, 0, 3) := by
  intro f
  induction f with
  | zero =>
    intro n i acc k hk hi
    simp only [varF, List.length_cons, List.length_nil] at hk
    have : k = 0 := by omega
    subst this
    simp [unvL]
  | succ f ih =>
    intro n i acc k hk hi
    cases k with
    | zero => simp [unvL]
    | succ k =>
      unfold varF at hk ⊢
      by_cases h : n < 128
      · simp [h] at hk
      · simp only [h, if_false, List.length_cons] at hk
        have e : (UInt8.ofNat (n % 128 + 128)).toNat = n % 128 + 128 := by rw [ofNat_toNat]; exact Nat.mod_eq_of_lt (by omega)
        simp only [h, if_false, List.take_succ_cons, unvL, e]
        rw [if_neg (by omega), if_neg (by omega)]
        exact ih (n / 128) (i + 1) _ k (by omega) (by omega)

theorem unv_cutB (n k : Nat) (h : k < (varB n).length) : unvL 0 0 ((varB n).take k) = (0, 0, 3) := unv_cut 9 n 0 0 k h rfl

/-- What is read is what is written of it. -/
theorem unv_back : ∀ (s : List UInt8) (i acc b m : Nat) (f : Nat), i + f = 9 → unvL i acc s = (b, m, 0) →
    ∃ n, b = acc + n * 128 ^ i ∧ (0 < i → 0 < n) ∧ n < 2 * 128 ^ f ∧ i < m ∧ m ≤ i + s.length ∧ varF f n = s.take (m - i) := by
  intro s
  induction s with
  | nil => intro i acc b m f hi h; simp [unvL] at h
  | cons c r ih =>
    intro i acc b m f hi h
    have hc : c.toNat < 256 := c.toNat_lt
    unfold unvL at h
    split at h
    · simp at h
    · rename_i h1
      split at h
      · rename_i h2
        simp only [Prod.mk.injEq, and_true] at h
        obtain ⟨rfl, rfl⟩ := h
        rw [Nat.mod_eq_of_lt h2]
        refine ⟨c.toNat, rfl, by omega, ?_, by omega, by simp, ?_⟩
        · cases f with
          | zero => omega
          | succ f => have : 1 ≤ 128 ^ f := Nat.pow_pos (by decide)
                      rw [Nat.pow_succ]; omega
        · have e : UInt8.ofNat c.toNat = c := by simp
          rw [show i + 1 - i = 1 by omega]
          cases f with
          | zero => simp [varF]
          | succ f => simp [varF, h2]
      · rename_i h2
        cases f with
        | zero => omega
        | succ f =>
          obtain ⟨n, hb, hp, hn, hm1, hm2, hv⟩ := ih (i + 1) _ b m f (by omega) h
          have hn0 : 0 < n := hp (by omega)
          refine ⟨n * 128 + c.toNat % 128, ?_, by omega, by rw [Nat.pow_succ]; omega, by omega, by simp only [List.length_cons]; omega, ?_⟩
          · rw [hb, Nat.pow_succ, Nat.add_mul]
            have e3 : n * (128 ^ i * 128) = n * 128 * 128 ^ i := by rw [Nat.mul_assoc, Nat.mul_comm 128]
            omega
          · have hg : ¬ n * 128 + c.toNat % 128 < 128 := by omega
            simp only [varF, hg, if_false]
            have e1 : (n * 128 + c.toNat % 128) % 128 + 128 = c.toNat := by omega
            have e2 : (n * 128 + c.toNat % 128) / 128 = n := by omega
            rw [e1, e2, hv, show m - i = (m - (i + 1)) + 1 by omega, List.take_succ_cons]
            simp

theorem unv_err : ∀ (s : List UInt8) (i acc : Nat), (unvL i acc s).2.2 ≠ 0 → (unvL i acc s).1 = 0 ∧ (unvL i acc s).2.1 = 0 := by
  intro s
  induction s with
  | nil => intro i acc _; simp [unvL]
  | cons c r ih =>
    intro i acc h
    unfold unvL at h ⊢
    split
    · simp
    · split
      · rename_i h1 h2; simp [h1, h2] at h
      · rename_i h1 h2; simp only [h1, h2, if_false] at h; exact ih _ _ h

/-- The number read is below 2^64; the count of bytes lies within s. -/
theorem unv_lt (s : List UInt8) : (unvL 0 0 s).1 < 18446744073709551616 ∧ (unvL 0 0 s).2.1 ≤ s.length ∧ ((unvL 0 0 s).2.2 = 0 ∨ (unvL 0 0 s).2.2 = 3 ∨ (unvL 0 0 s).2.2 = 4) := by
  have key : ∀ (s : List UInt8) (i acc : Nat), (unvL i acc s).2.2 = 0 ∨ (unvL i acc s).2.2 = 3 ∨ (unvL i acc s).2.2 = 4 := by
    intro s
    induction s with
    | nil => intro i acc; simp [unvL]
    | cons c r ih => intro i acc; unfold unvL; split
                     · simp
                     · split
                       · simp
                       · exact ih _ _
  refine ⟨?_, ?_, key s 0 0⟩
  · by_cases h : (unvL 0 0 s).2.2 = 0
    · obtain ⟨n, hb, _, hn, _⟩ := unv_back s 0 0 (unvL 0 0 s).1 (unvL 0 0 s).2.1 9 rfl (by rw [← h])
      rw [hb]; omega
    · rw [(unv_err s 0 0 h).1]; decide
  · by_cases h : (unvL 0 0 s).2.2 = 0
    · obtain ⟨n, _, _, _, _, hm, _⟩ := unv_back s 0 0 (unvL 0 0 s).1 (unvL 0 0 s).2.1 9 rfl (by rw [← h])
      omega
    · rw [(unv_err s 0 0 h).2]; omega

theorem unfF_append (a : List UInt8) (b : UInt8) (acc : Nat) : unfF acc (a ++ [b]) = unfF acc a * 256 + b.toNat := by
  induction a generalizing acc with
  | nil => simp [unfF]
  | cons c r ih => simp [unfF, ih]

theorem unf_fix (k n : Nat) : unfF 0 (fixF k n) = n % 256 ^ k := by
  induction k generalizing n with
  | zero => simp [fixF, unfF, Nat.mod_one]
  | succ k ih =>
    rw [fixF, unfF_append, ih, ofNat_toNat, Nat.pow_succ, Nat.mul_comm (256 ^ k) 256, Nat.mod_mul]
    omega

theorem unfF_lt (l : List UInt8) (acc : Nat) : unfF acc l < (acc + 1) * 256 ^ l.length := by
  induction l generalizing acc with
  | nil => simp [unfF]
  | cons c r ih =>
    have hc : c.toNat < 256 := c.toNat_lt
    have h1 := ih (acc * 256 + c.toNat)
    have h2 : (acc * 256 + c.toNat + 1) * 256 ^ r.length ≤ (acc + 1) * 256 * 256 ^ r.length := Nat.mul_le_mul_right _ (by omega)
    simp only [unfF, List.length_cons, Nat.pow_succ]
    rw [Nat.mul_comm (256 ^ r.length) 256, ← Nat.mul_assoc]
    omega

theorem unfF_ge (l : List UInt8) (acc : Nat) : acc * 256 ^ l.length ≤ unfF acc l := by
  induction l generalizing acc with
  | nil => simp [unfF]
  | cons c r ih =>
    have h1 := ih (acc * 256 + c.toNat)
    have h2 : acc * 256 * 256 ^ r.length ≤ (acc * 256 + c.toNat) * 256 ^ r.length := Nat.mul_le_mul_right _ (by omega)
    simp only [unfF, List.length_cons, Nat.pow_succ]
    rw [Nat.mul_comm (256 ^ r.length) 256, ← Nat.mul_assoc]
    exact Nat.le_trans h2 h1

/-- Bytes of one length stand as their numbers do. -/
theorem less_unf : ∀ (x y : List UInt8) (acc : Nat), x.length = y.length → Op.bytesLess x y = decide (unfF acc x < unfF acc y) := by
  intro x
  induction x with
  | nil => intro y acc h; cases y with
           | nil => simp [Op.bytesLess]
           | cons _ _ => simp at h
  | cons a x ih =>
    intro y acc h
    cases y with
    | nil => simp at h
    | cons b y =>
      have hl : x.length = y.length := by simpa using h
      have ha := unfF_lt x (acc * 256 + a.toNat)
      have hb := unfF_lt y (acc * 256 + b.toNat)
      have ga := unfF_ge x (acc * 256 + a.toNat)
      have gb := unfF_ge y (acc * 256 + b.toNat)
      rw [← hl] at hb gb
      unfold Op.bytesLess
      rw [show unfF acc (a :: x) = unfF (acc * 256 + a.toNat) x from rfl, show unfF acc (b :: y) = unfF (acc * 256 + b.toNat) y from rfl]
      by_cases hab : a.toNat < b.toNat
      · have h1 : a < b := UInt8.lt_iff_toNat_lt.2 hab
        have h2 : (acc * 256 + a.toNat + 1) * 256 ^ x.length ≤ (acc * 256 + b.toNat) * 256 ^ x.length := Nat.mul_le_mul_right _ (by omega)
        have h4 : unfF (acc * 256 + a.toNat) x < unfF (acc * 256 + b.toNat) y := by omega
        simp [h1, h4]
      · by_cases hba : b.toNat < a.toNat
        · have h1 : ¬ a < b := fun h => by have := UInt8.lt_iff_toNat_lt.1 h; omega
          have h3 : (a == b) = false := by simp; intro h; subst h; omega
          have h2 : (acc * 256 + b.toNat + 1) * 256 ^ x.length ≤ (acc * 256 + a.toNat) * 256 ^ x.length := Nat.mul_le_mul_right _ (by omega)
          have h4 : ¬ unfF (acc * 256 + a.toNat) x < unfF (acc * 256 + b.toNat) y := by omega
          simp [h1, h3, h4]
        · have h3 : a = b := UInt8.toNat_inj.1 (by omega)
          subst h3
          simp [ih y (acc * 256 + a.toNat) hl]

/-- The eight bytes of a number: a name that the walks leave closed. -/
def fix8 (n : Nat) : List UInt8 := fixF 8 n
theorem fix8_len (n : Nat) : (fix8 n).length = 8 := fixF_length 8 n
theorem fix8_less (a b : Nat) (ha : a < 18446744073709551616) (hb : b < 18446744073709551616) : Op.bytesLess (fix8 a) (fix8 b) = decide (a < b) := by
  unfold fix8
  rw [less_unf _ _ 0 (by rw [fixF_length, fixF_length]), unf_fix, unf_fix, show (256 : Nat) ^ 8 = 18446744073709551616 by decide, Nat.mod_eq_of_lt ha, Nat.mod_eq_of_lt hb]

theorem acc_small (acc k : Nat) (h : acc < 256 ^ k) (hk : k ≤ 7) : acc < 72057594037927936 := by
  have : (256 : Nat) ^ k ≤ 256 ^ 7 := Nat.pow_le_pow_right (by decide) hk
  have e : (256 : Nat) ^ 7 = 72057594037927936 := by decide
  omega

theorem unfix_lt (l : List UInt8) : (unfixL l).1 < 18446744073709551616 := by
  unfold unfixL
  split
  · rename_i h
    have h1 := unfF_lt l 0
    have h2 : (256 : Nat) ^ l.length ≤ 256 ^ 8 := Nat.pow_le_pow_right (by decide) h.2
    have e : (256 : Nat) ^ 8 = 18446744073709551616 := by decide
    show unfF 0 l < _
    omega
  · decide

theorem unfix_fix (n : Nat) (h : n < 18446744073709551616) : unfixL (fixF 8 n) = (n, 0) := by
  unfold unfixL
  rw [fixF_length, if_pos (by decide), unf_fix, Nat.mod_eq_of_lt (by rw [show (256 : Nat) ^ 8 = 18446744073709551616 by decide]; exact h)]

theorem fold_unfold (n : Int) (h0 : 0 ≤ n) : foldI (unfoldI n) = n := by unfold foldI unfoldI; split <;> split <;> omega
theorem unfold_fold (n : Int) : unfoldI (foldI n) = n := by unfold foldI unfoldI; split <;> split <;> omega

end Num
end Go.Proofs.Ytkoglikaaehhjaa
