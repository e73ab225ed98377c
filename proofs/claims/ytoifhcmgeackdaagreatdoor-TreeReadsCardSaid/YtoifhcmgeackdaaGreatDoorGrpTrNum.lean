/-
  Put together: NumMath, NumBits, NumOwn, NumFold, NumUnvar, NumUnfixed, NumVar, NumFixed, NumRefFold, NumRefUnvar, NumRefUnfixed, NumRefVar, NumRefFixed, NumPart.
-/
import Derived.WalkKit
import Derived.WalkSpells
import Derived.WalkLawsBesides
import Derived.Test.YtoifhcmgeackdaaGreatDoorProg
import Derived.Deep.QuietTactic
import Derived.BigQuiet
/-
  Plain mathematics of layer 1 (num): what Fixed, Unfixed, Var, Unvar, Fold, Unfold compute, as functions on lists of bytes and numbers, and the facts between them. No program in sight.
-/
namespace Go.Proofs.YtoifhcmgeackdaaGreatDoor
namespace Num

/-- The bytes of a number in groups of 7 bits, the lowest first; at most f + 1 of them. -/
def varF : Nat → Nat → List UInt8
  | 0, n => [UInt8.ofNat n]
  | f + 1, n => if n < 128 then [UInt8.ofNat n] else UInt8.ofNat (n % 128 + 128) :: varF f (n / 128)
def varB (n : Nat) : List UInt8 := varF 9 n

/-- The last k bytes of n, the highest first. -/
def fixF : Nat → Nat → List UInt8
  | 0, _ => []
  | k + 1, n => fixF k (n / 256) ++ [UInt8.ofNat n]

/-- The width that counts: from 1 to 8. -/
def clampW (width : Int) : Nat := if width < 1 then 1 else if 8 < width then 8 else width.toNat

def unfF : Nat → List UInt8 → Nat
  | acc, [] => acc
  | acc, b :: r => unfF (acc * 256 + b.toNat) r

/-- What Unvar gives from byte i on: the number, how many bytes, the error. -/
def unvL : Nat → Nat → List UInt8 → Nat × Nat × Int
  | _, _, [] => (0, 0, 3)
  | i, acc, b :: r =>
    if (0 < i ∧ b.toNat = 0) ∨ (i = 9 ∧ 1 < b.toNat) then (0, 0, 4)
    else if b.toNat < 128 then (acc + b.toNat % 128 * 128 ^ i, i + 1, 0)
    else unvL (i + 1) (acc + b.toNat % 128 * 128 ^ i) r

/-- What Unfixed gives: the number, the error. -/
def unfixL (l : List UInt8) : Nat × Int := if 1 ≤ l.length ∧ l.length ≤ 8 then (unfF 0 l, 0) else (0, 1)

def foldI (n : Int) : Int := if 0 ≤ n then 2 * n else -2 * n - 1
def unfoldI (n : Int) : Int := if n % 2 = 0 then n / 2 else -(n / 2) - 1

theorem clamp_pos (width : Int) : 1 ≤ clampW width := by unfold clampW; split <;> (try split) <;> omega
theorem clamp_le (width : Int) : clampW width ≤ 8 := by unfold clampW; split <;> (try split) <;> omega
theorem clamp_if (width : Int) (wd : Nat) (h : wd = clampW width) : (if 8 < (if width < 1 then 1 else width) then 8 else (if width < 1 then 1 else width)) = (wd : Int) := by
  rw [h]; unfold clampW; split <;> (try split) <;> (try split) <;> omega

theorem ofNat_toNat (n : Nat) : (UInt8.ofNat n).toNat = n % 256 := by simp

theorem fixF_length (k n : Nat) : (fixF k n).length = k := by
  induction k generalizing n with
  | zero => rfl
  | succ k ih => simp [fixF, ih]

/-- The byte of a group behind which another one stands, and the last one: names that the walks leave closed. -/
def moreB (n : Nat) : UInt8 := UInt8.ofNat (n % 128 + 128)
def lowB (n : Nat) : UInt8 := UInt8.ofNat n
theorem varF_more (f n : Nat) (h : 128 ≤ n) : varF (f + 1) n = moreB n :: varF f (n / 128) := by rw [varF, if_neg (by omega)]; rfl
theorem varF_low (f n : Nat) (h : n < 128) : varF f n = [lowB n] := by cases f <;> simp [varF, lowB, h]
theorem moreB_nat (n : Nat) : (moreB n).toNat = n % 128 + 128 := by unfold moreB; rw [ofNat_toNat]; omega
theorem lowB_nat (n : Nat) : (lowB n).toNat = n % 256 := ofNat_toNat n

theorem varF_pos (f n : Nat) : 1 ≤ (varF f n).length := by
  cases f with
  | zero => simp [varF]
  | succ f => unfold varF; split <;> simp

theorem varF_le (f n : Nat) : (varF f n).length ≤ f + 1 := by
  induction f generalizing n with
  | zero => simp [varF]
  | succ f ih => unfold varF; split
                 · simp
                 · simp only [List.length_cons]; have := ih (n / 128); omega

theorem varB_pos (n : Nat) : 1 ≤ (varB n).length := varF_pos 9 n
theorem varB_le (n : Nat) : (varB n).length ≤ 10 := varF_le 9 n

theorem varF_mono (f a b : Nat) (h : a ≤ b) : (varF f a).length ≤ (varF f b).length := by
  induction f generalizing a b with
  | zero => simp [varF]
  | succ f ih =>
    unfold varF
    by_cases h1 : a < 128 <;> by_cases h2 : b < 128
    · simp [h1, h2]
    · simp [h1, h2]
    · omega
    · simp only [h1, h2, if_false, List.length_cons]
      have := ih (a / 128) (b / 128) (Nat.div_le_div_right h)
      omega

theorem varB_mono (a b : Nat) (h : a ≤ b) : (varB a).length ≤ (varB b).length := varF_mono 9 a b h

theorem varB_one (n : Nat) : (varB n).length = 1 ↔ n < 128 := by
  unfold varB varF
  by_cases h : n < 128
  · simp [h]
  · simp only [h, if_false, List.length_cons, iff_false]
    have := varF_pos 8 (n / 128)
    omega

theorem unv_var : ∀ (f n i acc : Nat) (s : List UInt8), i + f = 9 → n < 2 * 128 ^ f → (0 < i → 0 < n) →
    unvL i acc (varF f n ++ s) = (acc + n * 128 ^ i, i + (varF f n).length, 0) := by
  intro f
  induction f with
  | zero =>
    intro n i acc s hi hn hp
    have e : (UInt8.ofNat n).toNat = n := by rw [ofNat_toNat]; exact Nat.mod_eq_of_lt (by omega)
    simp only [varF, List.cons_append, List.nil_append, unvL, e]
    rw [if_neg (by omega), if_pos (by omega), Nat.mod_eq_of_lt (by omega)]
    simp
  | succ f ih =>
    intro n i acc s hi hn hp
    unfold varF
    by_cases h : n < 128
    · have e : (UInt8.ofNat n).toNat = n := by rw [ofNat_toNat]; exact Nat.mod_eq_of_lt (by omega)
      simp only [h, if_true, List.cons_append, List.nil_append, unvL, e]
      rw [if_neg (by omega), Nat.mod_eq_of_lt h]
      simp
    · have e : (UInt8.ofNat (n % 128 + 128)).toNat = n % 128 + 128 := by rw [ofNat_toNat]; exact Nat.mod_eq_of_lt (by omega)
      simp only [h, if_false, List.cons_append, unvL, e]
      rw [if_neg (by omega), if_neg (by omega)]
      have e2 : (n % 128 + 128) % 128 = n % 128 := by omega
      rw [e2, ih (n / 128) (i + 1) _ s (by omega) (by rw [Nat.pow_succ] at hn; omega) (by omega)]
      refine Prod.ext ?_ (Prod.ext ?_ rfl)
      · simp only [Nat.pow_succ]
        have hd : n = n / 128 * 128 + n % 128 := by omega
        have e3 : n / 128 * (128 ^ i * 128) = n / 128 * 128 * 128 ^ i := by rw [Nat.mul_assoc, Nat.mul_comm 128]
        have e4 : n * 128 ^ i = n / 128 * 128 * 128 ^ i + n % 128 * 128 ^ i := by rw [← Nat.add_mul, ← hd]
        omega
      · simp only [List.length_cons]; omega

theorem unv_varB (n : Nat) (s : List UInt8) (h : n < 18446744073709551616) : unvL 0 0 (varB n ++ s) = (n, (varB n).length, 0) := by
  have := unv_var 9 n 0 0 s rfl (by omega) (by omega)
  simpa [varB] using this

theorem unv_cut : ∀ (f n i acc k : Nat), k < (varF f n).length → i + f = 9 → unvL i acc ((varF f n).take k) = (0, 0, 3) := by
  intro f
  induction f with
  | zero =>
    intro n i acc k hk hi
    simp only [varF, List.length_cons, List.length_nil] at hk
    have : k = 0 := by omega
    subst this
    simp [unvL]
  | succ f ih =>
    intro n i acc k hk hi
    cases k with
    | zero => simp [unvL]
    | succ k =>
      unfold varF at hk ⊢
      by_cases h : n < 128
      · simp [h] at hk
      · simp only [h, if_false, List.length_cons] at hk
        have e : (UInt8.ofNat (n % 128 + 128)).toNat = n % 128 + 128 := by rw [ofNat_toNat]; exact Nat.mod_eq_of_lt (by omega)
        simp only [h, if_false, List.take_succ_cons, unvL, e]
        rw [if_neg (by omega), if_neg (by omega)]
        exact ih (n / 128) (i + 1) _ k (by omega) (by omega)

theorem unv_cutB (n k : Nat) (h : k < (varB n).length) : unvL 0 0 ((varB n).take k) = (0, 0, 3) := unv_cut 9 n 0 0 k h rfl

/-- What is read is what is written of it. -/
theorem unv_back : ∀ (s : List UInt8) (i acc b m : Nat) (f : Nat), i + f = 9 → unvL i acc s = (b, m, 0) →
    ∃ n, b = acc + n * 128 ^ i ∧ (0 < i → 0 < n) ∧ n < 2 * 128 ^ f ∧ i < m ∧ m ≤ i + s.length ∧ varF f n = s.take (m - i) := by
  intro s
  induction s with
  | nil => intro i acc b m f hi h; simp [unvL] at h
  | cons c r ih =>
    intro i acc b m f hi h
    have hc : c.toNat < 256 := c.toNat_lt
    unfold unvL at h
    split at h
    · simp at h
    · rename_i h1
      split at h
      · rename_i h2
        simp only [Prod.mk.injEq, and_true] at h
        obtain ⟨rfl, rfl⟩ := h
        rw [Nat.mod_eq_of_lt h2]
        refine ⟨c.toNat, rfl, by omega, ?_, by omega, by simp, ?_⟩
        · cases f with
          | zero => omega
          | succ f => have : 1 ≤ 128 ^ f := Nat.pow_pos (by decide)
                      rw [Nat.pow_succ]; omega
        · have e : UInt8.ofNat c.toNat = c := by simp
          rw [show i + 1 - i = 1 by omega]
          cases f with
          | zero => simp [varF]
          | succ f => simp [varF, h2]
      · rename_i h2
        cases f with
        | zero => omega
        | succ f =>
          obtain ⟨n, hb, hp, hn, hm1, hm2, hv⟩ := ih (i + 1) _ b m f (by omega) h
          have hn0 : 0 < n := hp (by omega)
          refine ⟨n * 128 + c.toNat % 128, ?_, by omega, by rw [Nat.pow_succ]; omega, by omega, by simp only [List.length_cons]; omega, ?_⟩
          · rw [hb, Nat.pow_succ, Nat.add_mul]
            have e3 : n * (128 ^ i * 128) = n * 128 * 128 ^ i := by rw [Nat.mul_assoc, Nat.mul_comm 128]
            omega
          · have hg : ¬ n * 128 + c.toNat % 128 < 128 := by omega
            simp only [varF, hg, if_false]
            have e1 : (n * 128 + c.toNat % 128) % 128 + 128 = c.toNat := by omega
            have e2 : (n * 128 + c.toNat % 128) / 128 = n := by omega
            rw [e1, e2, hv, show m - i = (m - (i + 1)) + 1 by omega, List.take_succ_cons]
            simp

theorem unv_err : ∀ (s : List UInt8) (i acc : Nat), (unvL i acc s).2.2 ≠ 0 → (unvL i acc s).1 = 0 ∧ (unvL i acc s).2.1 = 0 := by
  intro s
  induction s with
  | nil => intro i acc _; simp [unvL]
  | cons c r ih =>
    intro i acc h
    unfold unvL at h ⊢
    split
    · simp
    · split
      · rename_i h1 h2; simp [h1, h2] at h
      · rename_i h1 h2; simp only [h1, h2, if_false] at h; exact ih _ _ h

/-- The number read is below 2^64; the count of bytes lies within s. -/
theorem unv_lt (s : List UInt8) : (unvL 0 0 s).1 < 18446744073709551616 ∧ (unvL 0 0 s).2.1 ≤ s.length ∧ ((unvL 0 0 s).2.2 = 0 ∨ (unvL 0 0 s).2.2 = 3 ∨ (unvL 0 0 s).2.2 = 4) := by
  have key : ∀ (s : List UInt8) (i acc : Nat), (unvL i acc s).2.2 = 0 ∨ (unvL i acc s).2.2 = 3 ∨ (unvL i acc s).2.2 = 4 := by
    intro s
    induction s with
    | nil => intro i acc; simp [unvL]
    | cons c r ih => intro i acc; unfold unvL; split
                     · simp
                     · split
                       · simp
                       · exact ih _ _
  refine ⟨?_, ?_, key s 0 0⟩
  · by_cases h : (unvL 0 0 s).2.2 = 0
    · obtain ⟨n, hb, _, hn, _⟩ := unv_back s 0 0 (unvL 0 0 s).1 (unvL 0 0 s).2.1 9 rfl (by rw [← h])
      rw [hb]; omega
    · rw [(unv_err s 0 0 h).1]; decide
  · by_cases h : (unvL 0 0 s).2.2 = 0
    · obtain ⟨n, _, _, _, _, hm, _⟩ := unv_back s 0 0 (unvL 0 0 s).1 (unvL 0 0 s).2.1 9 rfl (by rw [← h])
      omega
    · rw [(unv_err s 0 0 h).2]; omega

theorem unfF_append (a : List UInt8) (b : UInt8) (acc : Nat) : unfF acc (a ++ [b]) = unfF acc a * 256 + b.toNat := by
  induction a generalizing acc with
  | nil => simp [unfF]
  | cons c r ih => simp [unfF, ih]

theorem unf_fix (k n : Nat) : unfF 0 (fixF k n) = n % 256 ^ k := by
  induction k generalizing n with
  | zero => simp [fixF, unfF, Nat.mod_one]
  | succ k ih =>
    rw [fixF, unfF_append, ih, ofNat_toNat, Nat.pow_succ, Nat.mul_comm (256 ^ k) 256, Nat.mod_mul]
    omega

theorem unfF_lt (l : List UInt8) (acc : Nat) : unfF acc l < (acc + 1) * 256 ^ l.length := by
  induction l generalizing acc with
  | nil => simp [unfF]
  | cons c r ih =>
    have hc : c.toNat < 256 := c.toNat_lt
    have h1 := ih (acc * 256 + c.toNat)
    have h2 : (acc * 256 + c.toNat + 1) * 256 ^ r.length ≤ (acc + 1) * 256 * 256 ^ r.length := Nat.mul_le_mul_right _ (by omega)
    simp only [unfF, List.length_cons, Nat.pow_succ]
    rw [Nat.mul_comm (256 ^ r.length) 256, ← Nat.mul_assoc]
    omega

theorem unfF_ge (l : List UInt8) (acc : Nat) : acc * 256 ^ l.length ≤ unfF acc l := by
  induction l generalizing acc with
  | nil => simp [unfF]
  | cons c r ih =>
    have h1 := ih (acc * 256 + c.toNat)
    have h2 : acc * 256 * 256 ^ r.length ≤ (acc * 256 + c.toNat) * 256 ^ r.length := Nat.mul_le_mul_right _ (by omega)
    simp only [unfF, List.length_cons, Nat.pow_succ]
    rw [Nat.mul_comm (256 ^ r.length) 256, ← Nat.mul_assoc]
    exact Nat.le_trans h2 h1

/-- Bytes of one length stand as their numbers do. -/
theorem less_unf : ∀ (x y : List UInt8) (acc : Nat), x.length = y.length → Op.bytesLess x y = decide (unfF acc x < unfF acc y) := by
  intro x
  induction x with
  | nil => intro y acc h; cases y with
           | nil => simp [Op.bytesLess]
           | cons _ _ => simp at h
  | cons a x ih =>
    intro y acc h
    cases y with
    | nil => simp at h
    | cons b y =>
      have hl : x.length = y.length := by simpa using h
      have ha := unfF_lt x (acc * 256 + a.toNat)
      have hb := unfF_lt y (acc * 256 + b.toNat)
      have ga := unfF_ge x (acc * 256 + a.toNat)
      have gb := unfF_ge y (acc * 256 + b.toNat)
      rw [← hl] at hb gb
      unfold Op.bytesLess
      rw [show unfF acc (a :: x) = unfF (acc * 256 + a.toNat) x from rfl, show unfF acc (b :: y) = unfF (acc * 256 + b.toNat) y from rfl]
      by_cases hab : a.toNat < b.toNat
      · have h1 : a < b := UInt8.lt_iff_toNat_lt.2 hab
        have h2 : (acc * 256 + a.toNat + 1) * 256 ^ x.length ≤ (acc * 256 + b.toNat) * 256 ^ x.length := Nat.mul_le_mul_right _ (by omega)
        have h4 : unfF (acc * 256 + a.toNat) x < unfF (acc * 256 + b.toNat) y := by omega
        simp [h1, h4]
      · by_cases hba : b.toNat < a.toNat
        · have h1 : ¬ a < b := fun h => by have := UInt8.lt_iff_toNat_lt.1 h; omega
          have h3 : (a == b) = false := by simp; intro h; subst h; omega
          have h2 : (acc * 256 + b.toNat + 1) * 256 ^ x.length ≤ (acc * 256 + a.toNat) * 256 ^ x.length := Nat.mul_le_mul_right _ (by omega)
          have h4 : ¬ unfF (acc * 256 + a.toNat) x < unfF (acc * 256 + b.toNat) y := by omega
          simp [h1, h3, h4]
        · have h3 : a = b := UInt8.toNat_inj.1 (by omega)
          subst h3
          simp [ih y (acc * 256 + a.toNat) hl]

/-- The eight bytes of a number: a name that the walks leave closed. -/
def fix8 (n : Nat) : List UInt8 := fixF 8 n
theorem fix8_len (n : Nat) : (fix8 n).length = 8 := fixF_length 8 n
theorem fix8_less (a b : Nat) (ha : a < 18446744073709551616) (hb : b < 18446744073709551616) : Op.bytesLess (fix8 a) (fix8 b) = decide (a < b) := by
  unfold fix8
  rw [less_unf _ _ 0 (by rw [fixF_length, fixF_length]), unf_fix, unf_fix, show (256 : Nat) ^ 8 = 18446744073709551616 by decide, Nat.mod_eq_of_lt ha, Nat.mod_eq_of_lt hb]

theorem acc_small (acc k : Nat) (h : acc < 256 ^ k) (hk : k ≤ 7) : acc < 72057594037927936 := by
  have : (256 : Nat) ^ k ≤ 256 ^ 7 := Nat.pow_le_pow_right (by decide) hk
  have e : (256 : Nat) ^ 7 = 72057594037927936 := by decide
  omega

theorem unfix_lt (l : List UInt8) : (unfixL l).1 < 18446744073709551616 := by
  unfold unfixL
  split
  · rename_i h
    have h1 := unfF_lt l 0
    have h2 : (256 : Nat) ^ l.length ≤ 256 ^ 8 := Nat.pow_le_pow_right (by decide) h.2
    have e : (256 : Nat) ^ 8 = 18446744073709551616 := by decide
    show unfF 0 l < _
    omega
  · decide

theorem unfix_fix (n : Nat) (h : n < 18446744073709551616) : unfixL (fixF 8 n) = (n, 0) := by
  unfold unfixL
  rw [fixF_length, if_pos (by decide), unf_fix, Nat.mod_eq_of_lt (by rw [show (256 : Nat) ^ 8 = 18446744073709551616 by decide]; exact h)]

theorem fold_unfold (n : Int) (h0 : 0 ≤ n) : foldI (unfoldI n) = n := by unfold foldI unfoldI; split <;> split <;> omega
theorem unfold_fold (n : Int) : unfoldI (foldI n) = n := by unfold foldI unfoldI; split <;> split <;> omega

end Num
end Go.Proofs.YtoifhcmgeackdaaGreatDoor

/-
  Small laws on bits that the walks over num leave: or of numbers that do not meet, and-not with 128, a byte out of a number.
-/
namespace Go.Proofs.YtoifhcmgeackdaaGreatDoor
open Go.RowKit
namespace Num

/-- A fact kept from the walk. -/
theorem hid {p : Prop} (h : p) : Hid p := h

theorem ret_u {k : IntKind} {a b : Int} (h : a = b) : Ending.returned (.int k a) = .returned (.int k b) := by rw [h]

theorem wrap_u (n : Int) : IntKind.u64.wrap n = n % 18446744073709551616 := IntKind.wrap_u64 n
theorem wrap_i (n : Int) : wrap64 n = (n + 9223372036854775808) % 18446744073709551616 - 9223372036854775808 := by unfold wrap64; rfl

theorem nat_u64 {a : Int} (h : (Lit.int .u64 a).wf = true) : ∃ n : Nat, n < 18446744073709551616 ∧ a = (n : Int) := by
  simp only [Lit.wf, Bool.and_eq_true, decide_eq_true_eq] at h
  obtain ⟨h0, h1⟩ := h
  have e0 : IntKind.u64.min = 0 := by decide
  have e1 : IntKind.u64.max = 18446744073709551615 := by decide
  exact ⟨a.toNat, by omega, by omega⟩

theorem int_i64 {a : Int} (h : (Lit.int .i64 a).wf = true) : -9223372036854775808 ≤ a ∧ a ≤ 9223372036854775807 := by
  simp only [Lit.wf, Bool.and_eq_true, decide_eq_true_eq] at h
  obtain ⟨h0, h1⟩ := h
  have e0 : IntKind.i64.min = -9223372036854775808 := by decide
  have e1 : IntKind.i64.max = 9223372036854775807 := by decide
  exact ⟨by omega, by omega⟩

theorem or_u64_nat (a b : Nat) (ha : a < 18446744073709551616) (hb : b < 18446744073709551616) :
    bits .or .u64 (a : Int) (b : Int) = ((a ||| b : Nat) : Int) := by
  have hx : a ||| b < 2 ^ 64 := Nat.or_lt_two_pow (by omega) (by omega)
  have h1 : (BitVec.ofInt 64 (a : Int)).toNat = a := by
    rw [BitVec.ofInt_natCast, BitVec.toNat_ofNat]; exact Nat.mod_eq_of_lt (by omega)
  have h2 : (BitVec.ofInt 64 (b : Int)).toNat = b := by
    rw [BitVec.ofInt_natCast, BitVec.toNat_ofNat]; exact Nat.mod_eq_of_lt (by omega)
  show IntKind.u64.wrap ((BitVec.ofInt 64 (a : Int) ||| BitVec.ofInt 64 (b : Int)).toNat : Int) = _
  rw [BitVec.toNat_or, h1, h2, IntKind.wrap_u64]
  omega

theorem or_add (a c m : Nat) (h : a < 2 ^ m) : a ||| c * 2 ^ m = a + c * 2 ^ m := by
  rw [Nat.or_comm, Nat.mul_comm c, ← Nat.two_pow_add_eq_or_of_lt h, Nat.add_comm]

theorem andNot_byte (b : Nat) (h : b < 256) : bits .andNot .u8 (b : Int) 128 = ((b % 128 : Nat) : Int) := by
  have key : ∀ c : Fin 256, bits .andNot .u8 (c.val : Int) 128 = ((c.val % 128 : Nat) : Int) := by decide +kernel
  exact key ⟨b, h⟩

theorem or_byte (b : Nat) (h : b < 256) : bits .or .u8 (b : Int) 128 = ((b % 128 + 128 : Nat) : Int) := by
  have key : ∀ c : Fin 256, bits .or .u8 (c.val : Int) 128 = ((c.val % 128 + 128 : Nat) : Int) := by decide +kernel
  exact key ⟨b, h⟩

theorem pow128 (k : Nat) : (2 : Nat) ^ (7 * k) = 128 ^ k := by rw [Nat.pow_mul]
theorem pow256 (k : Nat) : (2 : Nat) ^ (8 * k) = 256 ^ k := by rw [Nat.pow_mul]

theorem pow128_9 (k : Nat) (h : k ≤ 8) : 128 * 128 ^ k ≤ 9223372036854775808 := by
  have : (128 : Nat) ^ (k + 1) ≤ 128 ^ 9 := Nat.pow_le_pow_right (by decide) (by omega)
  rw [Nat.pow_succ] at this
  have e : (128 : Nat) ^ 9 = 9223372036854775808 := by decide
  omega

/-- What 'n |= c << (7 * k)' comes to, where n has at most 7 * k bits and the sum fits. -/
theorem or_step (acc k c : Nat) (hk : k ≤ 9) (ha : acc < 128 ^ k) (hc : c < 128) (h9 : k = 9 → c ≤ 1) :
    bits .or .u64 (acc : Int) (IntKind.u64.wrap ((c : Int) * 2 ^ (7 * k))) = ((acc + c * 128 ^ k : Nat) : Int) ∧ acc + c * 128 ^ k < 18446744073709551616 := by
  have hbound : acc + c * 128 ^ k < 18446744073709551616 ∧ c * 128 ^ k < 18446744073709551616 := by
    by_cases h : k = 9
    · subst h
      have e : (128 : Nat) ^ 9 = 9223372036854775808 := by decide
      have := h9 rfl
      rw [e] at ha ⊢
      omega
    · have h1 := pow128_9 k (by omega)
      have h2 : c * 128 ^ k ≤ 127 * 128 ^ k := Nat.mul_le_mul_right _ (by omega)
      omega
  refine ⟨?_, hbound.1⟩
  have e : (c : Int) * 2 ^ (7 * k) = ((c * 128 ^ k : Nat) : Int) := by
    rw [← pow128, Int.natCast_mul, Int.natCast_pow]; rfl
  have hw : IntKind.u64.wrap ((c * 128 ^ k : Nat) : Int) = ((c * 128 ^ k : Nat) : Int) := by
    rw [wrap_u]; exact Int.emod_eq_of_lt (by omega) (by omega)
  rw [e, hw, or_u64_nat _ _ (by omega) hbound.2, ← pow128, or_add _ _ _ (by rw [pow128]; exact ha)]

theorem or_step_byte (acc k b : Nat) (hk : k ≤ 9) (ha : acc < 128 ^ k) (hb : b < 256) (h9 : k = 9 → b ≤ 1) :
    bits .or .u64 (acc : Int) (IntKind.u64.wrap (IntKind.u64.wrap (bits .andNot .u8 (b : Int) 128) * 2 ^ (7 * k))) = ((acc + b % 128 * 128 ^ k : Nat) : Int) := by
  have hw : IntKind.u64.wrap ((b % 128 : Nat) : Int) = ((b % 128 : Nat) : Int) := by rw [wrap_u]; exact Int.emod_eq_of_lt (by omega) (by omega)
  rw [andNot_byte b hb, hw]
  exact (or_step acc k (b % 128) hk ha (by omega) (by omega)).1

theorem acc_lt (acc k b : Nat) (ha : acc < 128 ^ k) : acc + b % 128 * 128 ^ k < 128 ^ (k + 1) := by
  have h2 : b % 128 * 128 ^ k ≤ 127 * 128 ^ k := Nat.mul_le_mul_right _ (by omega)
  rw [Nat.pow_succ]; omega

/-- What 'n << 8 | b' comes to. -/
theorem or_shift8 (acc b : Nat) (ha : acc < 72057594037927936) (hb : b < 256) :
    bits .or .u64 (IntKind.u64.wrap ((acc : Int) * 256)) (b : Int) = ((acc * 256 + b : Nat) : Int) := by
  have hw : IntKind.u64.wrap ((acc : Int) * 256) = ((acc * 256 : Nat) : Int) := by rw [wrap_u, Int.natCast_mul]; exact Int.emod_eq_of_lt (by omega) (by omega)
  rw [hw, or_u64_nat _ _ (by omega) (by omega), Nat.or_comm]
  have := or_add b acc 8 (by omega)
  rw [show (256 : Nat) = 2 ^ 8 by decide, this, Nat.add_comm]

theorem drop_at (s : ByteArray) (k : Nat) (h : k < s.size) : s.data.toList.drop k = s[k] :: s.data.toList.drop (k + 1) := by
  rw [List.drop_eq_getElem_cons (by simpa using h)]; rfl

end Num
end Go.Proofs.YtoifhcmgeackdaaGreatDoor

/-
  Small laws on a []byte that the call itself makes: its cells as bytes, and string(b) of it.
-/
namespace Go.Proofs.YtoifhcmgeackdaaGreatDoor
open Go.RowKit
namespace Num

/-- The cells of a list of bytes. -/
def bcells (l : List UInt8) : List Value := l.map fun b => Value.int .u8 (b.toNat : Int)

theorem cell_new (w : World) (v : Value) (t : TypeId) : (w.alloc (.cells #[v] t)).cell? ⟨w.heap.size, 0, none⟩ = some v := by simp

theorem bcells_snoc (l : List UInt8) (b : UInt8) : bcells (l ++ [b]) = bcells l ++ [.int .u8 (b.toNat : Int)] := by simp [bcells]
theorem bcells_len (l : List UInt8) : (bcells l).length = l.length := by simp [bcells]

/-- string(b), where b owns the bytes l. -/
theorem conv_own {P : Program} {w : World} {base : Nat} {v : Value} {l : List UInt8} {n : Nat} (src dst e : TypeId) (hs : P.underlying src = some (.slice e)) (he : P.underlying e = some (.int .u8)) (hd : P.underlying dst = some .string)
    (hn : n = l.length) (hpos : 1 ≤ l.length) (hown : w.ownsRow base e 1 v n (bcells l)) : (convert src dst v).run P w = .ok (.string ⟨l.toArray⟩) w := by
  subst hn
  rcases hown.2 with ⟨rfl, h0⟩ | ⟨g, cap, cur, rfl, _⟩
  · omega
  · refine run_convert_bytes_back w src dst e ⟨g, 0, none⟩ cap l hs he hd fun j hj => ?_
    have := hown.cells (g := g) rfl j (.int .u8 (l[j].toNat : Int)) (by simp [bcells, hj])
    exact this

/-- 'b = append(b, x)' on a []byte of the call's own, x ONE byte in a new block: b owns one byte more; the old memory stays. -/
theorem wpList_append_byte {P : Program} {w w0 : World} {ops : Array Oper} {rest : List Oper} {o : Oper} {a : Act} {Q : Exit → Act → World → Prop} (hgd : o.guard = none) (s x : Operand) (t : TypeId)
    (ho : o.op = .call { callee := .builtin .append, args := #[s, x], argTypes := #[t, t] })
    (base : Nat) (e : TypeId) (i : TypeInfo) (ht : P.underlying t = some (.slice e)) (hi : P.info? e = some i) (hz : i.zero = some (.int .u8 0)) (hsize : i.size = 1) (hby : i.bytes = 1)
    (v : Value) (n : Nat) (l : List UInt8) (hs : a.eval s = v) (hn : n = l.length) (hown : w.ownsRow base e 1 v n (bcells l)) (hbel : Below base w0 w) (hbase : base ≤ w.heap.size)
    (g c : Nat) (x0 : Int) (b : UInt8) (hx : a.eval x = .slice (some ⟨g, 0, none⟩) 1 c) (hcell : w.cell? ⟨g, 0, none⟩ = some (.int .u8 x0)) (hb : x0 = (b.toNat : Int)) (hlen : l.length ≤ 140737488355327)
    (h : ∀ v' w', w'.ownsRow base e 1 v' (l ++ [b]).length (bcells (l ++ [b])) → Below base w0 w' → wpList P ops Q rest (a.put o.dst v') w') : wpList P ops Q (o :: rest) a w := by
  subst hn
  subst hb
  refine wpList_append_own w hgd s x t ho base e i (.int .u8 0) 1 1 ht hi hz hsize hby rfl (by decide) v l.length (bcells l) hs hown ⟨g, 0, none⟩ 1 c [.int .u8 (b.toNat : Int)] hx rfl ?_ ?_ ?_ ?_ hbase ?_
  · intro j u hj
    match j, hj with
    | 0, hj => simp at hj; subst hj; simpa [Addr.add] using hcell
  · intro u hu; simp at hu; subst hu; rfl
  · unfold maxLen; omega
  · omega
  · intro v' w' ho' hg' _
    refine h v' w' ?_ (hbel.grown hg' hbase (fun k hk => (hown.lt k hk).1))
    rw [bcells_snoc, List.length_append]
    exact ho'

theorem Tryz.info5 : (Tryz.prog.info? 5).map (fun i => (i.zero, i.size, i.bytes)) = some (some (.int .u8 0), 1, 1) := by kernel_rfl

end Num
end Go.Proofs.YtoifhcmgeackdaaGreatDoor

/-
  Contracts of Fold and Unfold, the project's and the reference's: what each call returns; the world stays.
-/
namespace Go.Proofs.YtoifhcmgeackdaaGreatDoor
open Go.RowKit
namespace Num


theorem not_u64 (x : Int) (h0 : 0 ≤ x) (h1 : x ≤ 18446744073709551615) : bits .xor .u64 IntKind.u64.max x = 18446744073709551615 - x := by
  obtain ⟨n, rfl⟩ := Int.eq_ofNat_of_zero_le h0
  have e : IntKind.u64.max = ((18446744073709551615 : Nat) : Int) := by decide
  rw [e, bits_xor_u64_nat _ _ (by decide) (by omega)]
  have hb : (18446744073709551615 : Nat) ^^^ n = 18446744073709551615 - n := by
    have h2 : n < 2 ^ 64 := by omega
    apply Nat.eq_of_testBit_eq
    intro j
    rw [Nat.testBit_xor, show (18446744073709551615 : Nat) = 2 ^ 64 - 1 by decide, Nat.testBit_two_pow_sub_one]
    rw [show (2 ^ 64 - 1 - n) = 2 ^ 64 - (n + 1) by omega, Nat.testBit_two_pow_sub_succ h2]
    by_cases hj : j < 64
    · simp [hj]
    · have : n.testBit j = false := Nat.testBit_lt_two_pow (Nat.lt_of_lt_of_le h2 (Nat.pow_le_pow_right (by decide) (by omega)))
      simp [hj, this]
  rw [hb]
  omega

theorem fold_a (n : Int) (h0 : 0 ≤ n) (h1 : n ≤ 9223372036854775807) : IntKind.u64.wrap (IntKind.u64.wrap n * 2) = foldI n := by
  unfold foldI; rw [wrap_u, wrap_u, if_pos h0]; omega
theorem fold_b (n : Int) (h0 : n < 0) (h1 : -9223372036854775808 ≤ n) : bits .xor .u64 IntKind.u64.max (IntKind.u64.wrap (IntKind.u64.wrap n * 2)) = foldI n := by
  have e : IntKind.u64.wrap (IntKind.u64.wrap n * 2) = 2 * n + 18446744073709551616 := by rw [wrap_u, wrap_u]; omega
  rw [e, not_u64 _ (by omega) (by omega)]
  unfold foldI; rw [if_neg (by omega)]; omega
theorem unfold_a (n : Int) (h : (bits .and .u64 n 1 != 0) = false) (h0 : 0 ≤ n) (h1 : n ≤ 18446744073709551615) : n / 2 = unfoldI n := by
  rw [and_one_u64 n h0 h1] at h; unfold unfoldI; rw [if_pos (by simpa using h)]
theorem unfold_b (n : Int) (h : (bits .and .u64 n 1 != 0) = true) (h0 : 0 ≤ n) (h1 : n ≤ 18446744073709551615) : wrap64 (bits .xor .u64 IntKind.u64.max (n / 2)) = unfoldI n := by
  rw [and_one_u64 n h0 h1] at h; rw [not_u64 _ (by omega) (by omega), wrap_i]
  unfold unfoldI; rw [if_neg (by simpa using h)]; omega

end Num
end Go.Proofs.YtoifhcmgeackdaaGreatDoor

/-
  Contracts of Unvar and of cannotStand, the project's: what each call returns; the world stays.
-/
namespace Go.Proofs.YtoifhcmgeackdaaGreatDoor
open Go.RowKit
namespace Num

set_option maxHeartbeats 400000 in
theorem cannot_yes (b i : Int) (w : World) (h : (0 < i ∧ b = 0) ∨ (i = 9 ∧ 1 < b)) :
    Calls Tryz.prog 195 #[.int .u8 b, .int .i64 i] w fun e w' => e = .returned (.bool true) ∧ w = w' := by
  rcases h with ⟨h1, h2⟩ | ⟨h1, h2⟩
  · subst h2
    go_enter Tryz.func195, Tryz.ntmps195
    go_wp2
    go_ret
    exact ⟨rfl, rfl⟩
  · subst h1
    have hb : (b == 0) = false := by simp; omega
    go_enter Tryz.func195, Tryz.ntmps195
    go_wp2
    go_ret
    exact ⟨rfl, rfl⟩

set_option maxHeartbeats 400000 in
theorem cannot_no (b i : Int) (w : World) (h : ¬ ((0 < i ∧ b = 0) ∨ (i = 9 ∧ 1 < b))) :
    Calls Tryz.prog 195 #[.int .u8 b, .int .i64 i] w fun e w' => e = .returned (.bool false) ∧ w = w' := by
  by_cases h9 : i = 9
  · subst h9
    have hb : (b == 0) = false := by simp; omega
    have hc : decide (1 < b) = false := by simp; omega
    clear h
    go_enter Tryz.func195, Tryz.ntmps195
    go_wp2
    go_ret
    exact ⟨rfl, rfl⟩
  · have h9' : (i == 9) = false := by simpa using h9
    by_cases h0 : 0 < i
    · have hb : (b == 0) = false := by simp; omega
      clear h h9
      go_enter Tryz.func195, Tryz.ntmps195
      go_wp2
      go_ret
      exact ⟨rfl, rfl⟩
    · have h0' : i ≤ 0 := by omega
      clear h h9 h0
      go_enter Tryz.func195, Tryz.ntmps195
      go_wp2
      go_ret
      exact ⟨rfl, rfl⟩

theorem ret_3 {k1 k2 k3 : IntKind} {a1 b1 a2 b2 a3 b3 : Int} (h1 : a1 = b1) (h2 : a2 = b2) (h3 : a3 = b3) :
    Ending.returned (.tuple #[.int k1 a1, .int k2 a2, .int k3 a3]) = .returned (.tuple #[.int k1 b1, .int k2 b2, .int k3 b3]) := by rw [h1, h2, h3]

set_option maxRecDepth 100000 in
set_option maxHeartbeats 400000 in
theorem unvar_any (s : ByteArray) (w : World) (hs : s.size ≤ maxLen) :
    Calls Tryz.prog 179 #[.string s] w fun e w' => e = .returned (.tuple #[.int .u64 ((unvL 0 0 s.data.toList).1 : Nat), .int .i64 ((unvL 0 0 s.data.toList).2.1 : Nat), .int .i64 (unvL 0 0 s.data.toList).2.2]) ∧ w = w' := by
  replace hs : s.size ≤ 9223372036854775807 := by unfold maxLen at hs; omega
  go_enter Tryz.func179, Tryz.ntmps179
  go_wp2
  go_loop [5, 10] (fun a i => ∃ k acc : Nat, k ≤ s.size ∧ k ≤ 9 ∧ i = .int .i64 k ∧ a = .int .u64 acc ∧ acc < 128 ^ k ∧ unvL 0 0 s.data.toList = unvL k acc (s.data.toList.drop k)) (fun _ i => s.size - (intOf i).toNat)
  case atStart => exact ⟨0, 0, Nat.zero_le _, Nat.zero_le _, rfl, rfl, by decide, rfl⟩
  case round =>
    obtain ⟨k, acc, hk, hk9, rfl, rfl, hacc, hu⟩ := hrel
    have HU := hid hu
    clear hu
    by_cases hlt : k < s.size
    · by_cases hbad : (0 < (k : Int) ∧ (s[k].toNat : Int) = 0) ∨ ((k : Int) = 9 ∧ 1 < (s[k].toNat : Int))
      · have HB := hid hbad
        clear hbad
        go_wp2_with (go_at_call 195; refine (cannot_yes _ _ _ HB.out).mono ?_; rintro e w' ⟨rfl, rfl⟩)
        go_ret3
        rw [HU.out, drop_at s k hlt, unvL, if_pos (by have := HB.out; omega)]
        exact ⟨rfl, rfl⟩
      · have HB := hid hbad
        clear hbad
        have HA := hid hacc
        clear hacc
        go_wp2_with fail
        refine (cannot_no _ _ _ HB.out).mono ?_
        rintro e w' ⟨rfl, rfl⟩
        go_wp2_with fail
        · have h128 : (s[k].toNat : Int) < 128 := by assumption
          go_ret3
          rw [HU.out, drop_at s k hlt, unvL, if_neg (by have := HB.out; omega), if_pos (by omega)]
          exact ⟨ret_3 (or_step_byte acc k s[k].toNat hk9 HA.out s[k].toNat_lt (by have := HB.out; omega)) (show (k : Int) + 1 = ((k + 1 : Nat) : Int) by omega) rfl, rfl⟩
        · have h128 : 128 ≤ (s[k].toNat : Int) := by assumption
          have hb := HB.out
          go_round
          case rel => exact ⟨k + 1, _, by omega, by omega, by go_num, congrArg (Value.int .u64) (or_step_byte acc k s[k].toNat hk9 HA.out s[k].toNat_lt (by omega)), acc_lt _ _ _ HA.out, by rw [HU.out, drop_at s k hlt, unvL, if_neg (by omega), if_neg (by omega)]⟩
          case measure => simp [intOf]; omega
    · go_wp2
      go_ret3
      rw [HU.out, List.drop_of_length_le (by simp; omega)]
      exact ⟨rfl, rfl⟩

end Num
end Go.Proofs.YtoifhcmgeackdaaGreatDoor

/-
  Contract of Unfixed, the project's: what each call returns; the world stays.
-/
namespace Go.Proofs.YtoifhcmgeackdaaGreatDoor
open Go.RowKit
namespace Num

theorem ret_2 {k1 k2 : IntKind} {a1 b1 a2 b2 : Int} (h1 : a1 = b1) (h2 : a2 = b2) :
    Ending.returned (.tuple #[.int k1 a1, .int k2 a2]) = .returned (.tuple #[.int k1 b1, .int k2 b2]) := by rw [h1, h2]

theorem unfix_no (s : ByteArray) (h : s.size < 1 ∨ 8 < s.size) : unfixL s.data.toList = (0, 1) := by
  unfold unfixL; rw [if_neg (by simp; omega)]
theorem unfix_yes (s : ByteArray) (h : 1 ≤ s.size) (h8 : s.size ≤ 8) : unfixL s.data.toList = (unfF 0 s.data.toList, 0) := by
  unfold unfixL; rw [if_pos (by simp; omega)]

theorem unf_step (acc k : Nat) (b : UInt8) (ha : acc < 256 ^ k) : acc * 256 + b.toNat < 256 ^ (k + 1) := by
  have hb : b.toNat < 256 := b.toNat_lt
  rw [Nat.pow_succ]; omega

set_option maxRecDepth 100000 in
set_option maxHeartbeats 400000 in
theorem unfixed_any (s : ByteArray) (w : World) :
    Calls Tryz.prog 178 #[.string s] w fun e w' => e = .returned (.tuple #[.int .u64 ((unfixL s.data.toList).1 : Nat), .int .i64 (unfixL s.data.toList).2]) ∧ w = w' := by
  by_cases h1 : (s.size : Int) < 1
  · go_enter Tryz.func178, Tryz.ntmps178
    go_wp2
    go_ret2
    rw [unfix_no s (by omega)]
    exact ⟨rfl, rfl⟩
  · by_cases h8 : 8 < (s.size : Int)
    · go_enter Tryz.func178, Tryz.ntmps178
      go_wp2
      go_ret2
      rw [unfix_no s (by omega)]
      exact ⟨rfl, rfl⟩
    · go_enter Tryz.func178, Tryz.ntmps178
      go_wp2
      go_loop [4, 16] (fun a i => ∃ k acc : Nat, k ≤ s.size ∧ i = .int .i64 k ∧ a = .int .u64 acc ∧ acc < 256 ^ k ∧ unfF 0 s.data.toList = unfF acc (s.data.toList.drop k)) (fun _ i => s.size - (intOf i).toNat)
      case atStart => exact ⟨0, 0, Nat.zero_le _, rfl, rfl, by decide, rfl⟩
      case round =>
        obtain ⟨k, acc, hk, rfl, rfl, hacc, hu⟩ := hrel
        have HU := hid hu
        clear hu
        have HA := hid hacc
        clear hacc
        by_cases hlt : k < s.size
        · have hby : (s[k].toNat : Int) ≤ 255 := by have := s[k].toNat_lt; omega
          go_wp2
          go_round
          case rel => exact ⟨k + 1, _, by omega, by go_num, congrArg (Value.int .u64) (or_shift8 acc s[k].toNat (acc_small acc k HA.out (by omega)) s[k].toNat_lt), unf_step acc k s[k] HA.out, by rw [HU.out, drop_at s k hlt, unfF]⟩
          case measure => simp [intOf]; omega
        · go_wp2
          go_ret2
          rw [unfix_yes s (by omega) (by omega), HU.out, List.drop_of_length_le (by simp; omega)]
          exact ⟨rfl, rfl⟩

end Num
end Go.Proofs.YtoifhcmgeackdaaGreatDoor

/-
  Contract of Var, the project's: the bytes of the number; the old memory stays.
-/
namespace Go.Proofs.YtoifhcmgeackdaaGreatDoor
open Go.RowKit
namespace Num

theorem byte_more (m : Nat) : bits .or .u8 (IntKind.u8.wrap (m : Int)) 128 = ((moreB m).toNat : Int) := by
  have e : IntKind.u8.wrap (m : Int) = ((m % 256 : Nat) : Int) := by rw [IntKind.wrap_u8]; omega
  rw [e, or_byte _ (by omega), moreB_nat]
  omega
theorem byte_low (m : Nat) (h : (m : Int) < 128) : (m : Int) = ((lowB m).toNat : Int) := by
  rw [lowB_nat]; omega

theorem step_rel (n m f : Nat) (xs : List UInt8) (hv : varB n = xs ++ varF f m) (hf : m < 2 * 128 ^ f) (hl : xs.length + f = 9) (h : 128 ≤ m) :
    ∃ f', (xs ++ [moreB m]).length + f' = 9 ∧ m / 128 < 2 * 128 ^ f' ∧ varB n = (xs ++ [moreB m]) ++ varF f' (m / 128) := by
  cases f with
  | zero => omega
  | succ f => exact ⟨f, by simp; omega, by rw [Nat.pow_succ] at hf; omega, by rw [hv, varF_more f m h]; simp⟩

set_option maxRecDepth 100000 in
set_option maxHeartbeats 1000000 in
theorem var_any (n : Nat) (hn : n < 18446744073709551616) (w : World) :
    Calls Tryz.prog 165 #[.int .u64 n] w fun e w' => e = .returned (.string ⟨(varB n).toArray⟩) ∧ Below w.heap.size w w' := by
  obtain ⟨i0, hi, hz0, hz1, hz2⟩ := info_parts Tryz.info5
  have hn' : (n : Int) ≤ 18446744073709551615 := by omega
  have HN := hid hn
  clear hn
  go_enter Tryz.func165, Tryz.ntmps165
  go_wp2_with (at_make; refine wpList_make_own _ rfl _ _ 42 rfl w.heap.size 5 i0 (.int .u8 0) 1 Tryz.underlying42 hi hz0 hz1 .i64 .i64 10 10 rfl rfl rfl (by rw [hz2]; decide) (by decide) (Nat.le_refl _) ?_)
  intro w1 hown hgrow
  have hb1 : Below w.heap.size w w1 := (Below.refl _ _).grown hgrow (Nat.le_refl _) (fun k hk => by cases hk)
  clear hgrow
  go_wp2
  go_loopw [0, 3] (fun a v wr => ∃ (f m : Nat) (xs : List UInt8), a = .int .u64 m ∧ (m : Int) ≤ 18446744073709551615 ∧ xs.length + f = 9 ∧ m < 2 * 128 ^ f ∧ varB n = xs ++ varF f m ∧ wr.ownsRow w.heap.size 5 1 v xs.length (bcells xs) ∧ Below w.heap.size w wr)
    (fun a _ _ => (intOf a).toNat)
  case atStart => exact ⟨9, n, [], rfl, hn', rfl, by have := HN.out; omega, rfl, hown, hb1⟩
  case round =>
    obtain ⟨f, m, xs, rfl, hm, hl, hf, hv, hown, hbel⟩ := hrel
    have HV := hid hv
    have HF := hid hf
    have HL := hid hl
    clear hv hf hl
    have hsz := hbel.size
    by_cases hlt : 128 ≤ (m : Int)
    · go_wp2_with (at_builtin; refine wpList_append_byte rfl _ _ 42 rfl w.heap.size 5 i0 Tryz.underlying42 hi hz0 hz1 hz2 _ _ xs rfl rfl (hown.alloc _) (hbel.alloc hsz _) (by simp; omega) wr.heap.size 1 _ _ rfl (cell_new _ _ _) (byte_more m) (by have := HL.out; omega) ?_)
      intro v' w2 hown2 hbel2
      go_wp2
      obtain ⟨f', h1, h2, h3⟩ := step_rel n m f xs HV.out HF.out HL.out (by omega)
      go_roundw
      case rel => exact ⟨f', m / 128, xs ++ [moreB m], by simp, by omega, h1, h2, h3, by rw [List.length_append]; exact hown2, hbel2⟩
      case measure => simp [intOf]; omega
    · go_wp2_with (at_builtin; refine wpList_append_byte rfl _ _ 42 rfl w.heap.size 5 i0 Tryz.underlying42 hi hz0 hz1 hz2 _ _ xs rfl rfl (hown.alloc _) (hbel.alloc hsz _) (by simp; omega) wr.heap.size 1 _ _ rfl (cell_new _ _ _) (byte_low m (by omega)) (by have := HL.out; omega) ?_)
      intro v' w2 hown2 hbel2
      have hcv := conv_own (P := Tryz.prog) (l := xs ++ [lowB m]) (n := xs.length + 1) 42 9 5 Tryz.underlying42 Tryz.underlying5 Tryz.underlying9 (by simp) (by simp) hown2
      go_wp2
      go_ret
      exact ⟨by rw [HV.out, varF_low f m (by omega)]; simp, hbel2⟩

end Num
end Go.Proofs.YtoifhcmgeackdaaGreatDoor

/-
  Contract of Fixed, the project's: the last bytes of the number, the highest first; the old memory stays.
-/
namespace Go.Proofs.YtoifhcmgeackdaaGreatDoor
open Go.RowKit
namespace Num

def zeroB (j : Nat) : List UInt8 := List.replicate j 0

theorem made_zero {w : World} {base g wd : Nat} {e : TypeId} (h : w.ownsRow base e 1 (.slice (some ⟨g, 0, none⟩) wd wd) wd (madeCells #[Value.int .u8 0] wd).toList) :
    w.ownsRow base e 1 (.slice (some ⟨g, 0, none⟩) wd wd) wd (bcells (zeroB wd ++ [])) := by
  rw [toList_madeCells_one] at h
  simpa [bcells, zeroB] using h

theorem zero_at {w : World} {base g wd p : Nat} {e : TypeId} {t : List UInt8} (h : w.ownsRow base e 1 (.slice (some ⟨g, 0, none⟩) wd wd) wd (bcells (zeroB (p + 1) ++ t))) (hp : p < wd) :
    w.cell? ⟨g, p, none⟩ = some (.int .u8 0) := by
  rw [h.cellAt p (by omega)]
  simp [bcells, zeroB, List.getElem?_append]

theorem zero_store {w : World} {base g wd p : Nat} {e : TypeId} {t : List UInt8} (m : Nat) (h : w.ownsRow base e 1 (.slice (some ⟨g, 0, none⟩) wd wd) wd (bcells (zeroB (p + 1) ++ t))) (_hp : p < wd) :
    (w.setCell ⟨g, p, none⟩ (.int .u8 ((m : Int) % 256))).ownsRow base e 1 (.slice (some ⟨g, 0, none⟩) wd wd) wd (bcells (zeroB p ++ lowB m :: t)) := by
  have h2 := (h.stored p (.int .u8 ((m : Int) % 256))).1
  have e1 : (bcells (zeroB (p + 1) ++ t)).set p (.int .u8 ((m : Int) % 256)) = bcells (zeroB p ++ lowB m :: t) := by
    have e2 : zeroB (p + 1) ++ t = zeroB p ++ (0 :: t) := by unfold zeroB; rw [List.replicate_succ']; simp
    have e3 : (m : Int) % 256 = ((lowB m).toNat : Int) := by rw [lowB_nat]; omega
    rw [e2, e3]
    have e4 : (zeroB p).length = p := by simp [zeroB]
    simp only [bcells, List.map_append, List.map_cons]
    rw [List.set_append_right _ _ (by simp [e4])]
    simp [e4]
  rw [e1] at h2
  exact h2

set_option maxRecDepth 100000 in
set_option maxHeartbeats 1000000 in
theorem fixed_any (n : Nat) (hn : n < 18446744073709551616) (width : Int) (w : World) :
    Calls Tryz.prog 146 #[.int .u64 n, .int .i64 width] w fun e w' => e = .returned (.string ⟨(fixF (clampW width) n).toArray⟩) ∧ Below w.heap.size w w' := by
  obtain ⟨i0, hi, hz0, hz1, hz2⟩ := info_parts Tryz.info5
  have hn' : (n : Int) ≤ 18446744073709551615 := by omega
  have HN := hid hn
  clear hn
  obtain ⟨wd, hwd⟩ : ∃ wd : Nat, wd = clampW width := ⟨_, rfl⟩
  have e : (if 8 < (if width < 1 then 1 else width) then 8 else (if width < 1 then 1 else width)) = (wd : Int) := clamp_if width wd hwd
  have hw1 : 1 ≤ wd := by rw [hwd]; exact clamp_pos width
  have hw8 : wd ≤ 8 := by rw [hwd]; exact clamp_le width
  rw [← hwd]
  clear hwd
  go_enter Tryz.func146, Tryz.ntmps146
  go_wp2_with (at_make; refine wpList_make_full _ rfl _ _ 42 rfl w.heap.size 5 i0 (.int .u8 0) 1 Tryz.underlying42 hi hz0 hz1 .i64 .i64 _ _ wd rfl rfl rfl rfl (by rw [hz2]; omega) (by unfold maxLen; omega) (Nat.le_refl _) ?_)
  all_goals
    intro w1 hown hgrow
    have hb1 : Below w.heap.size w w1 := (Below.refl _ _).grown hgrow (Nat.le_refl _) (fun k hk => by cases hk)
    have hown1 := made_zero hown
    clear hgrow hown
    go_wp2
    go_loopw [0, 6] (fun a i wr => ∃ (j m : Nat) (t : List UInt8), a = .int .u64 m ∧ i = .int .i64 ((j : Int) - 1) ∧ (m : Int) ≤ 18446744073709551615 ∧ t.length + j = wd ∧ fixF wd n = fixF j m ++ t ∧
        wr.ownsRow w.heap.size 5 1 (.slice (some ⟨w.heap.size, 0, none⟩) wd wd) wd (bcells (zeroB j ++ t)) ∧ Below w.heap.size w wr)
      (fun _ i _ => (intOf i + 1).toNat)
    case atStart => exact ⟨wd, n, [], rfl, rfl, hn', by simp, by simp, hown1, hb1⟩
    case round =>
      clear hown1 hb1
      obtain ⟨j, m, t, rfl, rfl, hm, hl, hv, hown, hbel⟩ := hrel
      have HV := hid hv
      have HL := hid hl
      clear hv hl
      cases j with
      | zero =>
        have hown2 : wr.ownsRow w.heap.size 5 1 (.slice (some ⟨w.heap.size, 0, none⟩) wd wd) wd (bcells t) := hown
        have hcv := conv_own (P := Tryz.prog) (l := t) (n := wd) 42 9 5 Tryz.underlying42 Tryz.underlying5 Tryz.underlying9 (by have := HL.out; omega) (by have := HL.out; omega) hown2
        clear hown hown2
        go_wp2
        go_ret
        exact ⟨by rw [HV.out]; rfl, hbel⟩
      | succ p =>
        have hp : p + 1 ≤ wd := by have := HL.out; omega
        have hc := zero_at hown (by omega)
        have hf := hown.frozenAt p
        have HS := hid (zero_store m hown (by omega))
        have HB := hid (hbel.setCell (p := ⟨w.heap.size, p, none⟩) (Nat.le_refl _) (.int .u8 ((m : Int) % 256)))
        have HO := hid hown
        clear hown
        rw [show ((p + 1 : Nat) : Int) - 1 = (p : Int) from by omega]
        go_wp2
        go_roundw
        case rel => exact ⟨p, m / 256, lowB m :: t, by simp, rfl, by omega, by have := HL.out; simp only [List.length_cons]; omega, by rw [HV.out, fixF]; simp [lowB], HS.out, HB.out⟩
        case measure => simp [intOf]

end Num
end Go.Proofs.YtoifhcmgeackdaaGreatDoor

/-
  Contracts of the reference's Fold and Unfold: what each call returns; the world stays.
-/
namespace Go.Proofs.YtoifhcmgeackdaaGreatDoor
open Go.RowKit
namespace Num

end Num
end Go.Proofs.YtoifhcmgeackdaaGreatDoor

/-
  Contract of the reference's Unvar: what each call returns; the world stays.
-/
namespace Go.Proofs.YtoifhcmgeackdaaGreatDoor
open Go.RowKit
namespace Num

theorem or_step_ref (acc k b : Nat) (hk : k ≤ 9) (ha : acc < 128 ^ k) (h9 : k = 9 → b ≤ 1) :
    bits .or .u64 (acc : Int) (IntKind.u64.wrap ((b : Int) % 128 * 2 ^ (7 * k))) = ((acc + b % 128 * 128 ^ k : Nat) : Int) := by
  have e : (b : Int) % 128 = ((b % 128 : Nat) : Int) := by omega
  rw [e]
  exact (or_step acc k (b % 128) hk ha (by omega) (by omega)).1

set_option maxRecDepth 100000 in
set_option maxHeartbeats 400000 in
theorem runvar_any (s : ByteArray) (w : World) (hs : s.size ≤ maxLen) :
    Calls Tryz.prog 123 #[.string s] w fun e w' => e = .returned (.tuple #[.int .u64 ((unvL 0 0 s.data.toList).1 : Nat), .int .i64 ((unvL 0 0 s.data.toList).2.1 : Nat), .int .i64 (unvL 0 0 s.data.toList).2.2]) ∧ w = w' := by
  replace hs : s.size ≤ 9223372036854775807 := by unfold maxLen at hs; omega
  go_enter Tryz.func123, Tryz.ntmps123
  go_wp2
  go_loop [5, 6] (fun a i => ∃ k acc : Nat, k ≤ s.size ∧ k ≤ 9 ∧ i = .int .i64 k ∧ a = .int .u64 acc ∧ acc < 128 ^ k ∧ unvL 0 0 s.data.toList = unvL k acc (s.data.toList.drop k)) (fun _ i => s.size - (intOf i).toNat)
  case atStart => exact ⟨0, 0, Nat.zero_le _, Nat.zero_le _, rfl, rfl, by decide, rfl⟩
  case round =>
    obtain ⟨k, acc, hk, hk9, rfl, rfl, hacc, hu⟩ := hrel
    have HU := hid hu
    clear hu
    have HA := hid hacc
    clear hacc
    by_cases hlt : k < s.size
    · have hby : (s[k].toNat : Int) ≤ 255 := by have := s[k].toNat_lt; omega
      have bad : (0 < k ∧ s[k].toNat = 0) ∨ (k = 9 ∧ 1 < s[k].toNat) → unvL 0 0 s.data.toList = (0, 0, 4) := fun h => by
        rw [HU.out, drop_at s k hlt, unvL, if_pos h]
      have last : ¬ ((0 < k ∧ s[k].toNat = 0) ∨ (k = 9 ∧ 1 < s[k].toNat)) → s[k].toNat < 128 → unvL 0 0 s.data.toList = (acc + s[k].toNat % 128 * 128 ^ k, k + 1, 0) := fun h h2 => by
        rw [HU.out, drop_at s k hlt, unvL, if_neg h, if_pos h2]
      have more : ¬ ((0 < k ∧ s[k].toNat = 0) ∨ (k = 9 ∧ 1 < s[k].toNat)) → ¬ s[k].toNat < 128 → unvL 0 0 s.data.toList = unvL (k + 1) (acc + s[k].toNat % 128 * 128 ^ k) (s.data.toList.drop (k + 1)) := fun h h2 => by
        rw [HU.out, drop_at s k hlt, unvL, if_neg h, if_neg h2]
      have HB := hid bad
      have HL := hid last
      have HM := hid more
      clear bad last more
      have ways : ((k : Int) = 9 ∧ 1 < (s[k].toNat : Int)) ∨ ((k : Int) = 9 ∧ (s[k].toNat : Int) ≤ 0) ∨ ((k : Int) = 9 ∧ 1 ≤ (s[k].toNat : Int) ∧ (s[k].toNat : Int) ≤ 1) ∨
          (1 ≤ k ∧ k ≤ 8 ∧ (s[k].toNat : Int) ≤ 0) ∨ (1 ≤ k ∧ k ≤ 8 ∧ 1 ≤ (s[k].toNat : Int) ∧ (s[k].toNat : Int) ≤ 127) ∨ (1 ≤ k ∧ k ≤ 8 ∧ 128 ≤ (s[k].toNat : Int)) ∨
          (k ≤ 0 ∧ (s[k].toNat : Int) ≤ 127) ∨ (k ≤ 0 ∧ 128 ≤ (s[k].toNat : Int)) := by omega
      rcases ways with ⟨c1, c2⟩ | ⟨c1, c2⟩ | ⟨c1, c2, c3⟩ | ⟨c1, c2, c3⟩ | ⟨c1, c2, c3, c4⟩ | ⟨c1, c2, c3⟩ | ⟨c1, c2⟩ | ⟨c1, c2⟩
      · have e0 : ((s[k].toNat : Int) == 0) = false := by simp; omega
        have e9 : ((k : Int) == 9) = true := by simpa using c1
        have k1 : 1 ≤ k := by omega
        have H9 := hid c1
        clear c1
        go_wp2
        have c1 := H9.out
        go_ret3
        rw [HB.out (by omega)]
        exact ⟨rfl, rfl⟩
      · have e0 : ((s[k].toNat : Int) == 0) = true := by simp; omega
        have e9 : ((k : Int) == 9) = true := by simpa using c1
        have k1 : 1 ≤ k := by omega
        have H9 := hid c1
        clear c1
        go_wp2
        have c1 := H9.out
        go_ret3
        rw [HB.out (by omega)]
        exact ⟨rfl, rfl⟩
      · have e0 : ((s[k].toNat : Int) == 0) = false := by simp; omega
        have e9 : ((k : Int) == 9) = true := by simpa using c1
        have k1 : 1 ≤ k := by omega
        have H9 := hid c1
        clear c1
        go_wp2
        have c1 := H9.out
        go_ret3
        rw [HL.out (by omega) (by omega)]
        exact ⟨ret_3 (or_step_ref acc k s[k].toNat hk9 HA.out (by omega)) (show (k : Int) + 1 = ((k + 1 : Nat) : Int) by omega) rfl, rfl⟩
      · have e0 : ((s[k].toNat : Int) == 0) = true := by simp; omega
        go_wp2
        go_ret3
        rw [HB.out (by omega)]
        exact ⟨rfl, rfl⟩
      · have e0 : ((s[k].toNat : Int) == 0) = false := by simp; omega
        go_wp2
        go_ret3
        rw [HL.out (by omega) (by omega)]
        exact ⟨ret_3 (or_step_ref acc k s[k].toNat hk9 HA.out (by omega)) (show (k : Int) + 1 = ((k + 1 : Nat) : Int) by omega) rfl, rfl⟩
      · have e0 : ((s[k].toNat : Int) == 0) = false := by simp; omega
        go_wp2
        go_round
        case rel => exact ⟨k + 1, _, by omega, by omega, by go_num, congrArg (Value.int .u64) (or_step_ref acc k s[k].toNat hk9 HA.out (by omega)), acc_lt _ _ _ HA.out, HM.out (by omega) (by omega)⟩
        case measure => simp [intOf]; omega
      · go_wp2
        go_ret3
        rw [HL.out (by omega) (by omega)]
        exact ⟨ret_3 (or_step_ref acc k s[k].toNat hk9 HA.out (by omega)) (show (k : Int) + 1 = ((k + 1 : Nat) : Int) by omega) rfl, rfl⟩
      · go_wp2
        go_round
        case rel => exact ⟨k + 1, _, by omega, by omega, by go_num, congrArg (Value.int .u64) (or_step_ref acc k s[k].toNat hk9 HA.out (by omega)), acc_lt _ _ _ HA.out, HM.out (by omega) (by omega)⟩
        case measure => simp [intOf]; omega
    · go_wp2
      go_ret3
      rw [HU.out, List.drop_of_length_le (by simp; omega)]
      exact ⟨rfl, rfl⟩

end Num
end Go.Proofs.YtoifhcmgeackdaaGreatDoor

/-
  Contract of the reference's Unfixed: what each call returns; the world stays.
-/
namespace Go.Proofs.YtoifhcmgeackdaaGreatDoor
open Go.RowKit
namespace Num

set_option maxRecDepth 100000 in
set_option maxHeartbeats 400000 in
theorem runfixed_any (s : ByteArray) (w : World) :
    Calls Tryz.prog 91 #[.string s] w fun e w' => e = .returned (.tuple #[.int .u64 ((unfixL s.data.toList).1 : Nat), .int .i64 (unfixL s.data.toList).2]) ∧ w = w' := by
  by_cases h1 : (s.size : Int) < 1
  · go_enter Tryz.func91, Tryz.ntmps91
    go_wp2
    go_ret2
    rw [unfix_no s (by omega)]
    exact ⟨rfl, rfl⟩
  · by_cases h8 : 8 < (s.size : Int)
    · go_enter Tryz.func91, Tryz.ntmps91
      go_wp2
      go_ret2
      rw [unfix_no s (by omega)]
      exact ⟨rfl, rfl⟩
    · go_enter Tryz.func91, Tryz.ntmps91
      go_wp2
      go_loop [4, 5] (fun a i => ∃ k acc : Nat, k ≤ s.size ∧ i = .int .i64 k ∧ a = .int .u64 acc ∧ acc < 256 ^ k ∧ unfF 0 s.data.toList = unfF acc (s.data.toList.drop k)) (fun _ i => s.size - (intOf i).toNat)
      case atStart => exact ⟨0, 0, Nat.zero_le _, rfl, rfl, by decide, rfl⟩
      case round =>
        obtain ⟨k, acc, hk, rfl, rfl, hacc, hu⟩ := hrel
        have HU := hid hu
        clear hu
        have HA := hid hacc
        clear hacc
        by_cases hlt : k < s.size
        · have hby : (s[k].toNat : Int) ≤ 255 := by have := s[k].toNat_lt; omega
          go_wp2
          go_round
          case rel => exact ⟨k + 1, _, by omega, by go_num, congrArg (Value.int .u64) (or_shift8 acc s[k].toNat (acc_small acc k HA.out (by omega)) s[k].toNat_lt), unf_step acc k s[k] HA.out, by rw [HU.out, drop_at s k hlt, unfF]⟩
          case measure => simp [intOf]; omega
        · go_wp2
          go_ret2
          rw [unfix_yes s (by omega) (by omega), HU.out, List.drop_of_length_le (by simp; omega)]
          exact ⟨rfl, rfl⟩

end Num
end Go.Proofs.YtoifhcmgeackdaaGreatDoor

/-
  Contract of the reference's Var: the bytes of the number; the old memory stays.
-/
namespace Go.Proofs.YtoifhcmgeackdaaGreatDoor
open Go.RowKit
namespace Num

theorem rbyte_more (m : Nat) : (m : Int) % 128 + 128 = ((moreB m).toNat : Int) := by rw [moreB_nat]; omega

set_option maxRecDepth 100000 in
set_option maxHeartbeats 1000000 in
theorem rvar_any (n : Nat) (hn : n < 18446744073709551616) (w : World) :
    Calls Tryz.prog 162 #[.int .u64 n] w fun e w' => e = .returned (.string ⟨(varB n).toArray⟩) ∧ Below w.heap.size w w' := by
  obtain ⟨i0, hi, hz0, hz1, hz2⟩ := info_parts Tryz.info5
  have hn' : (n : Int) ≤ 18446744073709551615 := by omega
  have HN := hid hn
  clear hn
  go_enter Tryz.func162, Tryz.ntmps162
  go_wp2
  go_loopw [0, 3] (fun a v wr => ∃ (f m : Nat) (xs : List UInt8), a = .int .u64 m ∧ (m : Int) ≤ 18446744073709551615 ∧ xs.length + f = 9 ∧ m < 2 * 128 ^ f ∧ varB n = xs ++ varF f m ∧ wr.ownsRow w.heap.size 5 1 v xs.length (bcells xs) ∧ Below w.heap.size w wr)
    (fun a _ _ => (intOf a).toNat)
  case atStart => exact ⟨9, n, [], rfl, hn', rfl, by have := HN.out; omega, rfl, World.ownsRow_made w #[] 0 (Nat.le_refl _) (by decide) rfl, (Below.refl _ _).alloc (Nat.le_refl _) _⟩
  case round =>
    obtain ⟨f, m, xs, rfl, hm, hl, hf, hv, hown, hbel⟩ := hrel
    have HV := hid hv
    have HF := hid hf
    have HL := hid hl
    clear hv hf hl
    have hsz := hbel.size
    by_cases hlt : 127 < (m : Int)
    · go_wp2_with (at_builtin; refine wpList_append_byte rfl _ _ 42 rfl w.heap.size 5 i0 Tryz.underlying42 hi hz0 hz1 hz2 _ _ xs rfl rfl (hown.alloc _) (hbel.alloc hsz _) (by simp; omega) wr.heap.size 1 _ _ rfl (cell_new _ _ _) (rbyte_more m) (by have := HL.out; omega) ?_)
      intro v' w2 hown2 hbel2
      go_wp2
      obtain ⟨f', h1, h2, h3⟩ := step_rel n m f xs HV.out HF.out HL.out (by omega)
      go_roundw
      case rel => exact ⟨f', m / 128, xs ++ [moreB m], by simp, by omega, h1, h2, h3, by rw [List.length_append]; exact hown2, hbel2⟩
      case measure => simp [intOf]; omega
    · go_wp2_with (at_builtin; refine wpList_append_byte rfl _ _ 42 rfl w.heap.size 5 i0 Tryz.underlying42 hi hz0 hz1 hz2 _ _ xs rfl rfl (hown.alloc _) (hbel.alloc hsz _) (by simp; omega) wr.heap.size 1 _ _ rfl (cell_new _ _ _) (byte_low m (by omega)) (by have := HL.out; omega) ?_)
      intro v' w2 hown2 hbel2
      have hcv := conv_own (P := Tryz.prog) (l := xs ++ [lowB m]) (n := xs.length + 1) 42 9 5 Tryz.underlying42 Tryz.underlying5 Tryz.underlying9 (by simp) (by simp) hown2
      go_wp2
      go_ret
      exact ⟨by rw [HV.out, varF_low f m (by omega)]; simp, hbel2⟩

end Num
end Go.Proofs.YtoifhcmgeackdaaGreatDoor

/-
  Contract of the reference's Fixed: the last bytes of the number, the highest first; the old memory stays.
-/
namespace Go.Proofs.YtoifhcmgeackdaaGreatDoor
open Go.RowKit
namespace Num

theorem fix_step (n wd p : Nat) (h : p < wd) : fixF (wd - p) (n / 256 ^ p) = fixF (wd - (p + 1)) (n / 256 ^ (p + 1)) ++ [lowB (n / 256 ^ p)] := by
  rw [show wd - p = (wd - (p + 1)) + 1 by omega, fixF, Nat.pow_succ, Nat.div_div_eq_div_mul]
  rfl

theorem byte_at (n p : Nat) : (n : Int) / 2 ^ (8 * p) % 256 = ((lowB (n / 256 ^ p)).toNat : Int) := by
  rw [lowB_nat, ← pow256]
  simp

set_option maxRecDepth 100000 in
set_option maxHeartbeats 1000000 in
theorem rfixed_any (n : Nat) (hn : n < 18446744073709551616) (width : Int) (w : World) :
    Calls Tryz.prog 118 #[.int .u64 n, .int .i64 width] w fun e w' => e = .returned (.string ⟨(fixF (clampW width) n).toArray⟩) ∧ Below w.heap.size w w' := by
  obtain ⟨i0, hi, hz0, hz1, hz2⟩ := info_parts Tryz.info5
  have hn' : (n : Int) ≤ 18446744073709551615 := by omega
  have HN := hid hn
  clear hn
  obtain ⟨wd, hwd⟩ : ∃ wd : Nat, wd = clampW width := ⟨_, rfl⟩
  have hw1 : 1 ≤ wd := by rw [hwd]; exact clamp_pos width
  have hw8 : wd ≤ 8 := by rw [hwd]; exact clamp_le width
  have e : width < 1 ∧ wd = 1 ∨ 8 < width ∧ wd = 8 ∨ ¬ width < 1 ∧ ¬ 8 < width ∧ width = (wd : Int) := by
    rw [hwd]; unfold clampW; split <;> (try split) <;> omega
  rw [← hwd]
  clear hwd
  have ways : (width < 1 ∧ Hid (wd = 1)) ∨ (8 < width ∧ Hid (wd = 8)) ∨ (1 ≤ width ∧ width ≤ 8 ∧ Hid (width = (wd : Int))) := by unfold Hid; omega
  clear e
  rcases ways with ⟨e, HW⟩ | ⟨e, HW⟩ | ⟨e1, e2, HW⟩
  all_goals
    go_enter Tryz.func118, Tryz.ntmps118
    go_wp2
    go_loopw [5, 6] (fun v i wr => ∃ (j : Nat), j ≤ wd ∧ i = .int .i64 ((j : Int) - 1) ∧
        wr.ownsRow w.heap.size 5 1 v (wd - j) (bcells (fixF (wd - j) (n / 256 ^ j))) ∧ Below w.heap.size w wr)
      (fun _ i _ => (intOf i + 1).toNat)
    case atStart => exact ⟨wd, Nat.le_refl _, by rw [HW.out] <;> rfl, by rw [Nat.sub_self]; exact World.ownsRow_made w #[] 0 (Nat.le_refl _) (by decide) rfl, (Below.refl _ _).alloc (Nat.le_refl _) _⟩
    case round =>
      obtain ⟨j, hj, rfl, hown, hbel⟩ := hrel
      have hsz := hbel.size
      cases j with
      | zero =>
        have hown2 : wr.ownsRow w.heap.size 5 1 u5 wd (bcells (fixF wd n)) := by simpa using hown
        have hcv := conv_own (P := Tryz.prog) (l := fixF wd n) (n := wd) 42 9 5 Tryz.underlying42 Tryz.underlying5 Tryz.underlying9 (by rw [fixF_length]) (by rw [fixF_length]; exact hw1) hown2
        clear hown hown2
        go_wp2
        go_ret
        exact ⟨rfl, hbel⟩
      | succ p =>
        have hp : p < wd := hj
        rw [show ((p + 1 : Nat) : Int) - 1 = (p : Int) from by omega]
        have HS := hid (fix_step n wd p hp)
        go_wp2_with (at_builtin; go_must (refine wpList_append_byte rfl _ _ 42 rfl w.heap.size 5 i0 Tryz.underlying42 hi hz0 hz1 hz2 _ _ (fixF (wd - (p + 1)) (n / 256 ^ (p + 1))) rfl (by rw [fixF_length]) (hown.alloc _) (hbel.alloc hsz _) (by simp; omega) wr.heap.size 1 _ _ rfl (cell_new _ _ _) (byte_at n p) (by rw [fixF_length]; omega) ?_))
        intro v' w2 hown2 hbel2
        rw [← HS.out, fixF_length, show wd - (p + 1) + 1 = wd - p from by omega] at hown2
        clear hown
        go_wp2
        go_roundw
        case rel => exact ⟨p, by omega, rfl, hown2, hbel2⟩
        case measure => simp [intOf]

end Num
end Go.Proofs.YtoifhcmgeackdaaGreatDoor

/-
  What layers above num want of it: numbers among bytes (fx, piece), a row of noughts, the reference's Full. Plain laws and small contracts.
-/
namespace Go.Proofs.YtoifhcmgeackdaaGreatDoor
open Go.RowKit
namespace Part
open Num (hid fixF unfF bcells)

/-- The number that the bytes from i on say, n of them. -/
def numAt (l : List UInt8) (i n : Nat) : Nat := unfF 0 ((l.drop i).take n)
theorem fix_unf (l : List UInt8) : fixF l.length (unfF 0 l) = l := by
  have key : ∀ r : List UInt8, fixF r.length (unfF 0 r.reverse) = r.reverse := by
    intro r
    induction r with
    | nil => rfl
    | cons b r ih =>
      have hb : b.toNat < 256 := b.toNat_lt
      rw [List.reverse_cons, Num.unfF_append, List.length_cons, fixF]
      have e1 : (unfF 0 r.reverse * 256 + b.toNat) / 256 = unfF 0 r.reverse := by omega
      have e2 : UInt8.ofNat (unfF 0 r.reverse * 256 + b.toNat) = b := by
        apply UInt8.toNat_inj.1
        rw [Num.ofNat_toNat]; omega
      rw [e1, e2, ih]
  have h := key l.reverse
  simpa using h
theorem unf_inj {l m : List UInt8} (h : l.length = m.length) (e : unfF 0 l = unfF 0 m) : l = m := by
  rw [← fix_unf l, ← fix_unf m, h, e]
theorem numAt_lt (l : List UInt8) (i n : Nat) : numAt l i n < 256 ^ n := by
  have h := Num.unfF_lt ((l.drop i).take n) 0
  have h2 : (256 : Nat) ^ ((l.drop i).take n).length ≤ 256 ^ n := Nat.pow_le_pow_right (by decide) (List.length_take_le _ _)
  unfold numAt
  omega
theorem mid (a b c : List UInt8) (i n : Nat) (hi : a.length = i) (hn : b.length = n) : ((a ++ (b ++ c)).drop i).take n = b := by
  subst hi; subst hn; simp
theorem part_back (l : List UInt8) (i n : Nat) (h : i + n ≤ l.length) : fixF n (numAt l i n) = (l.drop i).take n := by
  unfold numAt
  have e : ((l.drop i).take n).length = n := by simp; omega
  have := fix_unf ((l.drop i).take n)
  rwa [e] at this
theorem cut_take (l : List UInt8) (i n : Nat) : l.take (i + n) = l.take i ++ (l.drop i).take n := List.take_add
/-- A region that draws its order and whose calls make memory alone: one walk of the text's order, every operation quiet in the class C. -/
theorem wp_region_quiet_in {P : Program} {id : Nat} {Q : Exit → Act → World → Prop} {a : Act} {w : World} {l : List Oper} (C : World → Prop) (hm : P.follows .mixedOrders = true) (hB : Region.lexB .any l.toArray = true) (hC : C w.drew)
    (h : wpQuiet P l.toArray C (fun a' => ∀ w', C w' → Q .normal a' w') l a) : (Code.region id l.toArray true).wp P Q a w :=
  wp_region_quiet (C := C) hm hB hC (by simpa using h)
theorem cell_at {w : World} {b : Nat} {cs : Array Value} {t : TypeId} {f : Nat × Nat} (h : w.heap[b]? = some (.cells cs t f)) (j : Nat) : w.cell? ⟨b, j, none⟩ = cs[j]? := by simp [World.cell?, h]
/-- The bytes of a number, n of them: a name that a walk leaves closed. -/
def fx (n k : Nat) : ByteArray := ⟨(fixF n k).toArray⟩
theorem fx_list (n k : Nat) : (fx n k).data.toList = fixF n k := rfl
theorem fx_size (n k : Nat) : (fx n k).size = n := by show (fixF n k).toArray.size = n; simp [Num.fixF_length]
theorem fixed4 (n : Nat) (hn : n < 18446744073709551616) (w : World) :
    Calls Tryz.prog 146 #[.int .u64 n, .int .i64 4] w fun e w' => e = .returned (.string (fx 4 n)) ∧ Below w.heap.size w w' :=
  (Num.fixed_any n hn 4 w).mono fun _ _ h => h
theorem fixed8 (n : Nat) (hn : n < 18446744073709551616) (w : World) :
    Calls Tryz.prog 146 #[.int .u64 n, .int .i64 8] w fun e w' => e = .returned (.string (fx 8 n)) ∧ Below w.heap.size w w' :=
  (Num.fixed_any n hn 8 w).mono fun _ _ h => h
theorem rfixed4 (n : Nat) (hn : n < 18446744073709551616) (w : World) :
    Calls Tryz.prog 118 #[.int .u64 n, .int .i64 4] w fun e w' => e = .returned (.string (fx 4 n)) ∧ Below w.heap.size w w' :=
  (Num.rfixed_any n hn 4 w).mono fun _ _ h => h
theorem rfixed8 (n : Nat) (hn : n < 18446744073709551616) (w : World) :
    Calls Tryz.prog 118 #[.int .u64 n, .int .i64 8] w fun e w' => e = .returned (.string (fx 8 n)) ∧ Below w.heap.size w w' :=
  (Num.rfixed_any n hn 8 w).mono fun _ _ h => h
theorem u64_nat (k : Nat) (h : k < 18446744073709551616) : IntKind.u64.wrap (k : Int) = (k : Int) := by rw [Num.wrap_u]; omega
/-- The number that the bytes from i to j of a sector say: a name that a walk leaves closed. -/
def piece (s : ByteArray) (i j : Nat) : Nat := numAt s.data.toList i (j - i)
theorem piece_is (s : ByteArray) (i j : Nat) (hi : i < j) (h8 : j ≤ i + 8) (hj : j ≤ s.size) : Num.unfixL (s.extract i j).data.toList = (piece s i j, 0) := by
  have e : (s.extract i j).data.toList = (s.data.toList.drop i).take (j - i) := by
    simp [ByteArray.data_extract]
  unfold Num.unfixL piece numAt
  rw [e, if_pos (by simp; omega)]
theorem piece_lt (s : ByteArray) (i j : Nat) : piece s i j < 256 ^ (j - i) := numAt_lt _ _ _
theorem runfixed_at (s : ByteArray) (i j : Nat) (hi : i < j) (h8 : j ≤ i + 8) (hj : j ≤ s.size) (w : World) :
    Calls Tryz.prog 91 #[.string (s.extract i j)] w fun e w' => e = .returned (.tuple #[.int .u64 (piece s i j), .int .i64 0]) ∧ w = w' := by
  have hu := Num.runfixed_any (s.extract i j) w
  rw [piece_is s i j hi h8 hj] at hu
  exact hu.mono fun _ _ h => h
def zerosL (n : Nat) : List UInt8 := List.replicate n 0
def zerosS (n : Nat) : ByteArray := ⟨(zerosL n).toArray⟩
theorem zerosS_size (n : Nat) : (zerosS n).size = n := by show (zerosL n).toArray.size = n; simp [zerosL]
/-- A made row of noughts. -/
theorem make_row (w : World) (n : Nat) (hn : n ≤ 1000000) : ∃ w', (Instr.makeSlice 42 (.int .i64 (n : Int)) (.int .i64 (n : Int))).run Tryz.prog w = .ok (.slice (some ⟨w.heap.size, 0, none⟩) n n) w' ∧
    w'.ownsRow w.heap.size 5 1 (.slice (some ⟨w.heap.size, 0, none⟩) n n) n (bcells (zerosL n)) ∧ Below w.heap.size w w' := by
  obtain ⟨i, hi, h0, h1, h2⟩ := info_parts Num.Tryz.info5
  obtain ⟨w', hr, ho, hg⟩ := run_make_full (P := Tryz.prog) w w.heap.size 42 5 i _ 1 Tryz.underlying42 hi h0 h1 .i64 .i64 n (by rw [h2]; omega) (by unfold maxLen; omega) (Nat.le_refl _)
  rw [Nat.mul_one] at ho
  have hz := Num.made_zero ho
  rw [List.append_nil] at hz
  exact ⟨w', hr, hz, (Below.refl _ w).grown hg (Nat.le_refl _) (fun k hk => by cases hk)⟩
/-- string(make([]byte, n)) in two steps. -/
theorem make_conv (w : World) (n : Nat) (h1 : 1 ≤ n) (hn : n ≤ 1000000) : ∃ w', (Instr.makeSlice 42 (.int .i64 (n : Int)) (.int .i64 (n : Int))).run Tryz.prog w = .ok (.slice (some ⟨w.heap.size, 0, none⟩) n n) w' ∧
    (convert 42 9 (.slice (some ⟨w.heap.size, 0, none⟩) n n)).run Tryz.prog w' = .ok (.string (zerosS n)) w' ∧ Below w.heap.size w w' := by
  obtain ⟨w', hr, ho, hb⟩ := make_row w n hn
  exact ⟨w', hr, Num.conv_own (P := Tryz.prog) (l := zerosL n) (n := n) 42 9 5 Tryz.underlying42 Tryz.underlying5 Tryz.underlying9 (by simp [zerosL]) (by simp [zerosL]; omega) ho, hb⟩
def full (s : ByteArray) : ByteArray := if 232 ≤ s.size then s.extract 0 232 else s ++ zerosS (232 - s.size)
theorem full_size (s : ByteArray) : (full s).size = 232 := by
  unfold full
  split
  · rename_i h; rw [ByteArray.size_extract]; omega
  · rename_i h; rw [ByteArray.size_append, zerosS_size]; omega
set_option maxRecDepth 100000 in
set_option maxHeartbeats 400000 in
theorem full_any (s : ByteArray) (w : World) :
    Calls Tryz.prog 15 #[.string s] w fun e w' => e = .returned (.string (full s)) ∧ Below w.heap.size w w' := by
  by_cases h : 232 ≤ s.size
  · have hf : full s = s.extract 0 232 := if_pos h
    rw [hf]
    have h1 : (232 : Int) ≤ (s.size : Int) := by omega
    have h2 : 232 ≤ s.size := h
    clear h hf
    go_enter Tryz.func15, Tryz.ntmps15
    go_wp2
    go_ret
    exact ⟨rfl, Below.refl _ _⟩
  · have hf : full s = s ++ zerosS (232 - s.size) := if_neg h
    rw [hf]
    have h1 : ¬ (232 : Int) ≤ (s.size : Int) := by omega
    obtain ⟨w1, hmk, hcv, hb⟩ := make_conv w (232 - s.size) (by omega) (by omega)
    have e : (((232 - s.size : Nat) : Int)) = 232 - (s.size : Int) := by omega
    rw [e] at hmk
    have hz : ¬ 9223372036854775807 < s.size + (zerosS (232 - s.size)).size := by rw [zerosS_size]; omega
    clear h hf e
    go_enter Tryz.func15, Tryz.ntmps15
    go_wp2
    go_ret
    exact ⟨rfl, hb⟩
end Part
end Go.Proofs.YtoifhcmgeackdaaGreatDoor
