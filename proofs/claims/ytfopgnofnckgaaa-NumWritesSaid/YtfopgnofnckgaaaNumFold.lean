/-
  Contracts of Fold and Unfold, the project's and the reference's: what each call returns; the world stays.
-/
import Derived.Test.YtfopgnofnckgaaaProg
import Derived.Test.YtfopgnofnckgaaaNumMath
import Derived.Test.YtfopgnofnckgaaaNumBits
namespace Go.Proofs.Ytfopgnofnckgaaa
open Go.RowKit
namespace Num


theorem not_u64 (x : Int) (h0 : 0 ≤ x) (h1 : x ≤ 18446744073709551615) : bits .xor .u64 IntKind.u64.max x = 18446744073709551615 - x := by
  obtain ⟨n, rfl⟩ := Int.eq_ofNat_of_zero_le h0
  have e : IntKind.u64.max = ((18446744073709551615 : Nat) : Int) := by decide
  rw [e, bits_xor_u64_nat _ _ (by decide) (by omega)]
  have hb : (18446744073709551615 : Nat) ^^^ n = 18446744073709551615 - n := by
    have h2 : n < 2 ^ 64 := by omega
    apply Nat.eq_of_testBit_eq
    intro j
    rw [Nat.testBit_xor, show (18446744073709551615 : Nat) = 2 ^ 64 - 1 by decide, Nat.testBit_two_pow_sub_one]
    rw [show (2 ^ 64 - 1 - n) = 2 ^ 64 - (n + 1) by omega, Nat.testBit_two_pow_sub_succ h2]
    by_cases hj : j < 64
    · simp [hj]
    · have : n.testBit j = false := Nat.testBit_lt_two_pow (Nat.lt_of_lt_of_le h2 (Nat.pow_le_pow_right (by decide) (by omega)))
      simp [hj, this]
  rw [hb]
  omega

theorem fold_a (n : Int) (h0 : 0 ≤ n) (h1 : n ≤ 9223372036854775807) : IntKind.u64.wrap (IntKind.u64.wrap n * 2) = foldI n := by
  unfold foldI; rw [wrap_u, wrap_u, if_pos h0]; omega
theorem fold_b (n : Int) (h0 : n < 0) (h1 : -9223372036854775808 ≤ n) : bits .xor .u64 IntKind.u64.max (IntKind.u64.wrap (IntKind.u64.wrap n * 2)) = foldI n := by
  have e : IntKind.u64.wrap (IntKind.u64.wrap n * 2) = 2 * n + 18446744073709551616 := by rw [wrap_u, wrap_u]; omega
  rw [e, not_u64 _ (by omega) (by omega)]
  unfold foldI; rw [if_neg (by omega)]; omega
theorem unfold_a (n : Int) (h : (bits .and .u64 n 1 != 0) = false) (h0 : 0 ≤ n) (h1 : n ≤ 18446744073709551615) : n / 2 = unfoldI n := by
  rw [and_one_u64 n h0 h1] at h; unfold unfoldI; rw [if_pos (by simpa using h)]
theorem unfold_b (n : Int) (h : (bits .and .u64 n 1 != 0) = true) (h0 : 0 ≤ n) (h1 : n ≤ 18446744073709551615) : wrap64 (bits .xor .u64 IntKind.u64.max (n / 2)) = unfoldI n := by
  rw [and_one_u64 n h0 h1] at h; rw [not_u64 _ (by omega) (by omega), wrap_i]
  unfold unfoldI; rw [if_neg (by simpa using h)]; omega

set_option maxHeartbeats 400000 in
theorem fold_any (n : Int) (h1 : -9223372036854775808 ≤ n) (h2 : n ≤ 9223372036854775807) (w : World) :
    Calls Try.prog 14 #[.int .i64 n] w fun e w' => e = .returned (.int .u64 (foldI n)) ∧ w = w' := by
  go_enter Try.func14, Try.ntmps14
  go_wp2
  · go_ret
    exact ⟨ret_u (fold_b n (by assumption) h1), rfl⟩
  · go_ret
    exact ⟨ret_u (fold_a n (by assumption) h2), rfl⟩

set_option maxHeartbeats 400000 in
theorem unfold_any (n : Int) (h1 : 0 ≤ n) (h2 : n ≤ 18446744073709551615) (w : World) :
    Calls Try.prog 16 #[.int .u64 n] w fun e w' => e = .returned (.int .i64 (unfoldI n)) ∧ w = w' := by
  go_enter Try.func16, Try.ntmps16
  go_wp2
  · go_ret
    exact ⟨ret_u (unfold_b n (by assumption) h1 h2), rfl⟩
  · go_ret
    exact ⟨ret_u (unfold_a n (by assumption) h1 h2), rfl⟩

end Num
end Go.Proofs.Ytfopgnofnckgaaa
