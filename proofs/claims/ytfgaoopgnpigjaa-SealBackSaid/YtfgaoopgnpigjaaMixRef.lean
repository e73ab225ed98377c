/-
  Contract of the reference's Sum: what each call returns; the world stays.
-/
import Derived.Test.YtfgaoopgnpigjaaMixSum
namespace Go.Proofs.Ytfgaoopgnpigjaa
open Go.RowKit
namespace Mix
open Num (hid)

set_option maxRecDepth 100000 in
theorem at_any (s : ByteArray) (i : Nat) (w : World) :
    Calls Try.prog 92 #[.string s, .int .i64 i] w fun e w' => e = .returned (.int .u64 (gb s.data.toList i : Nat)) ∧ w = w' := by
  by_cases h : i < s.size
  · have hby : (s[i].toNat : Int) ≤ 255 := by have := s[i].toNat_lt; omega
    go_enter Try.func92, Try.ntmps92
    go_wp2
    go_ret
    rw [gb_byte s i h]
    exact ⟨rfl, rfl⟩
  · go_enter Try.func92, Try.ntmps92
    go_wp2
    go_ret
    rw [gb_over _ _ (by simp; omega)]
    exact ⟨rfl, rfl⟩

theorem and_low (v : Int) (h0 : 0 ≤ v) (h1 : v < 18446744073709551616) : bits .and .u64 v 4294967295 = v % 4294967296 := by
  obtain ⟨n, rfl⟩ : ∃ n : Nat, v = n := ⟨v.toNat, by omega⟩
  have e1 : (BitVec.ofInt 64 (n : Int)).toNat = n := by
    rw [BitVec.ofInt_natCast, BitVec.toNat_ofNat]; exact Nat.mod_eq_of_lt (by omega)
  have e2 : (BitVec.ofInt 64 (4294967295 : Int)).toNat = 4294967295 := by decide +kernel
  show IntKind.u64.wrap ((BitVec.ofInt 64 (n : Int) &&& BitVec.ofInt 64 4294967295).toNat : Int) = _
  rw [BitVec.toNat_and, e1, e2, Num.wrap_u]
  have := Nat.and_two_pow_sub_one_eq_mod n 32
  rw [show (2 : Nat) ^ 32 - 1 = 4294967295 by decide, show (2 : Nat) ^ 32 = 4294967296 by decide] at this
  rw [this]
  omega
theorem or_at (a c m p : Nat) (hp : p = 2 ^ m) (ha : a < p) (h : a + c * p < 18446744073709551616) : bits .or .u64 ((c * p : Nat) : Int) (a : Int) = ((c * p + a : Nat) : Int) := by
  subst hp
  rw [Num.or_u64_nat _ _ (by omega) (by omega), Nat.or_comm, Num.or_add _ _ _ ha, Nat.add_comm]
theorem or_rot (v : Int) (h0 : 0 ≤ v) (h1 : v < 4294967296) : bits .or .u64 (v * 128) (v / 33554432) = v * 128 + v / 33554432 := by
  have h := or_at (v.toNat / 33554432) v.toNat 7 128 (by decide +kernel) (by omega) (by omega)
  have e1 : ((v.toNat * 128 : Nat) : Int) = v * 128 := by omega
  have e2 : ((v.toNat / 33554432 : Nat) : Int) = v / 33554432 := by omega
  have e3 : ((v.toNat * 128 + v.toNat / 33554432 : Nat) : Int) = v * 128 + v / 33554432 := by omega
  rw [e1, e2, e3] at h
  exact h
theorem or_g1 (a b : Nat) (ha : a < 256) (hb : b < 256) : bits .or .u64 ((a : Int) * 16777216) ((b : Int) * 65536) = (a : Int) * 16777216 + (b : Int) * 65536 := by
  have h := or_at (b * 65536) a 24 16777216 (by decide +kernel) (by omega) (by omega)
  rw [Int.natCast_mul, Int.natCast_mul, Int.natCast_add, Int.natCast_mul, Int.natCast_mul] at h
  exact h
theorem or_g2 (a b c : Nat) (ha : a < 256) (hb : b < 256) (hc : c < 256) : bits .or .u64 ((a : Int) * 16777216 + (b : Int) * 65536) ((c : Int) * 256) = (a : Int) * 16777216 + (b : Int) * 65536 + (c : Int) * 256 := by
  have h := or_at (c * 256) (a * 256 + b) 16 65536 (by decide +kernel) (by omega) (by omega)
  have e1 : (((a * 256 + b) * 65536 : Nat) : Int) = (a : Int) * 16777216 + (b : Int) * 65536 := by omega
  have e2 : ((c * 256 : Nat) : Int) = (c : Int) * 256 := Int.natCast_mul c 256
  rw [Int.natCast_add, e1, e2] at h
  exact h
theorem or_g3 (a b c d : Nat) (ha : a < 256) (hb : b < 256) (hc : c < 256) (hd : d < 256) : bits .or .u64 ((a : Int) * 16777216 + (b : Int) * 65536 + (c : Int) * 256) (d : Int) = (a : Int) * 16777216 + (b : Int) * 65536 + (c : Int) * 256 + (d : Int) := by
  have h := or_at d (a * 65536 + b * 256 + c) 8 256 (by decide +kernel) (by omega) (by omega)
  have e1 : (((a * 65536 + b * 256 + c) * 256 : Nat) : Int) = (a : Int) * 16777216 + (b : Int) * 65536 + (c : Int) * 256 := by omega
  rw [Int.natCast_add, e1] at h
  exact h

/-- What the walk shows of the upper half behind a group, and of the lower one. -/
def upw (A B x : Int) : Int := bits .and .u64 (A + x + B) 4294967295
def low (B x u : Int) : Int := bits .and .u64 (IntKind.u64.wrap (B + x + u)) 4294967295
theorem upw_is (A B x : Nat) (hA : A < 4294967296) (hB : B < 4294967296) (hx : x < 4294967296) : upw A B x = ((stA A B x : Nat) : Int) := by
  unfold upw stA
  rw [and_low _ (by omega) (by omega)]
  omega
theorem low_is (A B x : Nat) : low B x ((stA A B x : Nat) : Int) = (((B + x + stA A B x) % 4294967296 : Nat) : Int) := by
  have := stA_lt A B x
  unfold low
  rw [Num.wrap_u, and_low _ (by omega) (by omega)]
  omega
theorem rot_is (v : Nat) (hv : v < 4294967296) : bits .and .u64 (bits .or .u64 (IntKind.u64.wrap ((v : Int) * 128)) ((v : Int) / 33554432)) 4294967295 = ((rotl7 v : Nat) : Int) := by
  have e : IntKind.u64.wrap ((v : Int) * 128) = (v : Int) * 128 := by rw [Num.wrap_u]; omega
  rw [e, or_rot _ (by omega) (by omega), and_low _ (by omega) (by omega)]
  unfold rotl7
  omega
theorem grp_c {l : List UInt8} {i c0 c1 c2 c3 : Nat} (h0 : gb l i = c0) (h1 : gb l (i + 1) = c1) (h2 : gb l (i + 2) = c2) (h3 : gb l (i + 3) = c3) :
    (c0 : Int) * 16777216 + (c1 : Int) * 65536 + (c2 : Int) * 256 + (c3 : Int) = ((grp l i : Nat) : Int) := by
  unfold grp; rw [h0, h1, h2, h3]; omega
theorem upw_at (A B : Nat) (x : Int) (l : List UInt8) (i : Nat) (hA : A < 4294967296) (hB : B < 4294967296) (hx : x = ((grp l i : Nat) : Int)) :
    bits .and .u64 ((A : Int) + x + (B : Int)) 4294967295 = ((stA A B (grp l i) : Nat) : Int) := by
  subst hx; exact upw_is A B _ hA hB (grp_lt _ _)
theorem low_at (A B : Nat) (x : Int) (l : List UInt8) (i : Nat) (hA : A < 4294967296) (hB : B < 4294967296) (hx : x = ((grp l i : Nat) : Int)) :
    bits .and .u64 (bits .or .u64 (IntKind.u64.wrap (bits .and .u64 (IntKind.u64.wrap ((B : Int) + x + bits .and .u64 ((A : Int) + x + (B : Int)) 4294967295)) 4294967295 * 128))
      (bits .and .u64 (IntKind.u64.wrap ((B : Int) + x + bits .and .u64 ((A : Int) + x + (B : Int)) 4294967295)) 4294967295 / 33554432)) 4294967295 = ((stB A B (grp l i) : Nat) : Int) := by
  have e := low_is A B (grp l i)
  unfold low at e
  rw [upw_at A B x l i hA hB hx, hx, e]
  exact rot_is _ (by omega)

theorem or_two (a b : Nat) (ha : a < 4294967296) (hb : b < 4294967296) : bits .or .u64 ((a : Int) * 4294967296) (b : Int) = ((a * 4294967296 + b : Nat) : Int) := by
  have h := or_at b a 32 4294967296 (by decide +kernel) hb (by omega)
  rw [Int.natCast_mul] at h
  exact h

theorem at_c (s : ByteArray) (i c : Nat) (j : Int) (hj : j = (i : Int)) (hc : gb s.data.toList i = c) (w : World) :
    Calls Try.prog 92 #[.string s, .int .i64 j] w fun e w' => e = .returned (.int .u64 c) ∧ w = w' := by
  subst hj; subst hc; exact at_any s i w

set_option maxRecDepth 100000 in
set_option maxHeartbeats 800000 in
theorem rsum_any (n : Nat) (hn : n < 18446744073709551616) (s : ByteArray) (hs : s.size ≤ 1000000000000000) (w : World) :
    Calls Try.prog 51 #[.int .u64 n, .string s] w fun e w' => e = .returned (.int .u64 (sumN n s.data.toList : Nat)) ∧ w = w' := by
  have hn0 : bits .and .u64 (n : Int) 4294967295 = (n : Int) % 4294967296 := and_low _ (by omega) (by omega)
  go_enter Try.func51, Try.ntmps51
  go_wp2
  go_loop [5, 6, 7] (fun a b i => ∃ k A B : Nat, k ≤ (s.size + 3) / 4 ∧ i = .int .i64 (4 * k : Nat) ∧ a = .int .u64 A ∧ b = .int .u64 B ∧ A < 4294967296 ∧ B < 4294967296 ∧ st (n / 4294967296) (n % 4294967296) s.data.toList k = (A, B)) (fun _ _ i => s.size + 4 - (intOf i).toNat)
  case atStart => exact ⟨0, n / 4294967296, n % 4294967296, Nat.zero_le _, rfl, by go_num, by go_num, by omega, by omega, rfl⟩
  case round =>
    obtain ⟨k, A, B, hk, rfl, rfl, rfl, hA, hB, hst⟩ := hrel
    have HS := hid hst
    clear hst
    by_cases hlt : 4 * k < s.size
    · obtain ⟨c0, g0, h0⟩ : ∃ c, gb s.data.toList (4 * k) = c ∧ c < 256 := ⟨_, rfl, gb_lt _ _⟩
      obtain ⟨c1, g1, h1⟩ : ∃ c, gb s.data.toList (4 * k + 1) = c ∧ c < 256 := ⟨_, rfl, gb_lt _ _⟩
      obtain ⟨c2, g2, h2⟩ : ∃ c, gb s.data.toList (4 * k + 2) = c ∧ c < 256 := ⟨_, rfl, gb_lt _ _⟩
      obtain ⟨c3, g3, h3⟩ : ∃ c, gb s.data.toList (4 * k + 3) = c ∧ c < 256 := ⟨_, rfl, gb_lt _ _⟩
      have o1 := or_g1 c0 c1 h0 h1
      have o2 := or_g2 c0 c1 c2 h0 h1 h2
      have o3 := or_g3 c0 c1 c2 c3 h0 h1 h2 h3
      have G0 := hid g0; have G1 := hid g1; have G2 := hid g2; have G3 := hid g3
      clear g0 g1 g2 g3
      go_wp2_with fail
      refine (at_c s (4 * k) c0 _ (by omega) G0.out _).mono ?_
      rintro e w1 ⟨rfl, rfl⟩
      go_wp2_with fail
      refine (at_c s (4 * k + 1) c1 _ (by omega) G1.out _).mono ?_
      rintro e w1 ⟨rfl, rfl⟩
      go_wp2_with fail
      refine (at_c s (4 * k + 2) c2 _ (by omega) G2.out _).mono ?_
      rintro e w1 ⟨rfl, rfl⟩
      go_wp2_with fail
      refine (at_c s (4 * k + 3) c3 _ (by omega) G3.out _).mono ?_
      rintro e w1 ⟨rfl, rfl⟩
      go_wp2_with fail
      go_round
      case rel =>
        have hx := grp_c G0.out G1.out G2.out G3.out
        exact ⟨k + 1, _, _, by omega, by go_num, congrArg (Value.int .u64) (upw_at A B _ _ _ hA hB hx), congrArg (Value.int .u64) (low_at A B _ _ _ hA hB hx), stA_lt _ _ _, stB_lt _ _ _, by rw [st, HS.out]⟩
      case measure => simp [intOf]; omega
    · go_wp2
      go_ret
      obtain rfl : k = (s.size + 3) / 4 := by omega
      have e : sumN n s.data.toList = A * 4294967296 + B := by
        have e1 : s.data.toList.length = s.size := by simp
        unfold sumN
        rw [e1, HS.out]
        rfl
      rw [e]
      exact ⟨Num.ret_u (or_two A B hA hB), rfl⟩

end Mix
end Go.Proofs.Ytfgaoopgnpigjaa
