/-
  Contract of the reference's Unvar: what each call returns; the world stays.
-/
import Derived.Test.YtfopgnofnckgaaaNumUnvar
namespace Go.Proofs.Ytfopgnofnckgaaa
open Go.RowKit
namespace Num

theorem or_step_ref (acc k b : Nat) (hk : k ≤ 9) (ha : acc < 128 ^ k) (h9 : k = 9 → b ≤ 1) :
    bits .or .u64 (acc : Int) (IntKind.u64.wrap ((b : Int) % 128 * 2 ^ (7 * k))) = ((acc + b % 128 * 128 ^ k : Nat) : Int) := by
  have e : (b : Int) % 128 = ((b % 128 : Nat) : Int) := by omega
  rw [e]
  exact (or_step acc k (b % 128) hk ha (by omega) (by omega)).1

set_option maxRecDepth 100000 in
set_option maxHeartbeats 400000 in
theorem runvar_any (s : ByteArray) (w : World) (hs : s.size ≤ maxLen) :
    Calls Try.prog 19 #[.string s] w fun e w' => e = .returned (.tuple #[.int .u64 ((unvL 0 0 s.data.toList).1 : Nat), .int .i64 ((unvL 0 0 s.data.toList).2.1 : Nat), .int .i64 (unvL 0 0 s.data.toList).2.2]) ∧ w = w' := by
  replace hs : s.size ≤ 9223372036854775807 := by unfold maxLen at hs; omega
  go_enter Try.func19, Try.ntmps19
  go_wp2
  go_loop [5, 6] (fun a i => ∃ k acc : Nat, k ≤ s.size ∧ k ≤ 9 ∧ i = .int .i64 k ∧ a = .int .u64 acc ∧ acc < 128 ^ k ∧ unvL 0 0 s.data.toList = unvL k acc (s.data.toList.drop k)) (fun _ i => s.size - (intOf i).toNat)
  case atStart => exact ⟨0, 0, Nat.zero_le _, Nat.zero_le _, rfl, rfl, by decide, rfl⟩
  case round =>
    obtain ⟨k, acc, hk, hk9, rfl, rfl, hacc, hu⟩ := hrel
    have HU := hid hu
    clear hu
    have HA := hid hacc
    clear hacc
    by_cases hlt : k < s.size
    · have hby : (s[k].toNat : Int) ≤ 255 := by have := s[k].toNat_lt; omega
      have bad : (0 < k ∧ s[k].toNat = 0) ∨ (k = 9 ∧ 1 < s[k].toNat) → unvL 0 0 s.data.toList = (0, 0, 4) := fun h => by
        rw [HU.out, drop_at s k hlt, unvL, if_pos h]
      have last : ¬ ((0 < k ∧ s[k].toNat = 0) ∨ (k = 9 ∧ 1 < s[k].toNat)) → s[k].toNat < 128 → unvL 0 0 s.data.toList = (acc + s[k].toNat % 128 * 128 ^ k, k + 1, 0) := fun h h2 => by
        rw [HU.out, drop_at s k hlt, unvL, if_neg h, if_pos h2]
      have more : ¬ ((0 < k ∧ s[k].toNat = 0) ∨ (k = 9 ∧ 1 < s[k].toNat)) → ¬ s[k].toNat < 128 → unvL 0 0 s.data.toList = unvL (k + 1) (acc + s[k].toNat % 128 * 128 ^ k) (s.data.toList.drop (k + 1)) := fun h h2 => by
        rw [HU.out, drop_at s k hlt, unvL, if_neg h, if_neg h2]
      have HB := hid bad
      have HL := hid last
      have HM := hid more
      clear bad last more
      have ways : ((k : Int) = 9 ∧ 1 < (s[k].toNat : Int)) ∨ ((k : Int) = 9 ∧ (s[k].toNat : Int) ≤ 0) ∨ ((k : Int) = 9 ∧ 1 ≤ (s[k].toNat : Int) ∧ (s[k].toNat : Int) ≤ 1) ∨
          (1 ≤ k ∧ k ≤ 8 ∧ (s[k].toNat : Int) ≤ 0) ∨ (1 ≤ k ∧ k ≤ 8 ∧ 1 ≤ (s[k].toNat : Int) ∧ (s[k].toNat : Int) ≤ 127) ∨ (1 ≤ k ∧ k ≤ 8 ∧ 128 ≤ (s[k].toNat : Int)) ∨
          (k ≤ 0 ∧ (s[k].toNat : Int) ≤ 127) ∨ (k ≤ 0 ∧ 128 ≤ (s[k].toNat : Int)) := by omega
      rcases ways with ⟨c1, c2⟩ | ⟨c1, c2⟩ | ⟨c1, c2, c3⟩ | ⟨c1, c2, c3⟩ | ⟨c1, c2, c3, c4⟩ | ⟨c1, c2, c3⟩ | ⟨c1, c2⟩ | ⟨c1, c2⟩
      · have e0 : ((s[k].toNat : Int) == 0) = false := by simp; omega
        have e9 : ((k : Int) == 9) = true := by simpa using c1
        have k1 : 1 ≤ k := by omega
        have H9 := hid c1
        clear c1
        go_wp2
        have c1 := H9.out
        go_ret3
        rw [HB.out (by omega)]
        exact ⟨rfl, rfl⟩
      · have e0 : ((s[k].toNat : Int) == 0) = true := by simp; omega
        have e9 : ((k : Int) == 9) = true := by simpa using c1
        have k1 : 1 ≤ k := by omega
        have H9 := hid c1
        clear c1
        go_wp2
        have c1 := H9.out
        go_ret3
        rw [HB.out (by omega)]
        exact ⟨rfl, rfl⟩
      · have e0 : ((s[k].toNat : Int) == 0) = false := by simp; omega
        have e9 : ((k : Int) == 9) = true := by simpa using c1
        have k1 : 1 ≤ k := by omega
        have H9 := hid c1
        clear c1
        go_wp2
        have c1 := H9.out
        go_ret3
        rw [HL.out (by omega) (by omega)]
        exact ⟨ret_3 (or_step_ref acc k s[k].toNat hk9 HA.out (by omega)) (show (k : Int) + 1 = ((k + 1 : Nat) : Int) by omega) rfl, rfl⟩
      · have e0 : ((s[k].toNat : Int) == 0) = true := by simp; omega
        go_wp2
        go_ret3
        rw [HB.out (by omega)]
        exact ⟨rfl, rfl⟩
      · have e0 : ((s[k].toNat : Int) == 0) = false := by simp; omega
        go_wp2
        go_ret3
        rw [HL.out (by omega) (by omega)]
        exact ⟨ret_3 (or_step_ref acc k s[k].toNat hk9 HA.out (by omega)) (show (k : Int) + 1 = ((k + 1 : Nat) : Int) by omega) rfl, rfl⟩
      · have e0 : ((s[k].toNat : Int) == 0) = false := by simp; omega
        go_wp2
        go_round
        case rel => exact ⟨k + 1, _, by omega, by omega, by go_num, congrArg (Value.int .u64) (or_step_ref acc k s[k].toNat hk9 HA.out (by omega)), acc_lt _ _ _ HA.out, HM.out (by omega) (by omega)⟩
        case measure => simp [intOf]; omega
      · go_wp2
        go_ret3
        rw [HL.out (by omega) (by omega)]
        exact ⟨ret_3 (or_step_ref acc k s[k].toNat hk9 HA.out (by omega)) (show (k : Int) + 1 = ((k + 1 : Nat) : Int) by omega) rfl, rfl⟩
      · go_wp2
        go_round
        case rel => exact ⟨k + 1, _, by omega, by omega, by go_num, congrArg (Value.int .u64) (or_step_ref acc k s[k].toNat hk9 HA.out (by omega)), acc_lt _ _ _ HA.out, HM.out (by omega) (by omega)⟩
        case measure => simp [intOf]; omega
    · go_wp2
      go_ret3
      rw [HU.out, List.drop_of_length_le (by simp; omega)]
      exact ⟨rfl, rfl⟩

end Num
end Go.Proofs.Ytfopgnofnckgaaa
