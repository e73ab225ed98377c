/-
  Contract of the reference's Unfixed: what each call returns; the world stays.
-/
import Derived.Test.YtkoglikaaehhjaaNumUnfixed
namespace Go.Proofs.Ytkoglikaaehhjaa
open Go.RowKit
namespace Num

set_option maxRecDepth 100000 in
set_option maxHeartbeats 400000 in
theorem runfixed_any (s : ByteArray) (w : World) :
    Calls Try.prog 31 #[.string s] w fun e w' => e = .returned (.tuple #[.int .u64 ((unfixL s.data.toList).1 : Nat), .int .i64 (unfixL s.data.toList).2]) ∧ w = w' := by
  by_cases h1 : (s.size : Int) < 1
  · go_enter Try.func31, Try.ntmps31
    go_wp2
    go_ret2
    rw [unfix_no s (by omega)]
    exact ⟨rfl, rfl⟩
  · by_cases h8 : 8 < (s.size : Int)
    · go_enter Try.func31, Try.ntmps31
      go_wp2
      go_ret2
      rw [unfix_no s (by omega)]
      exact ⟨rfl, rfl⟩
    · go_enter Try.func31, Try.ntmps31
      go_wp2
      go_loop [4, 5] (fun a i => ∃ k acc : Nat, k ≤ s.size ∧ i = .int .i64 k ∧ a = .int .u64 acc ∧ acc < 256 ^ k ∧ unfF 0 s.data.toList = unfF acc (s.data.toList.drop k)) (fun _ i => s.size - (intOf i).toNat)
      case atStart => exact ⟨0, 0, Nat.zero_le _, rfl, rfl, by decide, rfl⟩
      case round =>
        obtain ⟨k, acc, hk, rfl, rfl, hacc, hu⟩ := hrel
        have HU := hid hu
        clear hu
        have HA := hid hacc
        clear hacc
        by_cases hlt : k < s.size
        · have hby : (s[k].toNat : Int) ≤ 255 := by have := s[k].toNat_lt; omega
          go_wp2
          go_round
          case rel => exact ⟨k + 1, _, by omega, by go_num, congrArg (Value.int .u64) (or_shift8 acc s[k].toNat (acc_small acc k HA.out (by omega)) s[k].toNat_lt), unf_step acc k s[k] HA.out, by rw [HU.out, drop_at s k hlt, unfF]⟩
          case measure => simp [intOf]; omega
        · go_wp2
          go_ret2
          rw [unfix_yes s (by omega) (by omega), HU.out, List.drop_of_length_le (by simp; omega)]
          exact ⟨rfl, rfl⟩

end Num
end Go.Proofs.Ytkoglikaaehhjaa
