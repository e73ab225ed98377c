/-
  Contracts of Unvar and of cannotStand, the project's: what each call returns; the world stays.
-/
import Derived.Test.YtiellodbkanciaaDoorNumFold
namespace Go.Proofs.YtiellodbkanciaaDoor
open Go.RowKit
namespace Num

set_option maxHeartbeats 400000 in
theorem cannot_yes (b i : Int) (w : World) (h : (0 < i ∧ b = 0) ∨ (i = 9 ∧ 1 < b)) :
    Calls Tryd.prog 75 #[.int .u8 b, .int .i64 i] w fun e w' => e = .returned (.bool true) ∧ w = w' := by
  rcases h with ⟨h1, h2⟩ | ⟨h1, h2⟩
  · subst h2
    go_enter Tryd.func75, Tryd.ntmps75
    go_wp2
    go_ret
    exact ⟨rfl, rfl⟩
  · subst h1
    have hb : (b == 0) = false := by simp; omega
    go_enter Tryd.func75, Tryd.ntmps75
    go_wp2
    go_ret
    exact ⟨rfl, rfl⟩

set_option maxHeartbeats 400000 in
theorem cannot_no (b i : Int) (w : World) (h : ¬ ((0 < i ∧ b = 0) ∨ (i = 9 ∧ 1 < b))) :
    Calls Tryd.prog 75 #[.int .u8 b, .int .i64 i] w fun e w' => e = .returned (.bool false) ∧ w = w' := by
  by_cases h9 : i = 9
  · subst h9
    have hb : (b == 0) = false := by simp; omega
    have hc : decide (1 < b) = false := by simp; omega
    clear h
    go_enter Tryd.func75, Tryd.ntmps75
    go_wp2
    go_ret
    exact ⟨rfl, rfl⟩
  · have h9' : (i == 9) = false := by simpa using h9
    by_cases h0 : 0 < i
    · have hb : (b == 0) = false := by simp; omega
      clear h h9
      go_enter Tryd.func75, Tryd.ntmps75
      go_wp2
      go_ret
      exact ⟨rfl, rfl⟩
    · have h0' : i ≤ 0 := by omega
      clear h h9 h0
      go_enter Tryd.func75, Tryd.ntmps75
      go_wp2
      go_ret
      exact ⟨rfl, rfl⟩

theorem ret_3 {k1 k2 k3 : IntKind} {a1 b1 a2 b2 a3 b3 : Int} (h1 : a1 = b1) (h2 : a2 = b2) (h3 : a3 = b3) :
    Ending.returned (.tuple #[.int k1 a1, .int k2 a2, .int k3 a3]) = .returned (.tuple #[.int k1 b1, .int k2 b2, .int k3 b3]) := by rw [h1, h2, h3]

set_option maxRecDepth 100000 in
set_option maxHeartbeats 400000 in
theorem unvar_any (s : ByteArray) (w : World) (hs : s.size ≤ maxLen) :
    Calls Tryd.prog 61 #[.string s] w fun e w' => e = .returned (.tuple #[.int .u64 ((unvL 0 0 s.data.toList).1 : Nat), .int .i64 ((unvL 0 0 s.data.toList).2.1 : Nat), .int .i64 (unvL 0 0 s.data.toList).2.2]) ∧ w = w' := by
  replace hs : s.size ≤ 9223372036854775807 := by unfold maxLen at hs; omega
  go_enter Tryd.func61, Tryd.ntmps61
  go_wp2
  go_loop [5, 10] (fun a i => ∃ k acc : Nat, k ≤ s.size ∧ k ≤ 9 ∧ i = .int .i64 k ∧ a = .int .u64 acc ∧ acc < 128 ^ k ∧ unvL 0 0 s.data.toList = unvL k acc (s.data.toList.drop k)) (fun _ i => s.size - (intOf i).toNat)
  case atStart => exact ⟨0, 0, Nat.zero_le _, Nat.zero_le _, rfl, rfl, by decide, rfl⟩
  case round =>
    obtain ⟨k, acc, hk, hk9, rfl, rfl, hacc, hu⟩ := hrel
    have HU := hid hu
    clear hu
    by_cases hlt : k < s.size
    · by_cases hbad : (0 < (k : Int) ∧ (s[k].toNat : Int) = 0) ∨ ((k : Int) = 9 ∧ 1 < (s[k].toNat : Int))
      · have HB := hid hbad
        clear hbad
        go_wp2_with (go_at_call 75; refine (cannot_yes _ _ _ HB.out).mono ?_; rintro e w' ⟨rfl, rfl⟩)
        go_ret3
        rw [HU.out, drop_at s k hlt, unvL, if_pos (by have := HB.out; omega)]
        exact ⟨rfl, rfl⟩
      · have HB := hid hbad
        clear hbad
        have HA := hid hacc
        clear hacc
        go_wp2_with fail
        refine (cannot_no _ _ _ HB.out).mono ?_
        rintro e w' ⟨rfl, rfl⟩
        go_wp2_with fail
        · have h128 : (s[k].toNat : Int) < 128 := by assumption
          go_ret3
          rw [HU.out, drop_at s k hlt, unvL, if_neg (by have := HB.out; omega), if_pos (by omega)]
          exact ⟨ret_3 (or_step_byte acc k s[k].toNat hk9 HA.out s[k].toNat_lt (by have := HB.out; omega)) (show (k : Int) + 1 = ((k + 1 : Nat) : Int) by omega) rfl, rfl⟩
        · have h128 : 128 ≤ (s[k].toNat : Int) := by assumption
          have hb := HB.out
          go_round
          case rel => exact ⟨k + 1, _, by omega, by omega, by go_num, congrArg (Value.int .u64) (or_step_byte acc k s[k].toNat hk9 HA.out s[k].toNat_lt (by omega)), acc_lt _ _ _ HA.out, by rw [HU.out, drop_at s k hlt, unvL, if_neg (by omega), if_neg (by omega)]⟩
          case measure => simp [intOf]; omega
    · go_wp2
      go_ret3
      rw [HU.out, List.drop_of_length_le (by simp; omega)]
      exact ⟨rfl, rfl⟩

end Num
end Go.Proofs.YtiellodbkanciaaDoor
