/-
  Contracts of the project's mix: a turn, the closure that adds a group, a group's number.
-/
import Derived.Test.YtfgaoopgnpigjaaMixMath
import Derived.Test.YtfgaoopgnpigjaaNumBits
import Derived.Test.YtfgaoopgnpigjaaChecked
import Derived.WalkKit
import Derived.WalkSpells
import Derived.WalkLawsBesides
namespace Go.Proofs.Ytfgaoopgnpigjaa
open Go.RowKit
namespace Mix
open Num (hid)

theorem wrap_u32 (n : Int) : IntKind.u32.wrap n = n % 4294967296 := IntKind.wrap_u32 n
theorem or_u32_nat (a b : Nat) (ha : a < 4294967296) (hb : b < 4294967296) : bits .or .u32 (a : Int) (b : Int) = ((a ||| b : Nat) : Int) := by
  have hx : a ||| b < 2 ^ 32 := Nat.or_lt_two_pow (by omega) (by omega)
  have h1 : (BitVec.ofInt 32 (a : Int)).toNat = a := by
    rw [BitVec.ofInt_natCast, BitVec.toNat_ofNat]; exact Nat.mod_eq_of_lt (by omega)
  have h2 : (BitVec.ofInt 32 (b : Int)).toNat = b := by
    rw [BitVec.ofInt_natCast, BitVec.toNat_ofNat]; exact Nat.mod_eq_of_lt (by omega)
  show IntKind.u32.wrap ((BitVec.ofInt 32 (a : Int) ||| BitVec.ofInt 32 (b : Int)).toNat : Int) = _
  rw [BitVec.toNat_or, h1, h2, wrap_u32]
  omega

theorem rot_or (n : Nat) (hn : n < 4294967296) : bits .or .u32 ((n : Int) * 128 % 4294967296) ((n : Int) / 33554432) = ((rotl7 n : Nat) : Int) := by
  have e1 : (n : Int) * 128 % 4294967296 = ((n % 33554432 * 128 : Nat) : Int) := by omega
  have e2 : (n : Int) / 33554432 = ((n / 33554432 : Nat) : Int) := by omega
  rw [e1, e2, or_u32_nat _ _ (by omega) (by omega), Nat.or_comm]
  have := Num.or_add (n / 33554432) (n % 33554432) 7 (by omega)
  rw [show (128 : Nat) = 2 ^ 7 by decide, this]
  unfold rotl7
  omega

set_option maxRecDepth 100000 in
theorem rot_any (n : Nat) (hn : n < 4294967296) (w : World) :
    Calls Try.prog 90 #[.int .u32 n, .int .i64 7] w fun e w' => e = .returned (.int .u32 (rotl7 n : Nat)) ∧ w = w' := by
  have e31 : bits .and .u64 7 31 = 7 := by decide +kernel
  go_enter Try.func90, Try.ntmps90
  go_wp2
  go_ret
  exact ⟨Num.ret_u (rot_or n hn), rfl⟩

/-- The number of the first k bytes. -/
def part (l : List UInt8) : Nat → Nat
  | 0 => 0
  | k + 1 => part l k * 256 + gb l k
theorem part_four (l : List UInt8) : part l 4 = grp l 0 := by simp only [part, grp, Nat.zero_add]; omega
theorem gb_byte (s : ByteArray) (k : Nat) (h : k < s.size) : gb s.data.toList k = s[k].toNat := by
  unfold gb
  rw [List.getD_eq_getElem?_getD, List.getElem?_eq_getElem (by simpa using h)]
  rfl
theorem part_lt (acc k b : Nat) (ha : acc < 256 ^ k) (hb : b < 256) : acc * 256 + b < 256 ^ (k + 1) := by rw [Nat.pow_succ]; omega
theorem pow_le3 (k : Nat) (h : k ≤ 3) : 256 ^ k ≤ 16777216 := by
  have : (256 : Nat) ^ k ≤ 256 ^ 3 := Nat.pow_le_pow_right (by decide) h
  have e : (256 : Nat) ^ 3 = 16777216 := by decide
  omega
theorem part_shl (acc k : Nat) (hk : k ≤ 3) (ha : acc < 256 ^ k) : (acc : Int) * 256 % 4294967296 = ((acc * 256 : Nat) : Int) := by
  have := pow_le3 k hk; omega
theorem part_or (acc k b : Nat) (hk : k ≤ 3) (ha : acc < 256 ^ k) (hb : b < 256) : bits .or .u32 ((acc : Int) * 256 % 4294967296) (b : Int) = ((acc * 256 + b : Nat) : Int) := by
  have h3 := pow_le3 k hk
  rw [part_shl acc k hk ha, or_u32_nat _ _ (by omega) (by omega), Nat.or_comm]
  have := Num.or_add b acc 8 (by omega)
  rw [show (256 : Nat) = 2 ^ 8 by decide, this, Nat.add_comm]

set_option maxRecDepth 100000 in
theorem group_any (s : ByteArray) (hs : s.size ≤ maxLen) (w : World) :
    Calls Try.prog 91 #[.string s] w fun e w' => e = .returned (.int .u32 (grp s.data.toList 0 : Nat)) ∧ w = w' := by
  replace hs : s.size ≤ 9223372036854775807 := by unfold maxLen at hs; omega
  go_enter Try.func91, Try.ntmps91
  go_wp2
  go_loop [3, 5] (fun x i => ∃ k acc : Nat, k ≤ 4 ∧ i = .int .i64 k ∧ x = .int .u32 acc ∧ acc < 256 ^ k ∧ acc = part s.data.toList k) (fun _ i => 4 - (intOf i).toNat)
  case atStart => exact ⟨0, 0, by omega, rfl, rfl, by decide, rfl⟩
  case round =>
    obtain ⟨k, acc, hk, rfl, rfl, hacc, hu⟩ := hrel
    have HA := hid hacc
    have HU := hid hu
    clear hacc hu
    by_cases h4 : k < 4
    · by_cases hlt : k < s.size
      · have hby : (s[k].toNat : Int) ≤ 255 := by have := s[k].toNat_lt; omega
        go_wp2
        go_round
        case rel => exact ⟨k + 1, _, by omega, by go_num, congrArg (Value.int .u32) (part_or acc k s[k].toNat (by omega) HA.out s[k].toNat_lt), part_lt acc k _ HA.out s[k].toNat_lt, by rw [HU.out, part, gb_byte s k hlt]⟩
        case measure => simp [intOf]; omega
      · go_wp2
        go_round
        case rel => exact ⟨k + 1, _, by omega, by go_num, congrArg (Value.int .u32) (part_shl acc k (by omega) HA.out), by have := part_lt acc k 0 HA.out (by decide); simpa using this, by rw [HU.out, part, gb_over _ _ (by simp; omega), Nat.add_zero]⟩
        case measure => simp [intOf]; omega
    · obtain rfl : k = 4 := by omega
      go_wp2
      go_ret
      rw [HU.out]
      exact ⟨Num.ret_u (congrArg Nat.cast (part_four _)), rfl⟩

/-- The two variables that the closure captures: a block each. -/
structure Two (A B : Nat) (a b : Int) (w : World) : Prop where
  ha : w.heap[A]? = some (.cells #[.int .u32 a] 112 (0, 0))
  hb : w.heap[B]? = some (.cells #[.int .u32 b] 112 (0, 0))
  ne : A ≠ B

theorem Two.setA {A B : Nat} {a b : Int} {w : World} (h : Two A B a b w) (c : Int) : Two A B c b (w.setCell ⟨A, 0, none⟩ (.int .u32 c)) :=
  ⟨one_setCell h.ha, (Below.heap_setCell _ _ _ _ h.ne.symm).trans h.hb, h.ne⟩
theorem Two.setB {A B : Nat} {a b : Int} {w : World} (h : Two A B a b w) (c : Int) : Two A B a c (w.setCell ⟨B, 0, none⟩ (.int .u32 c)) :=
  ⟨(Below.heap_setCell _ _ _ _ h.ne).trans h.ha, one_setCell h.hb, h.ne⟩

theorem rot_st (a b x : Nat) (w : World) :
    Calls Try.prog 90 #[.int .u32 (((b : Int) + (x : Int) + ((a : Int) + ((x : Int) + (b : Int)))) % 4294967296), .int .i64 7] w fun e w' => e = .returned (.int .u32 (stB a b x : Nat)) ∧ w = w' := by
  have e : ((b : Int) + (x : Int) + ((a : Int) + ((x : Int) + (b : Int)))) % 4294967296 = (((b + x + stA a b x) % 4294967296 : Nat) : Int) := by unfold stA; omega
  rw [e]
  exact rot_any _ (by omega) w

set_option maxRecDepth 100000 in
theorem add_any (N A B a b x : Nat) (hA : N ≤ A) (hB : N ≤ B) (w : World) (h : Two A B a b w) :
    Calls Try.prog 89 #[.int .u32 x, .pointer (some ⟨A, 0, none⟩), .pointer (some ⟨B, 0, none⟩)] w fun e w' => e = .returned (.tuple #[]) ∧ Two A B (stA a b x) (stB a b x) w' ∧ Below N w w' := by
  have cA := cell_of_one h.ha
  have fA := free_of_one h.ha
  have cB := cell_of_one h.hb
  have fB := free_of_one h.hb
  have h1 := h.setA (((a : Int) + ((x : Int) + (b : Int))) % 4294967296)
  have cA1 := cell_of_one h1.ha
  have cB1 := cell_of_one h1.hb
  have fB1 := free_of_one h1.hb
  go_enter Try.func89, Try.ntmps89
  go_wp2_with fail
  refine (rot_st a b x _).mono ?_
  rintro e w1 ⟨rfl, rfl⟩
  go_wp2
  go_end0
  have e1 : ((a : Int) + ((x : Int) + (b : Int))) % 4294967296 = ((stA a b x : Nat) : Int) := by unfold stA; omega
  exact ⟨rfl, e1 ▸ h1.setB _, ((Below.refl N w).setCell (by exact hA) _).setCell (by exact hB) _⟩

end Mix
end Go.Proofs.Ytfgaoopgnpigjaa
