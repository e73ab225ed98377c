/-
  Contract of the project's number; slices of strings.
-/
import Derived.Test.YtkoglikaaehhjaaSpareMath
import Derived.Test.YtkoglikaaehhjaaNumUnfixed
import Derived.Test.YtkoglikaaehhjaaNumRefUnfixed
import Derived.BigQuiet
import Derived.Deep.QuietTactic
namespace Go.Proofs.Ytkoglikaaehhjaa
open Go.RowKit
namespace Sp
open Num (hid unfF unfixL)
open Mem (Bs bs)
open Part (numAt)
theorem ex_mid (S : Bs) (i j : Nat) : (bs S).extract i j = bs ((S.drop i).take (j - i)) := by
  have e : (bs S).extract i j = bs (bl ((bs S).extract i j)) := (bs_bl _).symm
  rw [e]
  congr 1
  show ((bs S).extract i j).data.toList = _
  simp [ByteArray.data_extract, bs]
theorem ex_drop (S : Bs) (k : Nat) : (bs S).extract k (bs S).size = bs (S.drop k) := by
  rw [ex_mid, bs_size, List.take_of_length_le (by rw [List.length_drop]; exact Nat.le_refl _)]
theorem ex_take (S : Bs) (k : Nat) : (bs S).extract 0 k = bs (S.take k) := by
  rw [ex_mid, List.drop_zero, Nat.sub_zero]
theorem unfix_take (S : Bs) (i k : Nat) (h1 : 1 ≤ k) (h8 : k ≤ 8) (hl : i + k ≤ S.length) : unfixL ((S.drop i).take k) = (numAt S i k, 0) := by
  unfold unfixL numAt
  rw [if_pos (by rw [List.length_take, List.length_drop]; omega)]
theorem below_drewN {B : Nat} {a w : World} (h : Below B a w) (n : Nat) : Below B a (w.drewN n) := ⟨h.os, h.tape, h.output, h.size, h.block⟩
set_option maxRecDepth 100000 in
set_option maxHeartbeats 400000 in
theorem number_any (S : Bs) (k : Nat) (h1 : 1 ≤ k) (h4 : k ≤ 4) (hl : k ≤ S.length) (w : World) :
    Calls Try.prog 30 #[.string (bs S), .int .i64 (k : Nat)] w fun e w' => e = .returned (.tuple #[.int .i64 (numAt S 0 k : Nat), .string (bs (S.drop k))]) ∧ Below w.heap.size w w' := by
  have hz := bs_size S
  have hU := Num.unfixed_any ((bs S).extract 0 k) w
  have e1 : ((bs S).extract 0 k).data.toList = S.take k := by rw [ex_take]; exact bl_bs _
  rw [e1] at hU
  have e2 := unfix_take S 0 k h1 (by omega) (by omega)
  rw [List.drop_zero] at e2
  rw [e2] at hU
  have HU := hid hU
  have hlt : numAt S 0 k < 4294967296 := by
    have h2 := Part.numAt_lt S 0 k
    have h3 : (256 : Nat) ^ k ≤ 256 ^ 4 := Nat.pow_le_pow_right (by decide) h4
    have h5 : (256 : Nat) ^ 4 = 4294967296 := by decide
    omega
  have HD := hid (ex_drop S k)
  clear hU e1 e2
  generalize numAt S 0 k = x at *
  have hk1 : k ≤ (bs S).size := by omega
  have hk2 : (0 : Int) ≤ (k : Int) := by omega
  have hx : wrap64 (x : Int) = (x : Int) := by rw [Num.wrap_i]; omega
  clear hz hl
  go_enter Try.func30, Try.ntmps30
  go_wp2_with fail
  refine HU.out.mono ?_
  rintro e w2 ⟨rfl, rfl⟩
  go_wp2
  go_quiet (fail)
  go_wp2
  go_ret2
  refine ⟨?_, ?_⟩
  · rw [← HD.out]
    first | rfl | simp_all
  · first | exact Below.refl _ _ | exact below_drewN (Below.refl _ _) _ | exact (Below.refl _ _).drew
end Sp
end Go.Proofs.Ytkoglikaaehhjaa
