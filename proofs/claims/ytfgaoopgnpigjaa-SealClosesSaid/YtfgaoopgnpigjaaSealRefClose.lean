/-
  Contract of Close, the reference's: what each call returns; the old memory stays.
-/
import Derived.Test.YtfgaoopgnpigjaaSealClose
namespace Go.Proofs.Ytfgaoopgnpigjaa
open Go.RowKit
namespace Seal
open Num (hid fixF unfF)
open Mix (su sumN)

set_option maxRecDepth 100000 in
set_option maxHeartbeats 1000000 in
theorem rclose_yes (K N S : Nat) (hK : K < 4294967296) (hN : N < 4294967296) (hS : S < 18446744073709551616) (d : ByteArray) (hd : d.size = 232) (w : World) :
    Calls Try.prog 15 #[.agg #[.int .i64 K, .int .i64 N, .int .u64 S, .string d]] w fun e w' => e = .returned (.tuple #[.string (sealS K N S d), .int .i64 0]) ∧ Below w.heap.size w w' := by
  have hK1 : (K : Int) ≤ 4294967295 := by omega
  have hN1 : (N : Int) ≤ 4294967295 := by omega
  have hd1 : ((d.size : Int) != 232) = false := by simp; omega
  have HD := hid hd
  have hK64 := hid (u64_nat K (by omega))
  have hN64 := hid (u64_nat N (by omega))
  have HK := hid hK
  have HN := hid hN
  have HS := hid hS
  clear hd hK hN hS
  go_enter Try.func15, Try.ntmps15
  go_wp2_with fail
  have z1 : ¬ 9223372036854775807 < d.size + (fx 4 K).size := by rw [fx_size, HD.out]; decide
  have z2 : ¬ 9223372036854775807 < d.size + (fx 4 K).size + (fx 4 N).size := by rw [fx_size, fx_size, HD.out]; decide
  have z3 : ¬ 9223372036854775807 < d.size + (fx 4 K).size + (fx 4 N).size + (fx 8 S).size := by rw [fx_size, fx_size, fx_size, HD.out]; decide
  have C0 := cls_new w K N S d
  refine wp_region_quiet_in (Cls w K N S d) (by kernel_rfl) (by kernel_rfl) C0.drew ?_
  go_big_quiet_want
  go_big_quiet_op
  apply Exists.intro
  refine ⟨fun _ _ => ?_, ?_⟩
  · with_reducible exact Eq.refl _
  go_big_quiet_on
  go_big_quiet_want
  go_big_quiet_op
  refine ⟨.string d, fun wx hx => ?_, ?_⟩
  · have c : wx.cell? ⟨w.heap.size, 3, none⟩ = some (.string d) := cell_at hx.held 3
    simp [go_sem, c]
  go_big_quiet_on
  go_big_quiet_want
  go_big_quiet_op
  apply Exists.intro
  refine ⟨fun _ _ => ?_, ?_⟩
  · with_reducible exact Eq.refl _
  go_big_quiet_on
  go_big_quiet_want
  go_big_quiet_op
  refine ⟨.int .i64 K, fun wx hx => ?_, ?_⟩
  · have c : wx.cell? ⟨w.heap.size, 0, none⟩ = some (.int .i64 K) := cell_at hx.held 0
    simp [go_sem, c]
  go_big_quiet_on
  go_big_quiet_want
  go_big_quiet_op
  apply Exists.intro
  refine ⟨fun _ _ => ?_, ?_⟩
  · with_reducible exact Eq.refl _
  go_big_quiet_on
  go_big_quiet_want
  go_big_quiet_op
  refine ⟨.string (fx 4 K), fun wx hx => ?_, ?_⟩
  · refine (rfixed4 K (by have := HK.out; omega) _).mono ?_
    rintro e w3 ⟨rfl, hb3⟩
    exact ⟨rfl, hx.on hb3⟩
  go_big_quiet_on
  go_big_quiet_want
  go_big_quiet_op
  apply Exists.intro
  refine ⟨fun _ _ => ?_, ?_⟩
  · with_reducible exact Eq.refl _
  go_big_quiet_on
  go_big_quiet_want
  go_big_quiet_op
  apply Exists.intro
  refine ⟨fun _ _ => ?_, ?_⟩
  · with_reducible exact Eq.refl _
  go_big_quiet_on
  go_big_quiet_want
  go_big_quiet_op
  refine ⟨.int .i64 N, fun wx hx => ?_, ?_⟩
  · have c : wx.cell? ⟨w.heap.size, 1, none⟩ = some (.int .i64 N) := cell_at hx.held 1
    simp [go_sem, c]
  go_big_quiet_on
  go_big_quiet_want
  go_big_quiet_op
  apply Exists.intro
  refine ⟨fun _ _ => ?_, ?_⟩
  · with_reducible exact Eq.refl _
  go_big_quiet_on
  go_big_quiet_want
  go_big_quiet_op
  refine ⟨.string (fx 4 N), fun wx hx => ?_, ?_⟩
  · refine (rfixed4 N (by have := HN.out; omega) _).mono ?_
    rintro e w3 ⟨rfl, hb3⟩
    exact ⟨rfl, hx.on hb3⟩
  go_big_quiet_on
  go_big_quiet_want
  go_big_quiet_op
  apply Exists.intro
  refine ⟨fun _ _ => ?_, ?_⟩
  · with_reducible exact Eq.refl _
  go_big_quiet_on
  go_big_quiet_want
  go_big_quiet_op
  apply Exists.intro
  refine ⟨fun _ _ => ?_, ?_⟩
  · with_reducible exact Eq.refl _
  go_big_quiet_on
  go_big_quiet_want
  go_big_quiet_op
  refine ⟨.int .u64 S, fun wx hx => ?_, ?_⟩
  · have c : wx.cell? ⟨w.heap.size, 2, none⟩ = some (.int .u64 S) := cell_at hx.held 2
    simp [go_sem, c]
  go_big_quiet_on
  go_big_quiet_want
  go_big_quiet_op
  refine ⟨.string (fx 8 S), fun wx hx => ?_, ?_⟩
  · refine (rfixed8 S HS.out _).mono ?_
    rintro e w3 ⟨rfl, hb3⟩
    exact ⟨rfl, hx.on hb3⟩
  go_big_quiet_on
  go_big_quiet_want
  go_big_quiet_op
  apply Exists.intro
  refine ⟨fun _ _ => ?_, ?_⟩
  · with_reducible exact Eq.refl _
  go_big_quiet_on
  go_big_quiet_want
  go_big_quiet_op
  go_big_quiet_on
  refine wpQuiet_nil ?_
  intro w2 C2
  have B := C2.below
  clear C2 C0
  have hb : (bodyS K N S d).size ≤ 1000000000000000 := by rw [bodyS_size, HD.out]; decide
  have z4 : ¬ 9223372036854775807 < (bodyS K N S d).size + (fx 8 (su 1 (bodyS K N S d))).size := by rw [bodyS_size, fx_size, HD.out]; decide
  have hsu := hid (su_lt (bodyS K N S d))
  have eb : d ++ fx 4 K ++ fx 4 N ++ fx 8 S = bodyS K N S d := rfl
  rw [eb]
  clear z1 z2 z3
  go_wp2_with fail
  refine (rsum1 _ hb _).mono ?_
  rintro e w3 ⟨rfl, rfl⟩
  go_wp2_with fail
  refine (rfixed8 _ hsu.out _).mono ?_
  rintro e w4 ⟨rfl, hb4⟩
  go_wp2
  go_ret2
  exact ⟨rfl, B.trans (hb4.mono B.size)⟩

set_option maxRecDepth 100000 in
set_option maxHeartbeats 1000000 in
theorem rclose_no (K N : Int) (S : Nat) (d : ByteArray) (h : ¬ ((0 ≤ K ∧ K ≤ 4294967295) ∧ (0 ≤ N ∧ N ≤ 4294967295) ∧ d.size = 232)) (w : World) :
    Calls Try.prog 15 #[.agg #[.int .i64 K, .int .i64 N, .int .u64 S, .string d]] w fun e w' => e = .returned (.tuple #[.string ⟨#[]⟩, .int .i64 1]) ∧ Below w.heap.size w w' := by
  have ways : K < 0 ∨ (¬ K < 0 ∧ 4294967295 < K) ∨ (¬ K < 0 ∧ ¬ 4294967295 < K ∧ N < 0) ∨ (¬ K < 0 ∧ ¬ 4294967295 < K ∧ ¬ N < 0 ∧ 4294967295 < N) ∨ (¬ K < 0 ∧ ¬ 4294967295 < K ∧ ¬ N < 0 ∧ ¬ 4294967295 < N ∧ ((d.size : Int) != 232) = true) := by simp; omega
  clear h
  rcases ways with h1 | ⟨h1, h2⟩ | ⟨h1, h2, h3⟩ | ⟨h1, h2, h3, h4⟩ | ⟨h1, h2, h3, h4, h5⟩
  all_goals
    go_enter Try.func15, Try.ntmps15
    go_wp2
    go_ret2
    exact ⟨rfl, (Below.refl _ _).alloc (Nat.le_refl _) _⟩

theorem rclose_any (K N : Int) (S : Nat) (hS : S < 18446744073709551616) (d : ByteArray) (w : World) :
    Calls Try.prog 15 #[.agg #[.int .i64 K, .int .i64 N, .int .u64 S, .string d]] w fun e w' => e = .returned (.tuple #[.string (closeS K N S d), .int .i64 (closeE K N d)]) ∧ Below w.heap.size w w' := by
  by_cases h : (0 ≤ K ∧ K ≤ 4294967295) ∧ (0 ≤ N ∧ N ≤ 4294967295) ∧ d.size = 232
  · obtain ⟨k, rfl⟩ := Int.eq_ofNat_of_zero_le h.1.1
    obtain ⟨n, rfl⟩ := Int.eq_ofNat_of_zero_le h.2.1.1
    obtain ⟨e1, e2⟩ := fit_is k n S d (by omega) (by omega) h.2.2
    rw [e1, e2]
    exact rclose_yes k n S (by omega) (by omega) hS d h.2.2 w
  · obtain ⟨e1, e2⟩ := fit_not h S
    rw [e1, e2]
    exact rclose_no K N S d h w

end Seal
end Go.Proofs.Ytfgaoopgnpigjaa
