/-
  Contract of Open, the reference's: what each call returns; the old memory stays.
-/
import Derived.Test.YtfgaoopgnpigjaaSealOpened
namespace Go.Proofs.Ytfgaoopgnpigjaa
open Go.RowKit
namespace Seal
open Num (hid fixF unfF)
open Mix (su sumN)

set_option maxRecDepth 100000 in
set_option maxHeartbeats 1000000 in
theorem ropen_no (s : ByteArray) (h : ¬ s.size = 256) (w : World) :
    Calls Try.prog 19 #[.string s] w fun e w' => e = .returned (.tuple #[zeroV, .int .i64 1]) ∧ Below w.heap.size w w' := by
  have ht : ((s.size : Int) != 256) = true := by simp; omega
  clear h
  go_enter Try.func19, Try.ntmps19
  go_wp2
  exact bodyPost_ret (v := .tuple #[zeroV, .int .i64 1]) (by simp [results, zeroV, go_sem]) rfl ⟨rfl, (Below.refl _ _).alloc (Nat.le_refl _) _⟩

set_option maxRecDepth 100000 in
set_option maxHeartbeats 1000000 in
theorem ropen_bad (s : ByteArray) (h : s.size = 256) (hr : ¬ right s.data.toList) (w : World) :
    Calls Try.prog 19 #[.string s] w fun e w' => e = .returned (.tuple #[zeroV, .int .i64 20]) ∧ Below w.heap.size w w' := by
  have ht : ((s.size : Int) != 256) = false := by simp; omega
  have hs : (248 : Int) ≤ (s.size : Int) := by omega
  have hne : (((sumOf s : Nat) : Int) != ((su 1 (s.extract 0 248) : Nat) : Int)) = true := by
    rw [sumOf_yes h]
    have := mt sum_of_right.2 hr
    simp; omega
  have hq : (s.extract 0 248).size ≤ 1000000000000000 := by simp; omega
  clear h hr
  go_enter Try.func19, Try.ntmps19
  go_wp2_with fail
  refine wp_region_quiet_in (Cls w 0 0 0 ⟨#[]⟩) (by kernel_rfl) (by kernel_rfl) (cls_new w 0 0 0 ⟨#[]⟩).drew ?_
  go_big_quiet_want
  go_big_quiet_op
  go_big_quiet_on
  go_big_quiet_want
  go_big_quiet_op
  refine ⟨.int .u64 (sumOf s), fun wx hx => ?_, ?_⟩
  · refine (rsum_any _ _).mono ?_
    rintro e w3 ⟨rfl, rfl⟩
    exact ⟨rfl, hx⟩
  go_big_quiet_on
  go_big_quiet_want
  go_big_quiet_op
  go_big_quiet_on
  go_big_quiet_want
  go_big_quiet_op
  apply Exists.intro
  refine ⟨fun _ _ => ?_, ?_⟩
  · with_reducible exact Eq.refl _
  go_big_quiet_on
  go_big_quiet_want
  go_big_quiet_op
  refine ⟨.int .u64 (su 1 (s.extract 0 248)), fun wx hx => ?_, ?_⟩
  · refine (rsum1 _ hq _).mono ?_
    rintro e w3 ⟨rfl, rfl⟩
    exact ⟨rfl, hx⟩
  go_big_quiet_on
  go_big_quiet_want
  go_big_quiet_op
  apply Exists.intro
  refine ⟨fun _ _ => ?_, ?_⟩
  · with_reducible exact Eq.refl _
  go_big_quiet_on
  refine wpQuiet_nil ?_
  intro w2 C2
  obtain ⟨k0, k1, k2, k3, z0, z1, z2, z3, zs⟩ := nought C2
  have B := C2.below
  clear C2
  go_wp2
  exact bodyPost_ret (v := .tuple #[zeroV, .int .i64 20]) (by simp [results, zeroV, go_sem, k0, k1, k2, k3]) rfl ⟨rfl, (((B.setCell (Nat.le_refl _) _).setCell (Nat.le_refl _) _).setCell (Nat.le_refl _) _).setCell (Nat.le_refl _) _⟩

set_option maxRecDepth 100000 in
set_option maxHeartbeats 1000000 in
theorem ropen_good (s : ByteArray) (h : s.size = 256) (hr : right s.data.toList) (w : World) :
    Calls Try.prog 19 #[.string s] w fun e w' => e = .returned (.tuple #[saysV s, .int .i64 0]) ∧ Below w.heap.size w w' := by
  have ht : ((s.size : Int) != 256) = false := by simp; omega
  have hs : (248 : Int) ≤ (s.size : Int) := by omega
  have hne : (((sumOf s : Nat) : Int) != ((su 1 (s.extract 0 248) : Nat) : Int)) = false := by
    rw [sumOf_yes h]
    have := sum_of_right.1 hr
    simp; omega
  have hq : (s.extract 0 248).size ≤ 1000000000000000 := by simp; omega
  have b1 := part_lt s 232 236
  have b2 := part_lt s 236 240
  have c1 : ((part s 232 236 : Nat) : Int) ≤ 4294967295 := by omega
  have c2 : ((part s 236 240 : Nat) : Int) ≤ 4294967295 := by omega
  have h256 : 256 ≤ s.size := by omega
  clear h hr b1 b2
  go_enter Try.func19, Try.ntmps19
  go_wp2_with fail
  refine wp_region_quiet_in (Cls w 0 0 0 ⟨#[]⟩) (by kernel_rfl) (by kernel_rfl) (cls_new w 0 0 0 ⟨#[]⟩).drew ?_
  go_big_quiet_want
  go_big_quiet_op
  go_big_quiet_on
  go_big_quiet_want
  go_big_quiet_op
  refine ⟨.int .u64 (sumOf s), fun wx hx => ?_, ?_⟩
  · refine (rsum_any _ _).mono ?_
    rintro e w3 ⟨rfl, rfl⟩
    exact ⟨rfl, hx⟩
  go_big_quiet_on
  go_big_quiet_want
  go_big_quiet_op
  go_big_quiet_on
  go_big_quiet_want
  go_big_quiet_op
  apply Exists.intro
  refine ⟨fun _ _ => ?_, ?_⟩
  · with_reducible exact Eq.refl _
  go_big_quiet_on
  go_big_quiet_want
  go_big_quiet_op
  refine ⟨.int .u64 (su 1 (s.extract 0 248)), fun wx hx => ?_, ?_⟩
  · refine (rsum1 _ hq _).mono ?_
    rintro e w3 ⟨rfl, rfl⟩
    exact ⟨rfl, hx⟩
  go_big_quiet_on
  go_big_quiet_want
  go_big_quiet_op
  apply Exists.intro
  refine ⟨fun _ _ => ?_, ?_⟩
  · with_reducible exact Eq.refl _
  go_big_quiet_on
  refine wpQuiet_nil ?_
  intro w2 C2
  obtain ⟨k0, k1, k2, k3, z0, z1, z2, z3, zs⟩ := nought C2
  have B := C2.below
  clear C2
  go_wp2_with fail
  refine (runfixed_at s 232 236 (by decide) (by decide) (by omega) _).mono ?_
  rintro e w' ⟨rfl, rfl⟩
  go_wp2_with fail
  refine (runfixed_at s 236 240 (by decide) (by decide) (by omega) _).mono ?_
  rintro e w' ⟨rfl, rfl⟩
  go_wp2_with fail
  refine (runfixed_at s 240 248 (by decide) (by decide) (by omega) _).mono ?_
  rintro e w' ⟨rfl, rfl⟩
  go_wp2
  exact bodyPost_ret (v := .tuple #[saysV s, .int .i64 0]) (by simp [results, saysV, go_sem, k0, k1, k2, k3]) rfl ⟨rfl, (((B.setCell (Nat.le_refl _) _).setCell (Nat.le_refl _) _).setCell (Nat.le_refl _) _).setCell (Nat.le_refl _) _⟩

theorem ropen_any (s : ByteArray) (w : World) :
    Calls Try.prog 19 #[.string s] w fun e w' => e = .returned (.tuple #[openV s, .int .i64 (openE s)]) ∧ Below w.heap.size w w' := by
  by_cases h : s.size = 256
  · by_cases hr : right s.data.toList
    · obtain ⟨e1, e2⟩ := open_says h hr
      rw [e1, e2]
      exact ropen_good s h hr w
    · obtain ⟨e1, e2⟩ := open_seal h hr
      rw [e1, e2]
      exact ropen_bad s h hr w
  · obtain ⟨e1, e2⟩ := open_size h
    rw [e1, e2]
    exact ropen_no s h w

end Seal
end Go.Proofs.Ytfgaoopgnpigjaa
