/-
  Contract of the statements' own awake: it answers true; the old memory stays.
-/
import Derived.Test.YtpfolialjajafaaHeadRefRead
namespace Go.Proofs.Ytpfolialjajafaa
open Go.RowKit
namespace Head
open Num (hid fixF unfF)
open Part (piece piece_lt fx fx_size cell_at)

def freshS : ByteArray := headS 1 1 0 0 0 0
theorem fit_fresh : Fit (1 : Nat) (1 : Nat) (0 : Nat) (0 : Nat) (0 : Nat) := by decide
theorem enc_fresh (w : World) : Calls Try.prog 9 #[.agg #[.int .i64 1, .int .i64 1, .int .i64 0, .int .i64 0, .int .i64 0, .int .u64 0]] w fun e w' => e = .returned (.tuple #[.string freshS, .int .i64 0]) ∧ Below w.heap.size w w' :=
  enc_yes 1 1 0 0 0 0 fit_fresh (by decide) w
theorem enc_zero (w : World) : Calls Try.prog 9 #[.agg #[.int .i64 0, .int .i64 0, .int .i64 0, .int .i64 0, .int .i64 0, .int .u64 0]] w fun e w' => e = .returned (.tuple #[.string ⟨#[]⟩, .int .i64 1]) ∧ Below w.heap.size w w' :=
  enc_no 0 0 0 0 0 0 (by decide) w
theorem dec_head {M P T S R C : Nat} (h : Fit M P T S R) (hC : C < 18446744073709551616) (w : World) :
    Calls Try.prog 13 #[.string (headS M P T S R C)] w fun e w' => e = .returned (.tuple #[.agg #[.int .i64 M, .int .i64 P, .int .i64 T, .int .i64 S, .int .i64 R, .int .u64 C], .int .i64 0]) ∧ Below w.heap.size w w' := by
  have hr := right_head h hC
  have hs := head_size M P T S R C
  have hd := dec_any (headS M P T S R C) w
  obtain ⟨h1, h2, h3, h4, h5⟩ := fit_small h
  have e1 : decV (headS M P T S R C) = .agg #[.int .i64 M, .int .i64 P, .int .i64 T, .int .i64 S, .int .i64 R, .int .u64 C] := by
    unfold decV
    rw [if_pos ⟨hs, hr⟩]
    unfold saysV
    rw [at_M _ _ _ _ _ _ h1, at_P _ _ _ _ _ _ h2, at_T _ _ _ _ _ _ h3, at_S _ _ _ _ _ _ h4, at_R _ _ _ _ _ _ h5, at_C _ _ _ _ _ _ hC]
    rfl
  have e2 : decE (headS M P T S R C) = 0 := by
    unfold decE
    rw [if_pos hs, if_pos hr]
  rw [e1, e2] at hd
  exact hd
theorem dec_fresh (w : World) : Calls Try.prog 13 #[.string freshS] w fun e w' => e = .returned (.tuple #[.agg #[.int .i64 1, .int .i64 1, .int .i64 0, .int .i64 0, .int .i64 0, .int .u64 0], .int .i64 0]) ∧ Below w.heap.size w w' :=
  dec_head (M := 1) (P := 1) (T := 0) (S := 0) (R := 0) (C := 0) fit_fresh (by decide) w
theorem dec_x (w : World) : Calls Try.prog 13 #[.string ⟨#[120]⟩] w fun e w' => e = .returned (.tuple #[.agg #[.int .i64 0, .int .i64 0, .int .i64 0, .int .i64 0, .int .i64 0, .int .u64 0], .int .i64 1]) ∧ Below w.heap.size w w' :=
  dec_no ⟨#[120]⟩ (by decide) w
theorem fresh16 : freshS.extract 0 16 = ⟨#[99, 97, 104, 105, 101, 114, 48, 49, 0, 0, 0, 1, 0, 0, 0, 1]⟩ := by decide +kernel

set_option maxRecDepth 100000 in
set_option maxHeartbeats 1000000 in
theorem awake_any (w : World) : Calls Try.prog 8 #[] w fun e w' => e = .returned (.bool true) ∧ Below w.heap.size w w' := by
  have hsz : ((freshS.size : Int) == 232) = true := by rw [show freshS.size = 232 from head_size ..]; rfl
  have hs16 : (16 : Int) ≤ (freshS.size : Int) := by rw [show freshS.size = 232 from head_size ..]; decide
  have hs17 : 16 ≤ freshS.size := by rw [show freshS.size = 232 from head_size ..]; decide
  have e16 := fresh16
  have F := enc_fresh
  have D := dec_fresh
  generalize freshS = t at *
  have HF := hid F
  have HD := hid D
  clear F D
  go_enter Try.func8, Try.ntmps8
  go_wp2_with fail
  refine (fresh_any _).mono ?_
  rintro e w1 ⟨rfl, hb1⟩
  unfold hd
  go_wp2_with fail
  refine (HF.out _).mono ?_
  rintro e w2 ⟨rfl, hb2⟩
  have B2 := hid (hb1.trans (hb2.mono hb1.size))
  clear hb1 hb2
  go_wp2_with fail
  refine (HD.out _).mono ?_
  rintro e w3 ⟨rfl, hb3⟩
  have B3 := hid (B2.out.trans (hb3.mono B2.out.size))
  clear hb3 B2
  have F3 : Hid (Six w3.heap.size 1 1 0 0 0 0 (w3.alloc (.cells #[.int .i64 1, .int .i64 1, .int .i64 0, .int .i64 0, .int .i64 0, .int .u64 0] 24))) := hid (heap_alloc_new _ _)
  have B4 := hid (B3.out.alloc B3.out.size (.cells #[.int .i64 1, .int .i64 1, .int .i64 0, .int .i64 0, .int .i64 0, .int .u64 0] 24))
  go_wp2_with fail
  refine (dec_x _).mono ?_
  rintro e w5 ⟨rfl, hb5⟩
  have F5 := hid ((F3.out.on hb5).on ((Below.refl _ _).alloc (Nat.le_refl _) (.cells #[.int .i64 0, .int .i64 0, .int .i64 0, .int .i64 0, .int .i64 0, .int .u64 0] 24)))
  have B5 := hid ((B4.out.trans (hb5.mono B4.out.size)).alloc (by have := B4.out.size; have := hb5.size; simp at *; omega) (.cells #[.int .i64 0, .int .i64 0, .int .i64 0, .int .i64 0, .int .i64 0, .int .u64 0] 24))
  clear hb5 F3 B4 B3
  go_wp2_with fail
  refine (enc_zero _).mono ?_
  rintro e w6 ⟨rfl, hb6⟩
  obtain ⟨k0, k1, k2, k3, k4, k5⟩ := (F5.out.on hb6).cells
  have B6 := hid (B5.out.trans (hb6.mono B5.out.size))
  clear hb6 F5 B5
  go_wp2
  go_ret
  exact ⟨rfl, B6.out⟩

end Head
end Go.Proofs.Ytpfolialjajafaa
