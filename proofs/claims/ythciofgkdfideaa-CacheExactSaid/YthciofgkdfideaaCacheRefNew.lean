/-
  The reference's New.
-/
import Derived.Test.YthciofgkdfideaaCacheMem
namespace Go.Proofs.Ythciofgkdfideaa
open Go.RowKit
namespace Ca
open Num (hid)
open Mem (Bs bs ptr blk_new)
theorem clamp_1 {s : Int} (h : s < 1) : clamp s = 1 := if_pos h
theorem clamp_2 {s : Int} (h : ¬ s < 1) (h2 : s > 256) : clamp s = 256 := by unfold clamp; rw [if_neg h, if_pos h2]
theorem clamp_3 {s : Int} (h : ¬ s < 1) (h2 : ¬ s > 256) : (clamp s : Int) = s := by
  unfold clamp
  rw [if_neg h, if_neg h2]
  omega
theorem RU.new (w : World) (n : Nat) : RU (fun g => w.heap.size ≤ g) (w.alloc (.cells #[.int .i64 (n : Int), .slice none 0 0] tU)) w.heap.size n [] ∧ Below w.heap.size w (w.alloc (.cells #[.int .i64 (n : Int), .slice none 0 0] tU)) :=
  ⟨⟨Nat.le_refl _, _, blk_new w _, LR.nil _ _⟩, (Below.refl _ w).alloc (Nat.le_refl _) _⟩
set_option maxRecDepth 100000 in
theorem rnew_any (s : Int) (w : World) : Calls Try.prog 8 #[.int .i64 s] w fun e w' => e = .returned (ptr w.heap.size) ∧ RU (fun g => w.heap.size ≤ g) w' w.heap.size (clamp s) [] ∧ Below w.heap.size w w' := by
  have H := hid (RU.new w (clamp s))
  by_cases h1 : s < 1
  · rw [clamp_1 h1] at H ⊢
    go_enter Try.func8, Try.ntmps8
    go_wp2
    go_ret
    exact ⟨rfl, H.out⟩
  · by_cases h2 : s > 256
    · rw [clamp_2 h1 h2] at H ⊢
      go_enter Try.func8, Try.ntmps8
      go_wp2
      go_ret
      exact ⟨rfl, H.out⟩
    · rw [clamp_3 h1 h2] at H
      have h3 : ¬ 256 < s := h2
      generalize clamp s = m at *
      go_enter Try.func8, Try.ntmps8
      go_wp2
      go_ret
      exact ⟨rfl, H.out⟩
end Ca
end Go.Proofs.Ythciofgkdfideaa
