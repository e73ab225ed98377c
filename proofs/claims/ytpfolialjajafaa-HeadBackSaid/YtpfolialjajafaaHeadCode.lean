/-
  Contracts of wordsOf, isFit and number, the project's, and of the reference's Fit: what each call returns; the old memory stays.
-/
import Derived.Test.YtpfolialjajafaaHeadMath
import Derived.Test.YtpfolialjajafaaQuietTail
namespace Go.Proofs.Ytpfolialjajafaa
open Go.RowKit
namespace Head
open Num (hid fixF unfF)
open Part (piece piece_is piece_lt)

/-- The pointers to the first five fields of a head in the block b. -/
def ptrs (b : Nat) : Array Value := #[.pointer (some ⟨b, 0, none⟩), .pointer (some ⟨b, 1, none⟩), .pointer (some ⟨b, 2, none⟩), .pointer (some ⟨b, 3, none⟩), .pointer (some ⟨b, 4, none⟩)]

set_option maxRecDepth 100000 in
set_option maxHeartbeats 1000000 in
theorem words_any (b : Nat) (w : World) :
    Calls Try.prog 34 #[.pointer (some ⟨b, 0, none⟩)] w fun e w' => e = .returned (.agg (ptrs b)) ∧ Below w.heap.size w w' := by
  go_enter Try.func34, Try.ntmps34
  go_wp2
  go_region
  go_wp2
  exact bodyPost_ret (v := .agg (ptrs b)) (by simp [results, ptrs, go_sem]) rfl ⟨rfl, ((Below.refl _ _).alloc (Nat.le_refl _) _).drew⟩

theorem number_at (s : ByteArray) (i j : Nat) (hi : i < j) (h8 : j ≤ i + 8) (hj : j ≤ s.size) (w : World) :
    Calls Try.prog 40 #[.string (s.extract i j)] w fun e w' => e = .returned (.int .u64 (piece s i j)) ∧ w = w' := by
  have hu := Num.unfixed_any (s.extract i j)
  rw [piece_is s i j hi h8 hj] at hu
  go_enter Try.func40, Try.ntmps40
  go_wp2_with fail
  refine (hu _).mono ?_
  rintro e w' ⟨rfl, rfl⟩
  go_wp2
  go_ret
  exact ⟨rfl, rfl⟩

theorem ret_b {a b : Bool} (h : a = b) : Ending.returned (.bool a) = .returned (.bool b) := by rw [h]
theorem eqb (S T : Int) : ((S == 0) == (T == 0)) = decide (S = 0 ↔ T = 0) := by
  have e : ∀ x : Int, (x == 0) = decide (x = 0) := fun _ => rfl
  rw [e, e]
  by_cases hS : S = 0 <;> by_cases hT : T = 0 <;> simp [hS, hT]
/-- Whether a head is fit, as an answer: a name that a walk leaves closed. -/
def fitB (M P T S R : Int) : Bool := decide (Fit M P T S R)

set_option maxRecDepth 100000 in
set_option maxHeartbeats 1000000 in
theorem rfit_any (M P T S R : Int) (C : Nat) (w : World) :
    Calls Try.prog 37 #[.agg #[.int .i64 M, .int .i64 P, .int .i64 T, .int .i64 S, .int .i64 R, .int .u64 C]] w fun e w' => e = .returned (.bool (fitB M P T S R)) ∧ Below w.heap.size w w' := by
  go_enter Try.func37, Try.ntmps37
  go_wp2
  all_goals
    go_ret
    refine ⟨ret_b ?_, (Below.refl _ _).alloc (Nat.le_refl _) _⟩
    unfold fitB
    first
      | exact (decide_eq_false (by unfold Fit; omega)).symm
      | (rw [eqb]; exact decide_eq_decide.2 (by unfold Fit; omega))

/-- The three numbers at their places. -/
theorem at3 (M T S : Int) : (∀ w, (Instr.index 95 (.agg #[.int .i64 M, .int .i64 T, .int .i64 S]) (.int .i64 0)).run Try.prog w = .ok (.int .i64 M) w) ∧ (∀ w, (Instr.index 95 (.agg #[.int .i64 M, .int .i64 T, .int .i64 S]) (.int .i64 1)).run Try.prog w = .ok (.int .i64 T) w) ∧
    (∀ w, (Instr.index 95 (.agg #[.int .i64 M, .int .i64 T, .int .i64 S]) (.int .i64 2)).run Try.prog w = .ok (.int .i64 S) w) := ⟨fun _ => by kernel_rfl, fun _ => by kernel_rfl, fun _ => by kernel_rfl⟩

set_option maxRecDepth 100000 in
set_option maxHeartbeats 4000000 in
theorem fit_no (M P T S R : Int) (C : Nat) (h : ¬ Fit M P T S R) (w : World) :
    Calls Try.prog 33 #[.agg #[.int .i64 M, .int .i64 P, .int .i64 T, .int .i64 S, .int .i64 R, .int .u64 C]] w fun e w' => e = .returned (.bool false) ∧ Below w.heap.size w w' := by
  obtain ⟨i0, i1, i2⟩ := at3 T S R
  have ways : (¬ M = 1 ∧ ¬ M = 2) ∨ ((M = 1 ∨ M = 2) ∧ P < 1) ∨ ((M = 1 ∨ M = 2) ∧ 1 ≤ P ∧ 4096 < P) ∨ ((M = 1 ∨ M = 2) ∧ 1 ≤ P ∧ P ≤ 4096 ∧ ((T < 0 ∨ P ≤ T) ∨ (0 ≤ T ∧ T < P ∧ (S < 0 ∨ P ≤ S)) ∨
      (0 ≤ T ∧ T < P ∧ 0 ≤ S ∧ S < P ∧ (R < 0 ∨ P ≤ R)) ∨ (0 ≤ T ∧ T < P ∧ 0 ≤ S ∧ S < P ∧ 0 ≤ R ∧ R < P ∧ ((S == 0) == (T == 0)) = false))) := by
    rw [eqb, decide_eq_false_iff_not]
    unfold Fit at h
    omega
  clear h
  rcases ways with ⟨h1, h2⟩ | ⟨rfl | rfl, h1⟩ | ⟨rfl | rfl, h1, h2⟩ | ⟨hm, h1, h2, h⟩
  iterate 5
    · go_enter Try.func33, Try.ntmps33
      go_wp2
      go_ret
      exact ⟨rfl, (Below.refl _ _).alloc (Nat.le_refl _) _⟩
  rcases hm with rfl | rfl
  all_goals
    go_enter Try.func33, Try.ntmps33
    go_wp2
    go_loop [30] (fun i => (i = .int .i64 0) ∨ (i = .int .i64 1 ∧ 0 ≤ T ∧ T < P) ∨ (i = .int .i64 2 ∧ 0 ≤ T ∧ T < P ∧ 0 ≤ S ∧ S < P) ∨ (i = .int .i64 3 ∧ 0 ≤ T ∧ T < P ∧ 0 ≤ S ∧ S < P ∧ 0 ≤ R ∧ R < P)) (fun i => 3 - (intOf i).toNat)
    case atStart => exact Or.inl rfl
    case round =>
      rcases hrel with rfl | ⟨rfl, a1, a2⟩ | ⟨rfl, a1, a2, a3, a4⟩ | ⟨rfl, a1, a2, a3, a4, a5, a6⟩
      · by_cases hc : T < 0 ∨ P ≤ T
        · rcases hc with hc | hc
          · go_wp2
            go_ret
            exact ⟨rfl, (Below.refl _ _).alloc (Nat.le_refl _) _⟩
          · by_cases hc2 : T < 0
            · go_wp2
              go_ret
              exact ⟨rfl, (Below.refl _ _).alloc (Nat.le_refl _) _⟩
            · go_wp2
              go_ret
              exact ⟨rfl, (Below.refl _ _).alloc (Nat.le_refl _) _⟩
        · have c1 : 0 ≤ T := by omega
          have c2 : T < P := by omega
          clear hc
          go_wp2
          go_round
          case rel => exact Or.inr (Or.inl ⟨rfl, c1, c2⟩)
          case measure => simp [intOf]
      · by_cases hc : S < 0 ∨ P ≤ S
        · rcases hc with hc | hc
          · go_wp2
            go_ret
            exact ⟨rfl, (Below.refl _ _).alloc (Nat.le_refl _) _⟩
          · by_cases hc2 : S < 0
            · go_wp2
              go_ret
              exact ⟨rfl, (Below.refl _ _).alloc (Nat.le_refl _) _⟩
            · go_wp2
              go_ret
              exact ⟨rfl, (Below.refl _ _).alloc (Nat.le_refl _) _⟩
        · have c1 : 0 ≤ S := by omega
          have c2 : S < P := by omega
          clear hc
          go_wp2
          go_round
          case rel => exact Or.inr (Or.inr (Or.inl ⟨rfl, a1, a2, c1, c2⟩))
          case measure => simp [intOf]
      · by_cases hc : R < 0 ∨ P ≤ R
        · rcases hc with hc | hc
          · go_wp2
            go_ret
            exact ⟨rfl, (Below.refl _ _).alloc (Nat.le_refl _) _⟩
          · by_cases hc2 : R < 0
            · go_wp2
              go_ret
              exact ⟨rfl, (Below.refl _ _).alloc (Nat.le_refl _) _⟩
            · go_wp2
              go_ret
              exact ⟨rfl, (Below.refl _ _).alloc (Nat.le_refl _) _⟩
        · have c1 : 0 ≤ R := by omega
          have c2 : R < P := by omega
          clear hc
          go_wp2
          go_round
          case rel => exact Or.inr (Or.inr (Or.inr ⟨rfl, a1, a2, a3, a4, c1, c2⟩))
          case measure => simp [intOf]
      · have hb : ((S == 0) == (T == 0)) = false := by
          rcases h with h | ⟨_, _, h⟩ | ⟨_, _, _, _, h⟩ | ⟨_, _, _, _, _, _, h⟩
          · omega
          · omega
          · omega
          · exact h
        clear h
        go_wp2
        go_ret
        exact ⟨rfl, (Below.refl _ _).alloc (Nat.le_refl _) _⟩

set_option maxRecDepth 100000 in
set_option maxHeartbeats 4000000 in
theorem fit_yes (M P T S R : Int) (C : Nat) (h : Fit M P T S R) (w : World) :
    Calls Try.prog 33 #[.agg #[.int .i64 M, .int .i64 P, .int .i64 T, .int .i64 S, .int .i64 R, .int .u64 C]] w fun e w' => e = .returned (.bool true) ∧ Below w.heap.size w w' := by
  have h0 : ((S == 0) == (T == 0)) = true := by rw [eqb, decide_eq_true_iff]; exact h.2.2.2.2.2.2
  obtain ⟨i0, i1, i2⟩ := at3 T S R
  unfold Fit at h
  obtain ⟨hm, h2, h3, ⟨h4, h5⟩, ⟨h6, h7⟩, ⟨h8, h9⟩, h10⟩ := h
  clear h10
  rcases hm with rfl | rfl
  all_goals
    go_enter Try.func33, Try.ntmps33
    go_wp2
    go_loop [30] (fun i => ∃ k : Nat, k ≤ 3 ∧ i = .int .i64 k) (fun i => 3 - (intOf i).toNat)
    case atStart => exact ⟨0, by omega, rfl⟩
    case round =>
      obtain ⟨k, hk, rfl⟩ := hrel
      have ways : k = 0 ∨ k = 1 ∨ k = 2 ∨ k = 3 := by omega
      clear hk
      rcases ways with rfl | rfl | rfl | rfl
      · go_wp2
        go_round
        case rel => exact ⟨1, by decide, rfl⟩
        case measure => simp [intOf]
      · go_wp2
        go_round
        case rel => exact ⟨2, by decide, rfl⟩
        case measure => simp [intOf]
      · go_wp2
        go_round
        case rel => exact ⟨3, by decide, rfl⟩
        case measure => simp [intOf]
      · go_wp2
        go_ret
        exact ⟨rfl, (Below.refl _ _).alloc (Nat.le_refl _) _⟩
end Head
end Go.Proofs.Ytpfolialjajafaa
