/-
  The walk of MixNoughts: it answers true; the old memory stays.
-/
import Derived.Test.YtijppgjjbbkjoaaMixSu
namespace Go.Proofs.Ytijppgjjbbkjoaa.mixNoughts
open Go.RowKit Go.Proofs.Ytijppgjjbbkjoaa.Mix
open Num (hid)

/-- How many noughts a text lacks to be of whole groups. -/
def lacks : Value → Nat
  | .string t => (4 - t.size % 4) % 4
  | _ => 0

theorem sum_pad (n j : Nat) (s : ByteArray) (hn : n < 18446744073709551616) (hs : s.size ≤ 140737488351232) (h : (s.size + j + 3) / 4 = (s.size + 3) / 4) (w : World) :
    Calls Try.prog 8 #[.int .u64 n, .string (pad s j)] w fun e w' => e = .returned (.int .u64 (su n s)) ∧ Below w.heap.size w w' := by
  have h1 := su_c n (pad s j) hn (by rw [pad_size]; omega) w
  rw [su_pad n j s h] at h1
  exact h1
theorem sum_four (n j : Nat) (s : ByteArray) (hn : n < 18446744073709551616) (hs : s.size ≤ 140737488351232) (hj : j ≤ 3) (h : (s.size + j) % 4 = 0) (w : World) :
    Calls Try.prog 8 #[.int .u64 n, .string (pad s j ++ ⟨#[0, 0, 0, 0]⟩)] w fun e w' => e = .returned (.int .u64 (su (su n s) four)) ∧ Below w.heap.size w w' := by
  have h1 := su_c n (pad s j ++ four) hn (by rw [ByteArray.size_append, pad_size]; have : four.size = 4 := rfl; omega) w
  rw [su_goes n _ _ hn (by rw [pad_size]; exact h), su_pad n j s (by omega)] at h1
  exact h1

set_option maxRecDepth 100000 in
set_option maxHeartbeats 800000 in
theorem walk (a0 : Int) (a1 : ByteArray) (w0 : (Lit.int .u64 a0).wf = true) (hs : a1.size ≤ 140737488351232) (w : World) :
    Calls Try.prog 6 #[.int .u64 a0, .string a1] w fun e w' => e = .returned (.bool true) ∧ Below w.heap.size w w' := by
  obtain ⟨n, hn, rfl⟩ := Num.nat_u64 w0
  clear w0
  go_enter Try.func6, Try.ntmps6
  go_wp2_with fail
  refine (awake_any _).mono ?_
  rintro e w1 ⟨rfl, hb1⟩
  go_wp2_with fail
  go_loop [5] (fun t => ∃ j : Nat, j ≤ (4 - a1.size % 4) % 4 ∧ t = .string (pad a1 j)) (fun t => lacks t)
  case atStart => exact ⟨0, Nat.zero_le _, by rw [pad_zero]⟩
  case round =>
    obtain ⟨j, hj, rfl⟩ := hrel
    have hps := pad_size a1 j
    by_cases hd : (a1.size + j) % 4 = 0
    · go_wp2_with fail
      refine (su_c n a1 hn (by omega) _).mono ?_
      rintro e w2 ⟨rfl, hb2⟩
      go_wp2_with fail
      refine (sum_pad n j a1 hn hs (by omega) _).mono ?_
      rintro e w3 ⟨rfl, hb3⟩
      go_wp2_with fail
      refine (sum_four n j a1 hn hs (by omega) (by omega) _).mono ?_
      rintro e w4 ⟨rfl, hb4⟩
      have h4 := su_four (su n a1) (su_lt _ _ hn)
      generalize su (su n a1) four = z at h4
      generalize su n a1 = y at h4
      by_cases hy : y = 0
      · have hz : z = y := h4.2 hy
        subst hz
        have e2 : ((z : Int) == 0) = true := by simp; omega
        clear h4
        go_wp2
        go_ret
        exact ⟨rfl, below_then (below_then (below_then hb1 hb2) hb3) hb4⟩
      · have hz : ¬ z = y := fun h => hy (h4.1 h)
        have e1 : ((z : Int) == (y : Int)) = false := by simp; omega
        have e2 : ((y : Int) == 0) = false := by simp; omega
        clear h4
        go_wp2
        go_ret
        exact ⟨rfl, below_then (below_then (below_then hb1 hb2) hb3) hb4⟩
    · go_wp2_with fail
      go_round
      case rel => exact ⟨j + 1, by omega, by rw [pad_succ]⟩
      case measure => rw [pad_succ]; simp only [lacks, pad_size]; omega

end Go.Proofs.Ytijppgjjbbkjoaa.mixNoughts
