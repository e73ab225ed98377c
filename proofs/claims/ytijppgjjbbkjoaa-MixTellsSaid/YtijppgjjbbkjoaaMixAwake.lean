/-
  Contract of the statements' own awake: it answers true; the old memory stays.
-/
import Derived.Test.YtijppgjjbbkjoaaMixRef
namespace Go.Proofs.Ytijppgjjbbkjoaa
open Go.RowKit
namespace Mix

theorem below_then {a b c : World} (h : Below a.heap.size a b) (k : Below b.heap.size b c) : Below a.heap.size a c := h.trans (k.mono h.size)

theorem sum_is (n m : Nat) (s : ByteArray) (hn : n < 18446744073709551616) (hs : s.size ≤ 1000000000000000) (h : sumN n s.data.toList = m) (w : World) :
    Calls Try.prog 8 #[.int .u64 n, .string s] w fun e w' => e = .returned (.int .u64 m) ∧ Below w.heap.size w w' := by
  subst h; exact sum_any n hn s hs w

theorem sum_c1 (w : World) : Calls Try.prog 8 #[.int .u64 0, .string ⟨#[0, 0, 0, 1]⟩] w fun e w' => e = .returned (.int .u64 4294967552) ∧ Below w.heap.size w w' :=
  (sum_is 0 4294967552 ⟨#[0, 0, 0, 1]⟩ (by decide +kernel) (by decide +kernel) (by decide +kernel) w).mono fun _ _ h => h
theorem sum_c2 (w : World) : Calls Try.prog 8 #[.int .u64 0, .string ⟨#[]⟩] w fun e w' => e = .returned (.int .u64 0) ∧ Below w.heap.size w w' :=
  (sum_is 0 0 ⟨#[]⟩ (by decide +kernel) (by decide +kernel) (by decide +kernel) w).mono fun _ _ h => h
theorem sum_c3 (w : World) : Calls Try.prog 8 #[.int .u64 1, .string ⟨#[0, 0, 0, 0]⟩] w fun e w' => e = .returned (.int .u64 4294967552) ∧ Below w.heap.size w w' :=
  (sum_is 1 4294967552 ⟨#[0, 0, 0, 0]⟩ (by decide +kernel) (by decide +kernel) (by decide +kernel) w).mono fun _ _ h => h
theorem sum_c4 (w : World) : Calls Try.prog 8 #[.int .u64 7, .string ⟨#[]⟩] w fun e w' => e = .returned (.int .u64 7) ∧ Below w.heap.size w w' :=
  (sum_is 7 7 ⟨#[]⟩ (by decide +kernel) (by decide +kernel) (by decide +kernel) w).mono fun _ _ h => h

set_option maxRecDepth 100000 in
set_option maxHeartbeats 800000 in
theorem awake_any (w : World) : Calls Try.prog 7 #[] w fun e w' => e = .returned (.bool true) ∧ Below w.heap.size w w' := by
  go_enter Try.func7, Try.ntmps7
  go_wp2_with fail
  refine (sum_c1 _).mono ?_
  rintro e w1 ⟨rfl, hb1⟩
  go_wp2_with fail
  refine (sum_c2 _).mono ?_
  rintro e w2 ⟨rfl, hb2⟩
  go_wp2_with fail
  refine (sum_c3 _).mono ?_
  rintro e w3 ⟨rfl, hb3⟩
  go_wp2_with fail
  refine (sum_c4 _).mono ?_
  rintro e w4 ⟨rfl, hb4⟩
  go_wp2
  go_ret
  exact ⟨rfl, below_then (below_then (below_then hb1 hb2) hb3) hb4⟩

end Mix
end Go.Proofs.Ytijppgjjbbkjoaa
