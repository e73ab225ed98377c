/-
  Contract of the statements' own awake: it answers true; the old memory stays.
-/
import Derived.Test.YtfopgnofnckgaaaNumUnfixed
import Derived.Test.YtfopgnofnckgaaaNumFixed
namespace Go.Proofs.Ytfopgnofnckgaaa
open Go.RowKit
namespace Num

theorem below_then {a b c : World} (h : Below a.heap.size a b) (k : Below b.heap.size b c) : Below a.heap.size a c := h.trans (k.mono h.size)

theorem fixed8_any (n : Nat) (hn : n < 18446744073709551616) (w : World) :
    Calls Try.prog 10 #[.int .u64 n, .int .i64 8] w fun e w' => e = .returned (.string ⟨(fix8 n).toArray⟩) ∧ Below w.heap.size w w' :=
  (fixed_any n hn 8 w).mono fun _ _ h => h

theorem unvar_c1 (w : World) : Calls Try.prog 18 #[.string ⟨#[172, 2, 120]⟩] w fun e w' => e = .returned (.tuple #[.int .u64 300, .int .i64 2, .int .i64 0]) ∧ w = w' :=
  (unvar_any ⟨#[172, 2, 120]⟩ w (by decide)).mono fun _ _ h => h
theorem unvar_c2 (w : World) : Calls Try.prog 18 #[.string ⟨#[128, 0]⟩] w fun e w' => e = .returned (.tuple #[.int .u64 0, .int .i64 0, .int .i64 4]) ∧ w = w' :=
  (unvar_any ⟨#[128, 0]⟩ w (by decide)).mono fun _ _ h => h
theorem unvar_c3 (w : World) : Calls Try.prog 18 #[.string ⟨#[128]⟩] w fun e w' => e = .returned (.tuple #[.int .u64 0, .int .i64 0, .int .i64 3]) ∧ w = w' :=
  (unvar_any ⟨#[128]⟩ w (by decide)).mono fun _ _ h => h
theorem unfixed_c (w : World) : Calls Try.prog 20 #[.string ⟨#[1, 2]⟩] w fun e w' => e = .returned (.tuple #[.int .u64 258, .int .i64 0]) ∧ w = w' :=
  (unfixed_any ⟨#[1, 2]⟩ w).mono fun _ _ h => h
theorem fixed_c1 (w : World) : Calls Try.prog 10 #[.int .u64 258, .int .i64 2] w fun e w' => e = .returned (.string ⟨#[1, 2]⟩) ∧ Below w.heap.size w w' :=
  (fixed_any 258 (by decide) 2 w).mono fun _ _ h => h
theorem fixed_c2 (w : World) : Calls Try.prog 10 #[.int .u64 258, .int .i64 1] w fun e w' => e = .returned (.string ⟨#[2]⟩) ∧ Below w.heap.size w w' :=
  (fixed_any 258 (by decide) 1 w).mono fun _ _ h => h
theorem var_c (w : World) : Calls Try.prog 12 #[.int .u64 128] w fun e w' => e = .returned (.string ⟨#[128, 1]⟩) ∧ Below w.heap.size w w' :=
  (var_any 128 (by decide) w).mono fun _ _ h => h
theorem fold_c (w : World) : Calls Try.prog 14 #[.int .i64 (-1)] w fun e w' => e = .returned (.int .u64 1) ∧ w = w' :=
  (fold_any (-1) (by decide) (by decide) w).mono fun _ _ h => h
theorem unfold_c (w : World) : Calls Try.prog 16 #[.int .u64 2] w fun e w' => e = .returned (.int .i64 1) ∧ w = w' :=
  (unfold_any 2 (by decide) (by decide) w).mono fun _ _ h => h

set_option maxRecDepth 100000 in
set_option maxHeartbeats 1000000 in
theorem awake_any (w : World) : Calls Try.prog 9 #[] w fun e w' => e = .returned (.bool true) ∧ Below w.heap.size w w' := by
  go_enter Try.func9, Try.ntmps9
  go_wp2_with fail
  refine (unvar_c1 _).mono ?_
  rintro e w' ⟨rfl, rfl⟩
  go_wp2_with fail
  refine (unvar_c2 _).mono ?_
  rintro e w' ⟨rfl, rfl⟩
  go_wp2_with fail
  refine (unvar_c3 _).mono ?_
  rintro e w' ⟨rfl, rfl⟩
  go_wp2_with fail
  refine (unfixed_c _).mono ?_
  rintro e w' ⟨rfl, rfl⟩
  go_wp2_with fail
  refine (fixed_c1 _).mono ?_
  rintro e w1 ⟨rfl, hb1⟩
  go_wp2_with fail
  refine (fixed_c2 _).mono ?_
  rintro e w2 ⟨rfl, hb2⟩
  go_wp2_with fail
  refine (var_c _).mono ?_
  rintro e w3 ⟨rfl, hb3⟩
  go_wp2_with fail
  refine (fold_c _).mono ?_
  rintro e w' ⟨rfl, rfl⟩
  go_wp2_with fail
  refine (unfold_c _).mono ?_
  rintro e w' ⟨rfl, rfl⟩
  go_wp2
  go_ret
  exact ⟨rfl, below_then (below_then hb1 hb2) hb3⟩

end Num
end Go.Proofs.Ytfopgnofnckgaaa
