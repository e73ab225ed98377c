/-
  Contracts of the reference's Fold and Unfold: what each call returns; the world stays.
-/
import Derived.Test.YtfopgnofnckgaaaNumFold
namespace Go.Proofs.Ytfopgnofnckgaaa
open Go.RowKit
namespace Num

set_option maxHeartbeats 400000 in
theorem rfold_any (n : Int) (h1 : -9223372036854775808 ≤ n) (h2 : n ≤ 9223372036854775807) (w : World) :
    Calls Try.prog 15 #[.int .i64 n] w fun e w' => e = .returned (.int .u64 (foldI n)) ∧ w = w' := by
  go_enter Try.func15, Try.ntmps15
  go_wp2
  · go_ret
    exact ⟨ret_u (by unfold foldI; rw [if_pos (by assumption)]), rfl⟩
  · have hn : n < 0 := by assumption
    go_ret
    exact ⟨ret_u (by unfold foldI; rw [if_neg (by omega)]; omega), rfl⟩

set_option maxHeartbeats 400000 in
theorem runfold_any (n : Int) (h1 : 0 ≤ n) (h2 : n ≤ 18446744073709551615) (w : World) :
    Calls Try.prog 17 #[.int .u64 n] w fun e w' => e = .returned (.int .i64 (unfoldI n)) ∧ w = w' := by
  go_enter Try.func17, Try.ntmps17
  go_wp2
  · have hn : (n % 2 == 0) = true := by assumption
    go_ret
    exact ⟨ret_u (by unfold unfoldI; rw [if_pos (by simpa using hn)]), rfl⟩
  · have hn : (n % 2 == 0) = false := by assumption
    go_ret
    exact ⟨ret_u (by unfold unfoldI; rw [if_neg (by simpa using hn)]), rfl⟩

end Num
end Go.Proofs.Ytfopgnofnckgaaa
