/-
  Contracts of layer 6's small functions: Good and Compare, the project's and the reference's.
-/
import Derived.Test.YtpabhekbkdpkiaaDoorValShelf
import Derived.Test.YtpabhekbkdpkiaaDoorValShow
import Derived.Test.YtpabhekbkdpkiaaDoorNumOwn
import Derived.Lib.Hide
import Derived.ProofKit
namespace Go.Proofs.YtpabhekbkdpkiaaDoor
open Go.RowKit
namespace Va
open Num (hid)
/-- The text of a value as a list. -/
abbrev bl (S : ByteArray) : Bs := S.data.toList
theorem bl_len (S : ByteArray) : (bl S).length = S.size := by simp [bl]
theorem bl_empty (S : ByteArray) : S.toList.isEmpty = decide (bl S = []) := by
  rw [ByteArray.toList_eq]
  cases h : S.data.toList <;> simp [bl, h]
def goodB (K N : Int) (S : ByteArray) : Bool := decide (Good K N (bl S))
theorem ret_b {a b : Bool} (h : a = b) : Ending.returned (.bool a) = .returned (.bool b) := by rw [h]
theorem good_0 (N : Int) (S : ByteArray) : goodB 0 N S = (decide (N = 0) && decide (bl S = [])) := by
  unfold goodB Good; rw [Bool.eq_iff_iff]; simp
theorem good_1 (N : Int) (S : ByteArray) : goodB 1 N S = decide (bl S = []) := by
  unfold goodB Good; rw [Bool.eq_iff_iff]; simp
theorem good_2 (N : Int) (S : ByteArray) : goodB 2 N S = (decide (N = 0) && decide ((S.size : Int) ≤ 2000)) := by
  unfold goodB Good; rw [Bool.eq_iff_iff]; simp; omega
theorem good_3 (N : Int) (S : ByteArray) : goodB 3 N S = (decide (N = 0) && decide ((S.size : Int) ≤ 2000)) := by
  unfold goodB Good; rw [Bool.eq_iff_iff]; simp; omega
theorem good_not {K : Int} (h0 : K ≠ 0) (h1 : K ≠ 1) (h2 : K ≠ 2) (h3 : K ≠ 3) (N : Int) (S : ByteArray) : goodB K N S = false := by
  unfold goodB Good; simp [h0, h1, h2, h3]
set_option maxHeartbeats 1000000 in
theorem good_any (K N : Int) (S : ByteArray) (w : World) : Calls Tryd.prog 10 #[.agg #[.int .i64 K, .int .i64 N, .string S]] w fun e w' => e = .returned (.bool (goodB K N S)) ∧ Below w.heap.size w w' := by
  go_enter Tryd.func10, Tryd.ntmps10
  go_wp2
  all_goals (
    go_ret
    refine ⟨ret_b ?_, (Below.refl _ _).alloc (Nat.le_refl _) _⟩
    simp only [beq_iff_eq, beq_eq_false_iff_ne] at *
    first
    | (subst K; rw [good_0]; simp_all [bl_empty])
    | (subst K; rw [good_1]; simp_all [bl_empty])
    | (subst K; rw [good_2]; simp_all)
    | (subst K; rw [good_3]; simp_all)
    | (rw [good_not ‹_› ‹_› ‹_› ‹_›]))
set_option maxHeartbeats 1000000 in
theorem rgood_any (K N : Int) (S : ByteArray) (w : World) : Calls Tryd.prog 11 #[.agg #[.int .i64 K, .int .i64 N, .string S]] w fun e w' => e = .returned (.bool (goodB K N S)) ∧ Below w.heap.size w w' := by
  go_enter Tryd.func11, Tryd.ntmps11
  go_wp2
  all_goals (
    go_ret
    refine ⟨ret_b ?_, (Below.refl _ _).alloc (Nat.le_refl _) _⟩
    simp only [beq_iff_eq, beq_eq_false_iff_ne] at *
    first
    | (subst K; rw [good_0]; simp_all [bl_empty])
    | (subst K; rw [good_1]; simp_all [bl_empty])
    | (subst K; rw [good_2]; simp_all)
    | (subst K; rw [good_3]; simp_all)
    | (rw [good_not ‹_› ‹_› ‹_› ‹_›]))
end Va
end Go.Proofs.YtpabhekbkdpkiaaDoor
