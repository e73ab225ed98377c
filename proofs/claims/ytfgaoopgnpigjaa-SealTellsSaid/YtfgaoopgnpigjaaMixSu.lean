/-
  The sum under a name that a walk leaves closed; what it does at joined texts, at noughts, at changed groups.
-/
import Derived.Test.YtfgaoopgnpigjaaMixRef
namespace Go.Proofs.Ytfgaoopgnpigjaa
open Go.RowKit
namespace Mix

/-- The sum: a name that the walk leaves closed. -/
def su (n : Nat) (s : ByteArray) : Nat := sumN n s.data.toList
theorem su_lt (n : Nat) (s : ByteArray) (hn : n < 18446744073709551616) : su n s < 18446744073709551616 := sumN_lt _ _ hn
theorem su_goes (n : Nat) (s t : ByteArray) (hn : n < 18446744073709551616) (h : s.size % 4 = 0) : su n (s ++ t) = su (su n s) t := by
  unfold su
  have e : (s ++ t).data.toList = s.data.toList ++ t.data.toList := by simp
  rw [e]
  exact sumN_goes n _ _ hn (by simpa using h)

theorem su_c (n : Nat) (s : ByteArray) (hn : n < 18446744073709551616) (hs : s.size ≤ 1000000000000000) (w : World) :
    Calls Try.prog 49 #[.int .u64 n, .string s] w fun e w' => e = .returned (.int .u64 (su n s)) ∧ Below w.heap.size w w' := sum_any n hn s hs w

/-- A text with j noughts behind it. -/
def pad (s : ByteArray) (j : Nat) : ByteArray := s ++ ⟨Array.replicate j 0⟩
theorem pad_zero (s : ByteArray) : pad s 0 = s := by unfold pad; exact ByteArray.append_empty
theorem pad_size (s : ByteArray) (j : Nat) : (pad s j).size = s.size + j := by
  unfold pad; rw [ByteArray.size_append]; congr 1; simp [ByteArray.size]
theorem pad_list (s : ByteArray) (j : Nat) : (pad s j).data.toList = s.data.toList ++ List.replicate j 0 := by unfold pad; simp
theorem pad_succ (s : ByteArray) (j : Nat) : pad s j ++ ⟨#[0]⟩ = pad s (j + 1) := by
  apply ByteArray.ext
  apply Array.ext'
  have e : (pad s j ++ ⟨#[0]⟩).data.toList = (pad s j).data.toList ++ [0] := by simp
  rw [e, pad_list, pad_list, List.replicate_succ', List.append_assoc]

theorem su_pad (n j : Nat) (s : ByteArray) (h : (s.size + j + 3) / 4 = (s.size + 3) / 4) : su n (pad s j) = su n s := by
  unfold su
  rw [pad_list]
  exact sumN_pad n j _ (by simpa using h)
def four : ByteArray := ⟨#[0, 0, 0, 0]⟩
theorem su_four (n : Nat) (hn : n < 18446744073709551616) : su n four = n ↔ n = 0 := by
  have h := sumN_nought n hn
  unfold su four
  simpa using h

end Mix
end Go.Proofs.Ytfgaoopgnpigjaa
