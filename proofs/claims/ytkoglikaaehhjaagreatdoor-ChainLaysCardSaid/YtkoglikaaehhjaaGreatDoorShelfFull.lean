/-
  Contract of Full: the bytes of a page; and of a statement's own act: what it puts.
-/
import Derived.Test.YtkoglikaaehhjaaGreatDoorShelfFree
import Derived.Test.YtkoglikaaehhjaaGreatDoorGrpNumC
namespace Go.Proofs.YtkoglikaaehhjaaGreatDoor
open Go.RowKit
namespace Sh
open Sp
open Num (hid bcells)
open Mem (Bs bs ptr)
def zerosL (n : Nat) : List UInt8 := List.replicate n 0
def zerosS (n : Nat) : ByteArray := ⟨(zerosL n).toArray⟩
theorem zerosS_size (n : Nat) : (zerosS n).size = n := by show (zerosL n).toArray.size = n; simp [zerosL]
/-- A made row of noughts. -/
theorem make_row (w : World) (n : Nat) (hn : n ≤ 1000000) : ∃ w', (Instr.makeSlice 84 (.int .i64 (n : Int)) (.int .i64 (n : Int))).run Tryz.prog w = .ok (.slice (some ⟨w.heap.size, 0, none⟩) n n) w' ∧
    w'.ownsRow w.heap.size 5 1 (.slice (some ⟨w.heap.size, 0, none⟩) n n) n (bcells (zerosL n)) ∧ Below w.heap.size w w' := by
  obtain ⟨i, hi, h0, h1, h2⟩ := info_parts Num.Tryz.info5
  obtain ⟨w', hr, ho, hg⟩ := run_make_full (P := Tryz.prog) w w.heap.size 84 5 i _ 1 Tryz.underlying84 hi h0 h1 .i64 .i64 n (by rw [h2]; omega) (by unfold maxLen; omega) (Nat.le_refl _)
  rw [Nat.mul_one] at ho
  have hz := Num.made_zero ho
  rw [List.append_nil] at hz
  exact ⟨w', hr, hz, (Below.refl _ w).grown hg (Nat.le_refl _) (fun k hk => by cases hk)⟩
/-- string(make([]byte, n)) in two steps. -/
theorem make_conv (w : World) (n : Nat) (h1 : 1 ≤ n) (hn : n ≤ 1000000) : ∃ w', (Instr.makeSlice 84 (.int .i64 (n : Int)) (.int .i64 (n : Int))).run Tryz.prog w = .ok (.slice (some ⟨w.heap.size, 0, none⟩) n n) w' ∧
    (convert 84 9 (.slice (some ⟨w.heap.size, 0, none⟩) n n)).run Tryz.prog w' = .ok (.string (zerosS n)) w' ∧ Below w.heap.size w w' := by
  obtain ⟨w', hr, ho, hb⟩ := make_row w n hn
  exact ⟨w', hr, Num.conv_own (P := Tryz.prog) (l := zerosL n) (n := n) 84 9 5 Tryz.underlying84 Tryz.underlying5 Tryz.underlying9 (by simp [zerosL]) (by simp [zerosL]; omega) ho, hb⟩

def full (s : ByteArray) : ByteArray := if 232 ≤ s.size then s.extract 0 232 else s ++ zerosS (232 - s.size)
theorem full_size (s : ByteArray) : (full s).size = 232 := by
  unfold full
  split
  · rename_i h; rw [ByteArray.size_extract]; omega
  · rename_i h; rw [ByteArray.size_append, zerosS_size]; omega

set_option maxRecDepth 100000 in
set_option maxHeartbeats 400000 in
theorem full_any (s : ByteArray) (w : World) :
    Calls Tryz.prog 27 #[.string s] w fun e w' => e = .returned (.string (full s)) ∧ Below w.heap.size w w' := by
  by_cases h : 232 ≤ s.size
  · have hf : full s = s.extract 0 232 := if_pos h
    rw [hf]
    have h1 : (232 : Int) ≤ (s.size : Int) := by omega
    have h2 : 232 ≤ s.size := h
    clear h hf
    go_enter Tryz.func27, Tryz.ntmps27
    go_wp2
    go_ret
    exact ⟨rfl, Below.refl _ _⟩
  · have hf : full s = s ++ zerosS (232 - s.size) := if_neg h
    rw [hf]
    have h1 : ¬ (232 : Int) ≤ (s.size : Int) := by omega
    obtain ⟨w1, hmk, hcv, hb⟩ := make_conv w (232 - s.size) (by omega) (by omega)
    have e : (((232 - s.size : Nat) : Int)) = 232 - (s.size : Int) := by omega
    rw [e] at hmk
    have hz : ¬ 9223372036854775807 < s.size + (zerosS (232 - s.size)).size := by rw [zerosS_size]; omega
    clear h hf e
    go_enter Tryz.func27, Tryz.ntmps27
    go_wp2
    go_ret
    exact ⟨rfl, hb⟩

theorem full_data (s : ByteArray) : ∃ l : Bs, full s = bs l ∧ l.length = 232 := by
  refine ⟨(full s).data.toList, ?_, ?_⟩
  · show _ = (⟨(full s).data.toList.toArray⟩ : ByteArray)
    rw [Array.toArray_toList]
  · have := full_size s
    rw [Array.length_toList]
    exact this
end Sh
end Go.Proofs.YtkoglikaaehhjaaGreatDoor
