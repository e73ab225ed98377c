/-
  Contracts of number and Sum, the project's, and of the reference's Sum: what each call returns; the world stays. What Open answers, as plain functions.
-/
import Derived.Test.YtfgaoopgnpigjaaSealClose
namespace Go.Proofs.Ytfgaoopgnpigjaa
open Go.RowKit
namespace Seal
open Num (hid fixF unfF)
open Mix (su sumN)

/-- The number that the bytes from i to j of a sector say: a name that a walk leaves closed. -/
def part (s : ByteArray) (i j : Nat) : Nat := numAt s.data.toList i (j - i)
theorem part_is (s : ByteArray) (i j : Nat) (hi : i < j) (h8 : j ≤ i + 8) (hj : j ≤ s.size) : Num.unfixL (s.extract i j).data.toList = (part s i j, 0) := by
  have e : (s.extract i j).data.toList = (s.data.toList.drop i).take (j - i) := by
    simp [ByteArray.data_extract]
  unfold Num.unfixL part numAt
  rw [e, if_pos (by simp; omega)]
theorem part_lt (s : ByteArray) (i j : Nat) : part s i j < 256 ^ (j - i) := numAt_lt _ _ _

theorem number_at (s : ByteArray) (i j : Nat) (hi : i < j) (h8 : j ≤ i + 8) (hj : j ≤ s.size) (w : World) :
    Calls Try.prog 52 #[.string (s.extract i j)] w fun e w' => e = .returned (.int .u64 (part s i j)) ∧ w = w' := by
  have hu := Num.unfixed_any (s.extract i j)
  rw [part_is s i j hi h8 hj] at hu
  go_enter Try.func52, Try.ntmps52
  go_wp2_with fail
  refine (hu _).mono ?_
  rintro e w' ⟨rfl, rfl⟩
  go_wp2
  go_ret
  exact ⟨rfl, rfl⟩
theorem runfixed_at (s : ByteArray) (i j : Nat) (hi : i < j) (h8 : j ≤ i + 8) (hj : j ≤ s.size) (w : World) :
    Calls Try.prog 53 #[.string (s.extract i j)] w fun e w' => e = .returned (.tuple #[.int .u64 (part s i j), .int .i64 0]) ∧ w = w' := by
  have hu := Num.runfixed_any (s.extract i j) w
  rw [part_is s i j hi h8 hj] at hu
  exact hu.mono fun _ _ h => h

/-- Sum's answer. -/
def sumOf (s : ByteArray) : Nat := if s.size = 256 then part s 248 256 else 0
theorem sumOf_yes {s : ByteArray} (h : s.size = 256) : sumOf s = part s 248 256 := if_pos h
theorem sumOf_no {s : ByteArray} (h : ¬ s.size = 256) : sumOf s = 0 := if_neg h
theorem sumOf_lt (s : ByteArray) : sumOf s < 18446744073709551616 := by
  unfold sumOf
  split
  · exact part_lt s 248 256
  · decide

set_option maxHeartbeats 400000 in
theorem sum_any (s : ByteArray) (w : World) :
    Calls Try.prog 16 #[.string s] w fun e w' => e = .returned (.int .u64 (sumOf s)) ∧ w = w' := by
  by_cases h : s.size = 256
  · rw [sumOf_yes h]
    have hn := number_at s 248 256 (by decide) (by decide) (by omega)
    have ht : ((s.size : Int) != 256) = false := by simp; omega
    have hs : (248 : Int) ≤ (s.size : Int) := by omega
    have es : s.size = 256 := h
    have HS := hid h
    clear h es
    go_enter Try.func16, Try.ntmps16
    go_wp2_with fail
    rw [HS.out]
    refine (hn _).mono ?_
    rintro e w' ⟨rfl, rfl⟩
    go_wp2
    go_ret
    exact ⟨rfl, rfl⟩
  · rw [sumOf_no h]
    have ht : ((s.size : Int) != 256) = true := by simp; omega
    clear h
    go_enter Try.func16, Try.ntmps16
    go_wp2
    go_ret
    exact ⟨rfl, rfl⟩
set_option maxHeartbeats 400000 in
theorem rsum_any (s : ByteArray) (w : World) :
    Calls Try.prog 17 #[.string s] w fun e w' => e = .returned (.int .u64 (sumOf s)) ∧ w = w' := by
  by_cases h : s.size = 256
  · rw [sumOf_yes h]
    have hn := runfixed_at s 248 256 (by decide) (by decide) (by omega)
    have ht : ((s.size : Int) != 256) = false := by simp; omega
    have hs : (248 : Int) ≤ (s.size : Int) := by omega
    have HS := hid h
    clear h
    go_enter Try.func17, Try.ntmps17
    go_wp2_with fail
    rw [HS.out]
    refine (hn _).mono ?_
    rintro e w' ⟨rfl, rfl⟩
    go_wp2
    go_ret
    exact ⟨rfl, rfl⟩
  · rw [sumOf_no h]
    have ht : ((s.size : Int) != 256) = true := by simp; omega
    clear h
    go_enter Try.func17, Try.ntmps17
    go_wp2
    go_ret
    exact ⟨rfl, rfl⟩

/-- Whether bytes are a sealed sector; what Open answers. -/
instance (l : List UInt8) : Decidable (right l) := by unfold right; infer_instance
def rightB (s : ByteArray) : Bool := decide (s.size = 256 ∧ right s.data.toList)
def zeroV : Value := .agg #[.int .i64 0, .int .i64 0, .int .u64 0, .string ⟨#[]⟩]
def saysV (s : ByteArray) : Value := .agg #[.int .i64 (part s 232 236 : Nat), .int .i64 (part s 236 240 : Nat), .int .u64 (part s 240 248 : Nat), .string (s.extract 0 232)]
def openV (s : ByteArray) : Value := if rightB s then saysV s else zeroV
def openE (s : ByteArray) : Int := if s.size = 256 then (if rightB s then 0 else 20) else 1
theorem open_size {s : ByteArray} (h : ¬ s.size = 256) : openV s = zeroV ∧ openE s = 1 := by
  have e : rightB s = false := decide_eq_false (fun hh => h hh.1)
  unfold openV openE
  rw [e, if_neg h]
  exact ⟨rfl, rfl⟩
theorem open_seal {s : ByteArray} (h : s.size = 256) (hr : ¬ right s.data.toList) : openV s = zeroV ∧ openE s = 20 := by
  have e : rightB s = false := decide_eq_false (fun hh => hr hh.2)
  unfold openV openE
  rw [e, if_pos h]
  exact ⟨rfl, rfl⟩
theorem open_says {s : ByteArray} (h : s.size = 256) (hr : right s.data.toList) : openV s = saysV s ∧ openE s = 0 := by
  have e : rightB s = true := decide_eq_true ⟨h, hr⟩
  unfold openV openE
  rw [e, if_pos h]
  exact ⟨rfl, rfl⟩
theorem sum_of_right {s : ByteArray} : right s.data.toList ↔ part s 248 256 = su 1 (s.extract 0 248) := by
  unfold right part su
  have e : (s.extract 0 248).data.toList = s.data.toList.take 248 := by simp [ByteArray.data_extract]
  rw [e]

end Seal
end Go.Proofs.Ytfgaoopgnpigjaa
