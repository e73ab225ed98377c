/-
  Contract of Sum, the project's: what each call returns; the old memory stays.
-/
import Derived.Test.YtfgaoopgnpigjaaMixCode
namespace Go.Proofs.Ytfgaoopgnpigjaa
open Go.RowKit
namespace Mix
open Num (hid)

theorem gb_drop (l : List UInt8) (i j : Nat) : gb (l.drop i) j = gb l (i + j) := by
  unfold gb; rw [List.getD_eq_getElem?_getD, List.getD_eq_getElem?_getD, List.getElem?_drop]
theorem grp_drop (l : List UInt8) (i : Nat) : grp (l.drop i) 0 = grp l i := by
  simp only [grp, gb_drop, Nat.zero_add, Nat.add_zero]
theorem group_cut (s : ByteArray) (hs : s.size ≤ 1000000000000000) (i : Nat) (w : World) :
    Calls Try.prog 91 #[.string (s.extract i s.size)] w fun e w' => e = .returned (.int .u32 (grp s.data.toList i : Nat)) ∧ w = w' := by
  have h := group_any (s.extract i s.size) (by unfold maxLen; simp; omega) w
  have e : (s.extract i s.size).data.toList = s.data.toList.drop i := by
    simp [ByteArray.data_extract]
    exact List.take_of_length_le (by simp)
  rw [e, grp_drop] at h
  exact h

theorem below2 (w : World) (o o' : Obj) : Below w.heap.size w ((w.alloc o).alloc o') := ((Below.refl _ _).alloc (Nat.le_refl _) o).alloc (by simp) o'
theorem two_new (n : Nat) (w : World) : Two w.heap.size (w.heap.size + 1) ((n / 4294967296 : Nat) : Int) ((n % 4294967296 : Nat) : Int) ((w.alloc (.cells #[.int .u32 ((n : Int) / 4294967296)] 112)).alloc (.cells #[.int .u32 ((n : Int) % 4294967296)] 112)) := by
  have e1 : (n : Int) / 4294967296 = ((n / 4294967296 : Nat) : Int) := by omega
  have e2 : (n : Int) % 4294967296 = ((n % 4294967296 : Nat) : Int) := by omega
  refine ⟨?_, ?_, by omega⟩
  · rw [Below.heap_alloc _ _ _ (by simp), e1]; exact heap_alloc_new _ _
  · rw [e2]; simpa using heap_alloc_new (w.alloc (.cells #[.int .u32 ((n : Int) / 4294967296)] 112)) (.cells #[.int .u32 ((n % 4294967296 : Nat) : Int)] 112)

/-- The two halves behind k groups, from a sum. -/
def hi (n : Nat) (l : List UInt8) (k : Nat) : Nat := (st (n / 4294967296) (n % 4294967296) l k).1
def lo (n : Nat) (l : List UInt8) (k : Nat) : Nat := (st (n / 4294967296) (n % 4294967296) l k).2

/-- What joins the two halves. -/
theorem or_halves (a b : Nat) (ha : a < 4294967296) (hb : b < 4294967296) :
    bits .or .u64 (IntKind.u64.wrap (IntKind.u64.wrap (a : Int) * 4294967296)) (IntKind.u64.wrap (b : Int)) = ((a * 4294967296 + b : Nat) : Int) := by
  have e1 : IntKind.u64.wrap (IntKind.u64.wrap (a : Int) * 4294967296) = ((a * 4294967296 : Nat) : Int) := by rw [Num.wrap_u, Num.wrap_u]; omega
  have e2 : IntKind.u64.wrap (b : Int) = ((b : Nat) : Int) := by rw [Num.wrap_u]; omega
  rw [e1, e2, Num.or_u64_nat _ _ (by omega) (by omega), Nat.or_comm]
  have := Num.or_add b a 32 (by omega)
  rw [show (4294967296 : Nat) = 2 ^ 32 by decide, this, Nat.add_comm]

set_option maxRecDepth 100000 in
set_option maxHeartbeats 800000 in
theorem sum_any (n : Nat) (hn : n < 18446744073709551616) (s : ByteArray) (hs : s.size ≤ 1000000000000000) (w : World) :
    Calls Try.prog 49 #[.int .u64 n, .string s] w fun e w' => e = .returned (.int .u64 (sumN n s.data.toList : Nat)) ∧ Below w.heap.size w w' := by
  have hmf : ∀ (fn : Fn) (first cap : Array Value) (w : World), (Instr.makeFunc fn first cap).run Try.prog w = .ok (.func fn first cap) w := fun _ _ _ _ => rfl
  go_enter Try.func49, Try.ntmps49
  go_wp2
  go_loopw [8] (fun i wr => ∃ k : Nat, k ≤ (s.size + 3) / 4 ∧ i = .int .i64 (4 * k : Nat) ∧ Two w.heap.size (w.heap.size + 1) (hi n s.data.toList k) (lo n s.data.toList k) wr ∧ Below w.heap.size w wr) (fun i _ => s.size + 4 - (intOf i).toNat)
  case atStart => exact ⟨0, Nat.zero_le _, rfl, two_new n w, below2 _ _ _⟩
  case round =>
    obtain ⟨k, hk, rfl, h2, hbel⟩ := hrel
    by_cases hlt : 4 * k < s.size
    · go_wp2_with fail
      refine (group_cut s hs (4 * k) _).mono ?_
      rintro e w1 ⟨rfl, rfl⟩
      go_wp2_with fail
      refine (add_any w.heap.size _ _ _ _ _ (Nat.le_refl _) (Nat.le_succ _) _ h2).mono ?_
      rintro e w1 ⟨rfl, h3, hb3⟩
      go_wp2
      go_roundw
      case rel => exact ⟨k + 1, by omega, by go_num, h3, hbel.trans hb3⟩
      case measure => simp [intOf]; omega
    · have cA := cell_of_one h2.ha
      have cB := cell_of_one h2.hb
      go_wp2
      go_ret
      obtain rfl : k = (s.size + 3) / 4 := by omega
      have hok := st_ok n s.data.toList ((s.size + 3) / 4) hn
      exact ⟨Num.ret_u (or_halves _ _ hok.1 hok.2), hbel⟩

end Mix
end Go.Proofs.Ytfgaoopgnpigjaa
