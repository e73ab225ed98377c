/-
  The walk of NumCut: it answers true; the old memory stays.
-/
import Derived.Test.YtfopgnofnckgaaaNumAwake
namespace Go.Proofs.Ytfopgnofnckgaaa.numCut
open Go.RowKit Go.Proofs.Ytfopgnofnckgaaa.Num

/-- The bytes of Var: a name that the walk leaves closed. -/
def vx (n : Nat) : ByteArray := ⟨(varB n).toArray⟩
theorem varx (n : Nat) (hn : n < 18446744073709551616) (w : World) :
    Calls Try.prog 12 #[.int .u64 n] w fun e w' => e = .returned (.string (vx n)) ∧ Below w.heap.size w w' := var_any n hn w

theorem vx_size (n : Nat) : (vx n).size = (varB n).length := by unfold vx; rfl

theorem cut (n k : Nat) (h : k < (vx n).size) (w : World) :
    Calls Try.prog 18 #[.string ((vx n).extract 0 k)] w fun e w' => e = .returned (.tuple #[.int .u64 0, .int .i64 0, .int .i64 3]) ∧ w = w' := by
  have hl := vx_size n
  have hle := varB_le n
  have h2 := unvar_any ((vx n).extract 0 k) w (by unfold maxLen; simp; omega)
  have e : ((vx n).extract 0 k).data.toList = (varB n).take k := by unfold vx; simp
  rw [e, unv_cutB n k (by omega)] at h2
  exact h2

theorem cut_at (c : Int) (s : Nat) (h1 : 1 ≤ s) (h2 : s ≤ 10) : ∃ k : Nat, wrap64 ((IntKind.u64.wrap c).tmod (s : Int)) = (k : Int) ∧ k < s := by
  have h0 : 0 ≤ IntKind.u64.wrap c := by rw [wrap_u]; omega
  rw [Int.tmod_eq_emod_of_nonneg h0]
  have a1 : 0 ≤ IntKind.u64.wrap c % (s : Int) := Int.emod_nonneg _ (by omega)
  have a2 : IntKind.u64.wrap c % (s : Int) < (s : Int) := Int.emod_lt_of_pos _ (by omega)
  rw [IntWalk.wrap64_in _ ⟨by omega, by omega⟩]
  exact ⟨(IntKind.u64.wrap c % (s : Int)).toNat, by omega, by omega⟩

set_option maxRecDepth 100000 in
set_option maxHeartbeats 1000000 in
theorem walk (a0 a1 : Int) (w0 : (Lit.int .u64 a0).wf = true) (w1 : (Lit.int .i64 a1).wf = true) (w : World) :
    Calls Try.prog 7 #[.int .u64 a0, .int .i64 a1] w fun e w' => e = .returned (.bool true) ∧ Below w.heap.size w w' := by
  obtain ⟨n, hn, rfl⟩ := nat_u64 w0
  obtain ⟨l1, r1⟩ := int_i64 w1
  clear w0 w1
  have hs1 : 1 ≤ (vx n).size := by rw [vx_size]; exact varB_pos n
  have hs2 : (vx n).size ≤ 10 := by rw [vx_size]; exact varB_le n
  obtain ⟨k, hk, hlt⟩ : ∃ k : Nat, wrap64 ((IntKind.u64.wrap a1).tmod ((vx n).size : Int)) = (k : Int) ∧ k < (vx n).size := cut_at a1 _ hs1 hs2
  go_enter Try.func7, Try.ntmps7
  go_wp2_with fail
  refine (awake_any _).mono ?_
  rintro e w1 ⟨rfl, hb1⟩
  go_wp2_with fail
  refine (varx n hn _).mono ?_
  rintro e w2 ⟨rfl, hb2⟩
  have hb := below_then hb1 hb2
  clear hb1 hb2
  go_wp2_with fail
  refine (cut n k hlt _).mono ?_
  rintro e w3 ⟨rfl, rfl⟩
  go_wp2
  go_ret
  exact ⟨rfl, hb⟩

end Go.Proofs.Ytfopgnofnckgaaa.numCut
