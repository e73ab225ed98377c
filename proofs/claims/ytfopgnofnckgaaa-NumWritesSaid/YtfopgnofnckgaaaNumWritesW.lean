/-
  The walk of NumWrites: it answers true; the old memory stays.
-/
import Derived.Test.YtfopgnofnckgaaaNumAwake
import Derived.Test.YtfopgnofnckgaaaNumRefFold
import Derived.Test.YtfopgnofnckgaaaNumRefFixed
namespace Go.Proofs.Ytfopgnofnckgaaa.numWrites
open Go.RowKit Go.Proofs.Ytfopgnofnckgaaa.Num

/-- The bytes: names that the walk leaves closed. -/
def fx (n : Nat) (width : Int) : List UInt8 := fixF (clampW width) n
def vx (n : Nat) : List UInt8 := varB n
theorem fixedx (n : Nat) (hn : n < 18446744073709551616) (width : Int) (w : World) :
    Calls Try.prog 10 #[.int .u64 n, .int .i64 width] w fun e w' => e = .returned (.string ⟨(fx n width).toArray⟩) ∧ Below w.heap.size w w' := fixed_any n hn width w
theorem rfixedx (n : Nat) (hn : n < 18446744073709551616) (width : Int) (w : World) :
    Calls Try.prog 11 #[.int .u64 n, .int .i64 width] w fun e w' => e = .returned (.string ⟨(fx n width).toArray⟩) ∧ Below w.heap.size w w' := rfixed_any n hn width w
theorem varx (n : Nat) (hn : n < 18446744073709551616) (w : World) :
    Calls Try.prog 12 #[.int .u64 n] w fun e w' => e = .returned (.string ⟨(vx n).toArray⟩) ∧ Below w.heap.size w w' := var_any n hn w
theorem rvarx (n : Nat) (hn : n < 18446744073709551616) (w : World) :
    Calls Try.prog 13 #[.int .u64 n] w fun e w' => e = .returned (.string ⟨(vx n).toArray⟩) ∧ Below w.heap.size w w' := rvar_any n hn w

theorem wrap64_bd (n : Int) : -9223372036854775808 ≤ wrap64 n ∧ wrap64 n ≤ 9223372036854775807 := by rw [wrap_i]; omega

set_option maxRecDepth 100000 in
set_option maxHeartbeats 1000000 in
theorem walk (a0 a1 : Int) (w0 : (Lit.int .u64 a0).wf = true) (_w1 : (Lit.int .i64 a1).wf = true) (w : World) :
    Calls Try.prog 3 #[.int .u64 a0, .int .i64 a1] w fun e w' => e = .returned (.bool true) ∧ Below w.heap.size w w' := by
  obtain ⟨n, hn, rfl⟩ := nat_u64 w0
  clear w0
  obtain ⟨b1, b2⟩ := wrap64_bd (n : Int)
  have hn' : (n : Int) ≤ 18446744073709551615 := by omega
  go_enter Try.func3, Try.ntmps3
  go_wp2_with fail
  refine (awake_any _).mono ?_
  rintro e w1 ⟨rfl, hb1⟩
  go_wp2_with fail
  refine (fixedx n hn a1 _).mono ?_
  rintro e w2 ⟨rfl, hb2⟩
  go_wp2_with fail
  refine (rfixedx n hn a1 _).mono ?_
  rintro e w3 ⟨rfl, hb3⟩
  go_wp2_with fail
  refine (varx n hn _).mono ?_
  rintro e w4 ⟨rfl, hb4⟩
  go_wp2_with fail
  refine (rvarx n hn _).mono ?_
  rintro e w5 ⟨rfl, hb5⟩
  have hb := below_then (below_then (below_then (below_then hb1 hb2) hb3) hb4) hb5
  clear hb1 hb2 hb3 hb4 hb5
  go_wp2_with fail
  refine (fold_any _ b1 b2 _).mono ?_
  rintro e w6 ⟨rfl, rfl⟩
  go_wp2_with fail
  refine (rfold_any _ b1 b2 _).mono ?_
  rintro e w6 ⟨rfl, rfl⟩
  go_wp2_with fail
  refine (unfold_any _ (by omega) hn' _).mono ?_
  rintro e w6 ⟨rfl, rfl⟩
  go_wp2_with fail
  refine (runfold_any _ (by omega) hn' _).mono ?_
  rintro e w6 ⟨rfl, rfl⟩
  go_wp2
  go_ret
  exact ⟨rfl, hb⟩

end Go.Proofs.Ytfopgnofnckgaaa.numWrites
