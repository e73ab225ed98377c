/-
  The walk of NumReads: it answers true; the old memory stays.
-/
import Derived.Test.YtfopgnofnckgaaaNumAwake
import Derived.Test.YtfopgnofnckgaaaNumRefUnvar
import Derived.Test.YtfopgnofnckgaaaNumRefUnfixed
namespace Go.Proofs.Ytfopgnofnckgaaa.numReads
open Go.RowKit Go.Proofs.Ytfopgnofnckgaaa.Num

/-- What Unvar and Unfixed give: names that the walk leaves closed. -/
def u1 (s : ByteArray) : Int := ((unvL 0 0 s.data.toList).1 : Nat)
def u2 (s : ByteArray) : Int := ((unvL 0 0 s.data.toList).2.1 : Nat)
def u3 (s : ByteArray) : Int := (unvL 0 0 s.data.toList).2.2
def f1 (s : ByteArray) : Int := ((unfixL s.data.toList).1 : Nat)
def f2 (s : ByteArray) : Int := (unfixL s.data.toList).2
theorem unvarx (s : ByteArray) (w : World) (hs : s.size ≤ maxLen) :
    Calls Try.prog 18 #[.string s] w fun e w' => e = .returned (.tuple #[.int .u64 (u1 s), .int .i64 (u2 s), .int .i64 (u3 s)]) ∧ w = w' := unvar_any s w hs
theorem runvarx (s : ByteArray) (w : World) (hs : s.size ≤ maxLen) :
    Calls Try.prog 19 #[.string s] w fun e w' => e = .returned (.tuple #[.int .u64 (u1 s), .int .i64 (u2 s), .int .i64 (u3 s)]) ∧ w = w' := runvar_any s w hs
theorem unfixedx (s : ByteArray) (w : World) :
    Calls Try.prog 20 #[.string s] w fun e w' => e = .returned (.tuple #[.int .u64 (f1 s), .int .i64 (f2 s)]) ∧ w = w' := unfixed_any s w
theorem runfixedx (s : ByteArray) (w : World) :
    Calls Try.prog 21 #[.string s] w fun e w' => e = .returned (.tuple #[.int .u64 (f1 s), .int .i64 (f2 s)]) ∧ w = w' := runfixed_any s w

set_option maxRecDepth 100000 in
set_option maxHeartbeats 1000000 in
theorem walk (a0 : ByteArray) (w0 : a0.size ≤ maxLen) (w : World) :
    Calls Try.prog 4 #[.string a0] w fun e w' => e = .returned (.bool true) ∧ Below w.heap.size w w' := by
  have HS := hid w0
  clear w0
  go_enter Try.func4, Try.ntmps4
  go_wp2_with fail
  refine (awake_any _).mono ?_
  rintro e w1 ⟨rfl, hb1⟩
  go_wp2_with fail
  refine (unvarx a0 _ HS.out).mono ?_
  rintro e w2 ⟨rfl, rfl⟩
  go_wp2_with fail
  refine (runvarx a0 _ HS.out).mono ?_
  rintro e w2 ⟨rfl, rfl⟩
  go_wp2_with fail
  refine (unfixedx a0 _).mono ?_
  rintro e w2 ⟨rfl, rfl⟩
  go_wp2_with fail
  refine (runfixedx a0 _).mono ?_
  rintro e w2 ⟨rfl, rfl⟩
  go_wp2
  go_ret
  exact ⟨rfl, hb1⟩

end Go.Proofs.Ytfopgnofnckgaaa.numReads
