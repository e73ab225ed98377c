/-
  What the texts on numbers import in a seat without Fold and Unfold: nothing of their own.
-/
import Derived.Test.YtiellodbkanciaaDoorProg
import Derived.Test.YtiellodbkanciaaDoorNumMath
import Derived.Test.YtiellodbkanciaaDoorNumBits
namespace Go.Proofs.YtiellodbkanciaaDoor
namespace Num
theorem wrap_keeps (n : Nat) (h : n < 18446744073709551616) : IntKind.u64.wrap (n : Int) = n := by rw [wrap_u]; omega
end Num
end Go.Proofs.YtiellodbkanciaaDoor
