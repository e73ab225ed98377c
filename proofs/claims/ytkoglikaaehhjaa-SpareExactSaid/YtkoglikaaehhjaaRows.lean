/-
  No cell of these rows narrows 'for every input' (looked for: loops, veiled, ifaces, maps, wideKeys, modest, calm, conditions, laid).
  DERIVED. THE GIVEN ROWS OF THIS SEAT. 5 by the template 'for every input the law returns true; each argument reads behind the call as it read before'; 0 by the template 'total and deterministic' (their statements: YtkoglikaaehhjaaTotals.lean).
  GIVEN WITH THE SEED: the statements are not yours to turn. If you find one false, say at which input.
  Laid BY PROGRAM, IN A SANDBOX (cutbox-rows.mjs): the forced cells as the released guide's own fill.sh prints them over the translation 7557b77bb8350670… (all of the seat's roots in one cut). By AI agents, Wed Nov 11 2026. No macro, syntax, notation, axiom, sorry.
-/
import Derived.Test.YtkoglikaaehhjaaChecked
import GoSem.Claim
import GoSem.ClaimJoined
import GoSem.ClaimMapViews
import Derived.JoinedTies
import Derived.KernelRfl
namespace Go.Proofs.Ytkoglikaaehhjaa
/- THE CELL 'sum', in the pinned program and in every row, IS THE sha256 OF THE DUMP (.gsa) THAT YtkoglikaaehhjaaProg.lean LOADS. Nothing in Lean hashes anything: it is a label: what it is worth is what the hold of that sum in a sandbox is worth. -/
noncomputable def Try.pinned : Pinned := { name := "ytkoglikaaehhjaa", sum := "7557b77bb83506709a37de6c7718f75bda9b5dd400e2579a85e73cd27a50b6c7", checked := Try.checked }
namespace Rows
def none {H : Type} : Left H := { results := [], args := [] }

/-- 'cahierlaw09.SparePages': WHATEVER THE INPUT: true; the input reads as it did. -/
def sparePagesSpec : ChangeSpec := { name := "sparePages", fn := fun _ => fun
  | [d1, d2] => { results := [.lit (.bool true)], args := [d1, d2] }
  | _ => none }
def sparePagesRow : OpenClaim := { program := "ytkoglikaaehhjaa", sum := "7557b77bb83506709a37de6c7718f75bda9b5dd400e2579a85e73cd27a50b6c7", func := "cahier/cahierlaw09.SparePages", spec := "sparePages", inPlace := ["internal/abi.NoEscape", "internal/bytealg.MakeNoZero"], unfollowed := true, recurses := true, apart := false }
def SparePagesSaid : Prop := sparePagesRow.holds Try.pinned (OpenSpec.ofChange sparePagesSpec)

/-- ITS FALSE NEIGHBOUR: 'it returns false'. Refute it at one input. -/
def sparePagesWrong : ChangeSpec := { name := "sparePages", fn := fun _ => fun
  | [d1, d2] => { results := [.lit (.bool false)], args := [d1, d2] }
  | _ => none }
def SparePagesWrongFalsely : Prop := sparePagesRow.holds Try.pinned (OpenSpec.ofChange sparePagesWrong)

/-- 'cahierlaw09.SpareExact': WHATEVER THE INPUT: true; the input reads as it did. -/
def spareExactSpec : ChangeSpec := { name := "spareExact", fn := fun _ => fun
  | [d1, d2, d3] => { results := [.lit (.bool true)], args := [d1, d2, d3] }
  | _ => none }
def spareExactRow : OpenClaim := { program := "ytkoglikaaehhjaa", sum := "7557b77bb83506709a37de6c7718f75bda9b5dd400e2579a85e73cd27a50b6c7", func := "cahier/cahierlaw09.SpareExact", spec := "spareExact", inPlace := ["internal/abi.NoEscape", "internal/bytealg.MakeNoZero"], unfollowed := true, recurses := true, apart := false }
def SpareExactSaid : Prop := spareExactRow.holds Try.pinned (OpenSpec.ofChange spareExactSpec)

/-- ITS FALSE NEIGHBOUR: 'it returns false'. Refute it at one input. -/
def spareExactWrong : ChangeSpec := { name := "spareExact", fn := fun _ => fun
  | [d1, d2, d3] => { results := [.lit (.bool false)], args := [d1, d2, d3] }
  | _ => none }
def SpareExactWrongFalsely : Prop := spareExactRow.holds Try.pinned (OpenSpec.ofChange spareExactWrong)

/-- 'cahierlaw09.SpareOnce': WHATEVER THE INPUT: true; the input reads as it did. -/
def spareOnceSpec : ChangeSpec := { name := "spareOnce", fn := fun _ => fun
  | [d] => { results := [.lit (.bool true)], args := [d] }
  | _ => none }
def spareOnceRow : OpenClaim := { program := "ytkoglikaaehhjaa", sum := "7557b77bb83506709a37de6c7718f75bda9b5dd400e2579a85e73cd27a50b6c7", func := "cahier/cahierlaw09.SpareOnce", spec := "spareOnce", inPlace := ["internal/abi.NoEscape", "internal/bytealg.MakeNoZero"], unfollowed := true, recurses := true, apart := false }
def SpareOnceSaid : Prop := spareOnceRow.holds Try.pinned (OpenSpec.ofChange spareOnceSpec)

/-- ITS FALSE NEIGHBOUR: 'it returns false'. Refute it at one input. -/
def spareOnceWrong : ChangeSpec := { name := "spareOnce", fn := fun _ => fun
  | [d] => { results := [.lit (.bool false)], args := [d] }
  | _ => none }
def SpareOnceWrongFalsely : Prop := spareOnceRow.holds Try.pinned (OpenSpec.ofChange spareOnceWrong)

/-- 'cahierlaw09.SpareBack': WHATEVER THE INPUT: true; the input reads as it did. -/
def spareBackSpec : ChangeSpec := { name := "spareBack", fn := fun _ => fun
  | [d] => { results := [.lit (.bool true)], args := [d] }
  | _ => none }
def spareBackRow : OpenClaim := { program := "ytkoglikaaehhjaa", sum := "7557b77bb83506709a37de6c7718f75bda9b5dd400e2579a85e73cd27a50b6c7", func := "cahier/cahierlaw09.SpareBack", spec := "spareBack", inPlace := ["internal/abi.NoEscape", "internal/bytealg.MakeNoZero"], unfollowed := true, recurses := true, apart := false }
def SpareBackSaid : Prop := spareBackRow.holds Try.pinned (OpenSpec.ofChange spareBackSpec)

/-- ITS FALSE NEIGHBOUR: 'it returns false'. Refute it at one input. -/
def spareBackWrong : ChangeSpec := { name := "spareBack", fn := fun _ => fun
  | [d] => { results := [.lit (.bool false)], args := [d] }
  | _ => none }
def SpareBackWrongFalsely : Prop := spareBackRow.holds Try.pinned (OpenSpec.ofChange spareBackWrong)

/-- 'cahierlaw09.SpareFails': WHATEVER THE INPUT: true; the input reads as it did. -/
def spareFailsSpec : ChangeSpec := { name := "spareFails", fn := fun _ => fun
  | [d1, d2, d3] => { results := [.lit (.bool true)], args := [d1, d2, d3] }
  | _ => none }
def spareFailsRow : OpenClaim := { program := "ytkoglikaaehhjaa", sum := "7557b77bb83506709a37de6c7718f75bda9b5dd400e2579a85e73cd27a50b6c7", func := "cahier/cahierlaw09.SpareFails", spec := "spareFails", inPlace := ["internal/abi.NoEscape", "internal/bytealg.MakeNoZero"], unfollowed := true, recurses := true, apart := false }
def SpareFailsSaid : Prop := spareFailsRow.holds Try.pinned (OpenSpec.ofChange spareFailsSpec)

/-- ITS FALSE NEIGHBOUR: 'it returns false'. Refute it at one input. -/
def spareFailsWrong : ChangeSpec := { name := "spareFails", fn := fun _ => fun
  | [d1, d2, d3] => { results := [.lit (.bool false)], args := [d1, d2, d3] }
  | _ => none }
def SpareFailsWrongFalsely : Prop := spareFailsRow.holds Try.pinned (OpenSpec.ofChange spareFailsWrong)

/- THE SECOND FORM. 'bulk': how many values and letters a reading holds, each counted each time it is reached (what is shared counts as often as it is met; a slice's spare places count too). A statement '..UptoSaid' is the law's where the arguments, and the package variables that the reading takes, are together of bulk at most 1048576: NARROWER than '..Said'. Prove '..Said' where nothing that the law and all that it calls make is longer than what came in: it says more and counts as full. Else prove '..UptoSaid'. A law counts once. -/
mutual
def uptoBulk {H : Type} : DataW H → Nat
  | .lit (.string bytes) => bytes.length + 1
  | .lit _ => 1
  | .nil => 1
  | .ptr d => uptoBulk d + 1
  | .slice elems spare => uptoBulkAll elems + uptoBulkAll spare + 1
  | .agg parts => uptoBulkAll parts + 1
  | .iface _ d => uptoBulk d + 1
  | .map entries => uptoBulkEntries entries + 1
  | .held _ => 1
def uptoBulkAll {H : Type} : List (DataW H) → Nat
  | [] => 0
  | d :: r => uptoBulk d + uptoBulkAll r
def uptoBulkEntries {H : Type} : List (Lit × DataW H) → Nat
  | [] => 0
  | x :: r => uptoBulkEntry x + uptoBulkEntries r
def uptoBulkEntry {H : Type} : Lit × DataW H → Nat
  | (.string bytes, d) => bytes.length + uptoBulk d + 1
  | (_, d) => uptoBulk d + 1
 end
def uptoSmall : (H : Type) → List (DataW H) → Bool := fun _ ds => decide (uptoBulkAll ds ≤ 1048576)
def OpenSpec.upto (s : _root_.Go.ChangeSpec) : _root_.Go.OpenSpec := { _root_.Go.OpenSpec.ofChange s with cond := some uptoSmall }

/-- 'cahierlaw09.SparePages', WHERE WHAT IT READS IS OF BULK AT MOST 1048576: true; the input reads as it did. -/
def sparePagesUptoRow : OpenClaim := { program := "ytkoglikaaehhjaa", sum := "7557b77bb83506709a37de6c7718f75bda9b5dd400e2579a85e73cd27a50b6c7", func := "cahier/cahierlaw09.SparePages", spec := "sparePages", inPlace := ["internal/abi.NoEscape", "internal/bytealg.MakeNoZero"], unfollowed := true, recurses := true, apart := false, narrowed := true }
def SparePagesUptoSaid : Prop := sparePagesUptoRow.holds Try.pinned (OpenSpec.upto sparePagesSpec)

/-- 'cahierlaw09.SpareExact', WHERE WHAT IT READS IS OF BULK AT MOST 1048576: true; the input reads as it did. -/
def spareExactUptoRow : OpenClaim := { program := "ytkoglikaaehhjaa", sum := "7557b77bb83506709a37de6c7718f75bda9b5dd400e2579a85e73cd27a50b6c7", func := "cahier/cahierlaw09.SpareExact", spec := "spareExact", inPlace := ["internal/abi.NoEscape", "internal/bytealg.MakeNoZero"], unfollowed := true, recurses := true, apart := false, narrowed := true }
def SpareExactUptoSaid : Prop := spareExactUptoRow.holds Try.pinned (OpenSpec.upto spareExactSpec)

/-- 'cahierlaw09.SpareOnce', WHERE WHAT IT READS IS OF BULK AT MOST 1048576: true; the input reads as it did. -/
def spareOnceUptoRow : OpenClaim := { program := "ytkoglikaaehhjaa", sum := "7557b77bb83506709a37de6c7718f75bda9b5dd400e2579a85e73cd27a50b6c7", func := "cahier/cahierlaw09.SpareOnce", spec := "spareOnce", inPlace := ["internal/abi.NoEscape", "internal/bytealg.MakeNoZero"], unfollowed := true, recurses := true, apart := false, narrowed := true }
def SpareOnceUptoSaid : Prop := spareOnceUptoRow.holds Try.pinned (OpenSpec.upto spareOnceSpec)

/-- 'cahierlaw09.SpareBack', WHERE WHAT IT READS IS OF BULK AT MOST 1048576: true; the input reads as it did. -/
def spareBackUptoRow : OpenClaim := { program := "ytkoglikaaehhjaa", sum := "7557b77bb83506709a37de6c7718f75bda9b5dd400e2579a85e73cd27a50b6c7", func := "cahier/cahierlaw09.SpareBack", spec := "spareBack", inPlace := ["internal/abi.NoEscape", "internal/bytealg.MakeNoZero"], unfollowed := true, recurses := true, apart := false, narrowed := true }
def SpareBackUptoSaid : Prop := spareBackUptoRow.holds Try.pinned (OpenSpec.upto spareBackSpec)

/-- 'cahierlaw09.SpareFails', WHERE WHAT IT READS IS OF BULK AT MOST 1048576: true; the input reads as it did. -/
def spareFailsUptoRow : OpenClaim := { program := "ytkoglikaaehhjaa", sum := "7557b77bb83506709a37de6c7718f75bda9b5dd400e2579a85e73cd27a50b6c7", func := "cahier/cahierlaw09.SpareFails", spec := "spareFails", inPlace := ["internal/abi.NoEscape", "internal/bytealg.MakeNoZero"], unfollowed := true, recurses := true, apart := false, narrowed := true }
def SpareFailsUptoSaid : Prop := spareFailsUptoRow.holds Try.pinned (OpenSpec.upto spareFailsSpec)

end Rows
end Go.Proofs.Ytkoglikaaehhjaa
