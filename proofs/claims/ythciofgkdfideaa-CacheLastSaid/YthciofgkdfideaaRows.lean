/-
  No cell of these rows narrows 'for every input' (looked for: loops, veiled, ifaces, maps, wideKeys, modest, calm, conditions, laid).
  DERIVED. THE GIVEN ROWS OF THIS SEAT. 3 by the template 'for every input the law returns true; each argument reads behind the call as it read before'; 0 by the template 'total and deterministic' (their statements: YthciofgkdfideaaTotals.lean).
  GIVEN WITH THE SEED: the statements are not yours to turn. If you find one false, say at which input.
  Laid BY PROGRAM, IN A SANDBOX (cutbox-rows.mjs): the forced cells as the released guide's own fill.sh prints them over the translation d061a4827eaacc1f… (all of the seat's roots in one cut). By AI agents, Wed Nov 11 2026. No macro, syntax, notation, axiom, sorry.
-/
import Derived.Test.YthciofgkdfideaaChecked
import GoSem.Claim
import GoSem.ClaimJoined
import GoSem.ClaimMapViews
import Derived.JoinedTies
import Derived.KernelRfl
namespace Go.Proofs.Ythciofgkdfideaa
/- THE CELL 'sum', in the pinned program and in every row, IS THE sha256 OF THE DUMP (.gsa) THAT YthciofgkdfideaaProg.lean LOADS. Nothing in Lean hashes anything: it is a label: what it is worth is what the hold of that sum in a sandbox is worth. -/
noncomputable def Try.pinned : Pinned := { name := "ythciofgkdfideaa", sum := "d061a4827eaacc1f95b543c49a585e0502220aa2ec7d1cdc8c8ff2f263e5a63c", checked := Try.checked }
namespace Rows
def none {H : Type} : Left H := { results := [], args := [] }

/-- 'cahierlaw12.CacheExact': WHATEVER THE INPUT: true; the input reads as it did. -/
def cacheExactSpec : ChangeSpec := { name := "cacheExact", fn := fun _ => fun
  | [d1, d2] => { results := [.lit (.bool true)], args := [d1, d2] }
  | _ => none }
def cacheExactRow : OpenClaim := { program := "ythciofgkdfideaa", sum := "d061a4827eaacc1f95b543c49a585e0502220aa2ec7d1cdc8c8ff2f263e5a63c", func := "cahier/cahierlaw12.CacheExact", spec := "cacheExact", unfollowed := true, recurses := true, apart := false }
def CacheExactSaid : Prop := cacheExactRow.holds Try.pinned (OpenSpec.ofChange cacheExactSpec)

/-- ITS FALSE NEIGHBOUR: 'it returns false'. Refute it at one input. -/
def cacheExactWrong : ChangeSpec := { name := "cacheExact", fn := fun _ => fun
  | [d1, d2] => { results := [.lit (.bool false)], args := [d1, d2] }
  | _ => none }
def CacheExactWrongFalsely : Prop := cacheExactRow.holds Try.pinned (OpenSpec.ofChange cacheExactWrong)

/-- 'cahierlaw12.CacheLoses': WHATEVER THE INPUT: true; the input reads as it did. -/
def cacheLosesSpec : ChangeSpec := { name := "cacheLoses", fn := fun _ => fun
  | [d1, d2, d3] => { results := [.lit (.bool true)], args := [d1, d2, d3] }
  | _ => none }
def cacheLosesRow : OpenClaim := { program := "ythciofgkdfideaa", sum := "d061a4827eaacc1f95b543c49a585e0502220aa2ec7d1cdc8c8ff2f263e5a63c", func := "cahier/cahierlaw12.CacheLoses", spec := "cacheLoses", unfollowed := true, recurses := true, apart := false }
def CacheLosesSaid : Prop := cacheLosesRow.holds Try.pinned (OpenSpec.ofChange cacheLosesSpec)

/-- ITS FALSE NEIGHBOUR: 'it returns false'. Refute it at one input. -/
def cacheLosesWrong : ChangeSpec := { name := "cacheLoses", fn := fun _ => fun
  | [d1, d2, d3] => { results := [.lit (.bool false)], args := [d1, d2, d3] }
  | _ => none }
def CacheLosesWrongFalsely : Prop := cacheLosesRow.holds Try.pinned (OpenSpec.ofChange cacheLosesWrong)

/-- 'cahierlaw12.CacheLast': WHATEVER THE INPUT: true; the input reads as it did. -/
def cacheLastSpec : ChangeSpec := { name := "cacheLast", fn := fun _ => fun
  | [d1, d2] => { results := [.lit (.bool true)], args := [d1, d2] }
  | _ => none }
def cacheLastRow : OpenClaim := { program := "ythciofgkdfideaa", sum := "d061a4827eaacc1f95b543c49a585e0502220aa2ec7d1cdc8c8ff2f263e5a63c", func := "cahier/cahierlaw12.CacheLast", spec := "cacheLast", unfollowed := true, recurses := true, apart := false }
def CacheLastSaid : Prop := cacheLastRow.holds Try.pinned (OpenSpec.ofChange cacheLastSpec)

/-- ITS FALSE NEIGHBOUR: 'it returns false'. Refute it at one input. -/
def cacheLastWrong : ChangeSpec := { name := "cacheLast", fn := fun _ => fun
  | [d1, d2] => { results := [.lit (.bool false)], args := [d1, d2] }
  | _ => none }
def CacheLastWrongFalsely : Prop := cacheLastRow.holds Try.pinned (OpenSpec.ofChange cacheLastWrong)

/- THE SECOND FORM. 'bulk': how many values and letters a reading holds, each counted each time it is reached (what is shared counts as often as it is met; a slice's spare places count too). A statement '..UptoSaid' is the law's where the arguments, and the package variables that the reading takes, are together of bulk at most 1048576: NARROWER than '..Said'. Prove '..Said' where nothing that the law and all that it calls make is longer than what came in: it says more and counts as full. Else prove '..UptoSaid'. A law counts once. -/
mutual
def uptoBulk {H : Type} : DataW H → Nat
  | .lit (.string bytes) => bytes.length + 1
  | .lit _ => 1
  | .nil => 1
  | .ptr d => uptoBulk d + 1
  | .slice elems spare => uptoBulkAll elems + uptoBulkAll spare + 1
  | .agg parts => uptoBulkAll parts + 1
  | .iface _ d => uptoBulk d + 1
  | .map entries => uptoBulkEntries entries + 1
  | .held _ => 1
def uptoBulkAll {H : Type} : List (DataW H) → Nat
  | [] => 0
  | d :: r => uptoBulk d + uptoBulkAll r
def uptoBulkEntries {H : Type} : List (Lit × DataW H) → Nat
  | [] => 0
  | x :: r => uptoBulkEntry x + uptoBulkEntries r
def uptoBulkEntry {H : Type} : Lit × DataW H → Nat
  | (.string bytes, d) => bytes.length + uptoBulk d + 1
  | (_, d) => uptoBulk d + 1
 end
def uptoSmall : (H : Type) → List (DataW H) → Bool := fun _ ds => decide (uptoBulkAll ds ≤ 1048576)
def OpenSpec.upto (s : _root_.Go.ChangeSpec) : _root_.Go.OpenSpec := { _root_.Go.OpenSpec.ofChange s with cond := some uptoSmall }

/-- 'cahierlaw12.CacheExact', WHERE WHAT IT READS IS OF BULK AT MOST 1048576: true; the input reads as it did. -/
def cacheExactUptoRow : OpenClaim := { program := "ythciofgkdfideaa", sum := "d061a4827eaacc1f95b543c49a585e0502220aa2ec7d1cdc8c8ff2f263e5a63c", func := "cahier/cahierlaw12.CacheExact", spec := "cacheExact", unfollowed := true, recurses := true, apart := false, narrowed := true }
def CacheExactUptoSaid : Prop := cacheExactUptoRow.holds Try.pinned (OpenSpec.upto cacheExactSpec)

/-- 'cahierlaw12.CacheLoses', WHERE WHAT IT READS IS OF BULK AT MOST 1048576: true; the input reads as it did. -/
def cacheLosesUptoRow : OpenClaim := { program := "ythciofgkdfideaa", sum := "d061a4827eaacc1f95b543c49a585e0502220aa2ec7d1cdc8c8ff2f263e5a63c", func := "cahier/cahierlaw12.CacheLoses", spec := "cacheLoses", unfollowed := true, recurses := true, apart := false, narrowed := true }
def CacheLosesUptoSaid : Prop := cacheLosesUptoRow.holds Try.pinned (OpenSpec.upto cacheLosesSpec)

/-- 'cahierlaw12.CacheLast', WHERE WHAT IT READS IS OF BULK AT MOST 1048576: true; the input reads as it did. -/
def cacheLastUptoRow : OpenClaim := { program := "ythciofgkdfideaa", sum := "d061a4827eaacc1f95b543c49a585e0502220aa2ec7d1cdc8c8ff2f263e5a63c", func := "cahier/cahierlaw12.CacheLast", spec := "cacheLast", unfollowed := true, recurses := true, apart := false, narrowed := true }
def CacheLastUptoSaid : Prop := cacheLastUptoRow.holds Try.pinned (OpenSpec.upto cacheLastSpec)

end Rows
end Go.Proofs.Ythciofgkdfideaa
