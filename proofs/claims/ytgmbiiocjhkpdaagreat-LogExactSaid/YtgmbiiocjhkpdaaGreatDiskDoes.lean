/-
  Contracts of the statements' own calls on a disk: what an act writes; an act.
-/
import Derived.Test.YtgmbiiocjhkpdaaGreatGrpLgN
import Derived.IntWalk
namespace Go.Proofs.YtgmbiiocjhkpdaaGreat
open Go.RowKit
namespace Disk
open Num (hid bcells)

/-- An act, as it is handed over. -/
structure ActM where
  kind : Int
  name : ByteArray
  n : Int
  fill : UInt8
  len : Int
  fv : Value
  fates : List Int
def ActM.cells (x : ActM) : Array Value := #[.int .i64 x.kind, .string x.name, .int .i64 x.n, .int .u8 (x.fill.toNat : Int), .int .i64 x.len, x.fv]
def ActM.size (x : ActM) : Nat := (IntKind.u64.wrap x.len).toNat % 700
def ActM.data (x : ActM) : List UInt8 := List.replicate x.size x.fill
theorem u64_nat (a : Int) : IntKind.u64.wrap a = ((IntKind.u64.wrap a).toNat : Int) := by
  have : IntKind.u64.wrap a = a % 18446744073709551616 := IntKind.wrap_u64 a
  omega

/-- A call: what it answers; the disk behind it. -/
def Mod.does (M : Mod) (x : ActM) : List UInt8 × Int × Mod :=
  if x.kind = 1 then M.read x.name.data.toList x.n
  else if x.kind = 2 then ([], (M.write x.name.data.toList x.n x.data).1, (M.write x.name.data.toList x.n x.data).2)
  else if x.kind = 3 then ([], (M.sync x.name.data.toList).1, (M.sync x.name.data.toList).2)
  else if x.kind = 4 then ([], (M.cut x.name.data.toList x.n).1, (M.cut x.name.data.toList x.n).2)
  else if x.kind = 5 then ([], (M.drop x.name.data.toList).1, (M.drop x.name.data.toList).2)
  else if x.kind = 6 then ([], 0, M.room x.n)
  else if x.kind = 7 then ([], 0, M.arm x.n (x.fill.toNat : Int) x.len)
  else if x.kind = 8 then ([], 0, M.off)
  else if x.kind = 9 then ([], 0, M.on x.fates)
  else if x.kind = 10 then ([], (M.load x.name.data.toList x.data).1, (M.load x.name.data.toList x.data).2)
  else ([], 0, M)

theorem load_has {N d m : Nat} {M : Mod} {w : World} (h : Has N d m M w) (s : ByteArray) (hs : s.size ≤ maxLen) (l : ByteArray) (hl : l.size ≤ maxLen) :
    Calls Tryz.prog 43 #[ptr d, .string s, .string l] w fun e w' => e = .returned (.int .i64 (M.load s.data.toList l.data.toList).1) ∧ Has N d m (M.load s.data.toList l.data.toList).2 w' ∧ Below N w w' := by
  obtain ⟨tag, L, D, hL, hN, hz⟩ := h
  refine (load_any tag w d m M.c L D s hs l hl).mono ?_
  rintro e w' ⟨rfl, ho⟩
  rw [hL] at ho ⊢
  exact ⟨rfl, Has.of_out ho hN hz⟩

def DoesOut (N d m : Nat) (M : Mod) (x : ActM) (w : World) (e : Ending) (w' : World) : Prop :=
  e = .returned (.tuple #[.string ⟨(M.does x).1.toArray⟩, .int .i64 (M.does x).2.1]) ∧ Has N d m (M.does x).2.2 w' ∧ Below N w w'
/-- What an act that came in is. -/
structure ActOk (N : Nat) (w : World) (x : ActM) : Prop where
  name : x.name.size ≤ maxLen
  n : x.n ≤ 9223372036854775807
  len : x.len ≤ 9223372036854775807
  ints : IntsAt w x.fv x.fates
  few : x.fates.length ≤ maxLen
  old : ∀ b o n cap, x.fv = .slice (some ⟨b, o, none⟩) n cap → n ≠ 0 → b < N
theorem ActM.shape {N : Nat} {w : World} {x : ActM} (h : ActOk N w x) : ∃ ao nn cap, x.fv = .slice ao nn cap := by
  rcases h.ints with ⟨ao, cap, hv, _⟩ | ⟨b, o, cap, hv, _⟩
  · exact ⟨ao, _, cap, hv⟩
  · exact ⟨_, _, cap, hv⟩
theorem ActM.data_size (x : ActM) : (⟨x.data.toArray⟩ : ByteArray).size ≤ maxLen := by
  have e : (⟨x.data.toArray⟩ : ByteArray).size = x.data.length := rfl
  have h2 : x.data.length = x.size := List.length_replicate ..
  have h3 : x.size < 700 := Nat.mod_lt _ (by decide)
  rw [e, h2]; unfold maxLen; omega

end Disk
end Go.Proofs.YtgmbiiocjhkpdaaGreat
