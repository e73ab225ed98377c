/-
  A disk, plainly: what each call answers, and what the disk is behind it.
-/
import Derived.Test.YtiomojidfkpagaaDiskMath
namespace Go.Proofs.Ytiomojidfkpagaa
open Go.RowKit
namespace Disk

abbrev Dir := List (Nam × Fil)
structure Mod where
  c : Ctl
  fs : Dir

def nameFit (n : Nam) : Bool := decide (1 ≤ n.length ∧ n.length ≤ 16)
def lensD (fs : Dir) : Nat := (fs.map fun e => e.2.ps.length).sum
def holdsB (fs : Dir) (n : Nam) : Bool := (get? fs n).isSome || decide (fs.length < 8)
def emptyFil : Fil := ⟨[], false⟩
/-- An operation that isn't refused and has no fault. -/
def Mod.run (M : Mod) (fit : Bool) (f : Dir → Int × Dir) : Int × Mod :=
  if M.c.refusal fit ≠ 0 then (M.c.refusal fit, ⟨M.c.begun fit, M.fs⟩) else ((f M.fs).1, ⟨M.c.begun fit, (f M.fs).2⟩)
def writeD (room : Int) (n : Nam) (i : Int) (l : List UInt8) (fs : Dir) : Int × Dir :=
  let F := (get? fs n).getD emptyFil
  if (F.ps.length : Int) < i then (14, fs)
  else if i = F.ps.length ∧ (holdsB fs n = false ∨ room ≤ (lensD fs : Nat)) then (12, fs)
  else (0, ins fs n (F.write i.toNat l))
def onD (n : Nam) (f : Fil → Int × Dir) (fs : Dir) : Int × Dir := match get? fs n with | none => (14, fs) | some F => f F
def syncD (n : Nam) (fs : Dir) : Int × Dir := onD n (fun F => (0, ins fs n F.sync)) fs
def cutD (n : Nam) (i : Int) (fs : Dir) : Int × Dir := onD n (fun F => if (F.ps.length : Int) < i then (14, fs) else (0, ins fs n (F.cut i.toNat))) fs
def dropD (n : Nam) (fs : Dir) : Int × Dir := onD n (fun _ => (0, del fs n)) fs
/-- What a read of a sector gives. -/
def readNow (s : Sec) : List UInt8 × Int := match s with | none => ([], 13) | some s => (s, 0)
/-- What a read of a file gives. -/
def Fil.read (F : Fil) (i : Int) : List UInt8 × Int :=
  if i < 0 then ([], 14) else match F.ps[i.toNat]? with | none => ([], 14) | some p => readNow p.now
def readD (n : Nam) (i : Int) (fs : Dir) : List UInt8 × Int := match get? fs n with | none => ([], 14) | some F => F.read i

def Mod.write (M : Mod) (n : Nam) (i : Int) (l : List UInt8) : Int × Mod := M.run (nameFit n && decide (0 ≤ i) && decide (l.length = 256)) (writeD M.c.room n i l)
def Mod.sync (M : Mod) (n : Nam) : Int × Mod := M.run (nameFit n) (syncD n)
def Mod.cut (M : Mod) (n : Nam) (i : Int) : Int × Mod := M.run (decide (0 ≤ i) && nameFit n) (cutD n i)
def Mod.drop (M : Mod) (n : Nam) : Int × Mod := M.run (nameFit n) (dropD n)
def Mod.read (M : Mod) (n : Nam) (i : Int) : List UInt8 × Int × Mod :=
  if M.c.refusal (nameFit n) ≠ 0 then ([], M.c.refusal (nameFit n), ⟨M.c.begun (nameFit n), M.fs⟩) else ((readD n i M.fs).1, (readD n i M.fs).2, ⟨M.c.begun (nameFit n), M.fs⟩)
def Mod.room (M : Mod) (n : Int) : Mod := ⟨{ M.c with room := clamp n }, M.fs⟩
def Mod.arm (M : Mod) (a k m : Int) : Mod := ⟨M.c.armed a k m, M.fs⟩
def Mod.off (M : Mod) : Mod := ⟨M.c.offed, M.fs⟩
/-- All files wake, one behind the other. -/
def wakes (l : List Int) : Nat → Dir → Dir
  | _, [] => []
  | k, e :: r => (if e.2.lives l k then [(e.1, e.2.woken l k)] else []) ++ wakes l (counts k e.2.ps) r
def Mod.on (M : Mod) (l : List Int) : Mod := if M.c.down then ⟨{ M.c with down := false }, wakes l 0 M.fs⟩ else M
def loadedF (l : List UInt8) : Fil := ⟨(List.range ((l.length + 255) / 256)).map fun i => (⟨some (fitted (l.drop (i * 256))), some (some (fitted (l.drop (i * 256)))), false⟩ : Plc), true⟩
def Mod.load (M : Mod) (n : Nam) (l : List UInt8) : Int × Mod :=
  if nameFit n = false ∨ 1048576 < l.length then (1, M) else if holdsB M.fs n = false then (12, M) else (0, ⟨M.c, ins M.fs n (loadedF l)⟩)
def Mod.size (M : Mod) (n : Nam) : Int := match get? M.fs n with | none => -1 | some F => (F.ps.length : Nat)
def Mod.bytes (M : Mod) (n : Nam) : List UInt8 := match get? M.fs n with | none => [] | some F => F.bytes
def Mod.names (M : Mod) : List Nam := M.fs.map (·.1)
def Mod.new (room : Int) : Mod := ⟨⟨clamp room, 0, 0, 0, false, 0, 0⟩, []⟩

end Disk
end Go.Proofs.Ytiomojidfkpagaa
