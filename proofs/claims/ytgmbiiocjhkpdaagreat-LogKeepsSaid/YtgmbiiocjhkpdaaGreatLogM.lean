/-
  Log, plainly: what Open finds of a file's sectors, what each call answers and leaves. No program in sight.
-/
import Derived.Test.YtgmbiiocjhkpdaaGreatJouMath
namespace Go.Proofs.YtgmbiiocjhkpdaaGreat
open Go.RowKit
namespace Lo
open Disk (Mod Fil Plc Sec Nam Dir Ctl)
open Jo (okB kK kN kS kD)
def ln : Nam := [108, 111, 103]
def lS : ByteArray := ⟨#[108, 111, 103]⟩
theorem lS_list : lS.data.toList = ln := rfl
def topL : List UInt8 := Seal.sealL 4 1 0 (List.replicate 232 0)
/-- The sum that a sector bears. -/
def sumL (s : List UInt8) : Nat := Seal.numAt s 248 8
/-- What Open has found: whether the top is right, numbers and sums, how many frames are committed. -/
structure LgS where
  right : Bool
  ns : List Nat
  ss : List Nat
  sure : Nat
def g0 : LgS := ⟨false, [], [], 0⟩
def takeL (i : Nat) (f : LgS) (s : List UInt8) : Option LgS :=
  if i = 0 then (if s = topL then some ⟨true, [], [sumL s], 0⟩ else none)
  else if okB s = false then none
  else if (kK s ≠ 5 ∧ kK s ≠ 6) ∨ 4096 ≤ kN s ∨ kS s ≠ f.ss.getD (i - 1) 0 then none
  else some ⟨f.right, f.ns ++ [kN s], f.ss ++ [sumL s], if kK s = 6 then f.ns.length + 1 else f.sure⟩
/-- The sectors from i on, k of them: the error, what was found, the disk. -/
def openN : Nat → Nat → LgS → Mod → Int × LgS × Mod
  | 0, _, f, M => (0, f, M)
  | k + 1, i, f, M =>
    if (M.read ln i).2.1 ≠ 0 ∧ (M.read ln i).2.1 ≠ 13 then ((M.read ln i).2.1, f, (M.read ln i).2.2)
    else if (M.read ln i).2.1 = 13 then (0, f, (M.read ln i).2.2)
    else match takeL i f (M.read ln i).1 with
      | none => (0, f, (M.read ln i).2.2)
      | some g => openN k (i + 1) g (M.read ln i).2.2
/-- A log: the numbers of its frames, the sums of its sectors. -/
structure Lg where
  ns : List Nat
  ss : List Nat
def lg0 : Lg := ⟨[], []⟩
def cutLg (f : LgS) : Lg := ⟨f.ns.take f.sure, f.ss.take (f.sure + 1)⟩
/-- Behind the reading, no error: the file of sz sectors is dropped, cut, or left. -/
def openE (sz : Int) (f : LgS) (M : Mod) : Int × Option Lg × Mod :=
  if f.right = false then ((M.drop ln).1, some lg0, (M.drop ln).2)
  else if (f.sure : Int) + 1 < sz then ((M.cut ln (f.sure + 1 : Nat)).1, some (cutLg f), (M.cut ln (f.sure + 1 : Nat)).2)
  else (0, some (cutLg f), M)
def openM (M : Mod) : Int × Option Lg × Mod :=
  if M.size ln < 0 then (0, some lg0, M)
  else if (openN (M.size ln).toNat 0 g0 M).1 ≠ 0 then ((openN (M.size ln).toNat 0 g0 M).1, none, (openN (M.size ln).toNat 0 g0 M).2.2)
  else openE (M.size ln) (openN (M.size ln).toNat 0 g0 M).2.1 (openN (M.size ln).toNat 0 g0 M).2.2
/-- A frame's bytes. -/
def frameL (l : Lg) (n : Nat) (d : List UInt8) (c : Bool) : List UInt8 := Seal.sealL (if c then 6 else 5) n (l.ss.getLastD 0) d
/-- Where there is no file: the top first. -/
def topM (l : Lg) (M : Mod) : Int × Lg × Mod :=
  if M.size ln < 0 then ((M.write ln 0 topL).1, (if (M.write ln 0 topL).1 = 0 then ⟨l.ns, [sumL topL]⟩ else l), (M.write ln 0 topL).2)
  else (0, l, M)
def frameM (l : Lg) (n : Nat) (d : List UInt8) (c : Bool) (M : Mod) : Int × Lg × Mod :=
  ((M.write ln (1 + l.ns.length : Nat) (frameL l n d c)).1, (if (M.write ln (1 + l.ns.length : Nat) (frameL l n d c)).1 = 0 then ⟨l.ns ++ [n], l.ss ++ [sumL (frameL l n d c)]⟩ else l), (M.write ln (1 + l.ns.length : Nat) (frameL l n d c)).2)
def addM (l : Lg) (n : Int) (d : List UInt8) (c : Bool) (M : Mod) : Int × Lg × Mod :=
  if n < 0 ∨ 4096 ≤ n ∨ d.length ≠ 232 then (1, l, M)
  else if (topM l M).1 ≠ 0 then topM l M
  else frameM (topM l M).2.1 n.toNat d c (topM l M).2.2
def syncM (M : Mod) : Int × Mod := if M.size ln < 0 then (0, M) else M.sync ln
/-- The last frame of a number, from k frames on downwards. -/
def lastI (ns : List Nat) (n : Int) : Nat → Option Nat
  | 0 => none
  | k + 1 => if (ns.getD k 0 : Int) = n then some k else lastI ns n k
def getM (l : Lg) (n : Int) (M : Mod) : List UInt8 × Bool × Int × Mod :=
  match lastI l.ns n l.ns.length with
  | none => ([], false, 0, M)
  | some i => if (M.read ln (i + 1 : Nat)).2.1 ≠ 0 then ([], false, (M.read ln (i + 1 : Nat)).2.1, (M.read ln (i + 1 : Nat)).2.2) else ((M.read ln (i + 1 : Nat)).1.take 232, true, 0, (M.read ln (i + 1 : Nat)).2.2)
def pagesM (ns : List Nat) : List Nat := (List.range 4096).filter fun n => ns.any fun x => x == n
def backM (l : Lg) (k : Int) (M : Mod) : Int × Lg × Mod :=
  if k < 0 ∨ (l.ns.length : Int) < k then (1, l, M)
  else if k = l.ns.length then (0, l, M)
  else ((M.cut ln (1 + k)).1, (if (M.cut ln (1 + k)).1 = 0 then ⟨l.ns.take k.toNat, l.ss.take (k.toNat + 1)⟩ else l), (M.cut ln (1 + k)).2)
def endM (l : Lg) (M : Mod) : Int × Lg × Mod :=
  if M.size ln < 0 then (0, lg0, M)
  else ((M.drop ln).1, (if (M.drop ln).1 = 0 then lg0 else l), (M.drop ln).2)
/-- What holds between the top and what was found. -/
structure LgK (i : Nat) (f : LgS) : Prop where
  len : f.ss.length = i
  ns : f.ns.length = i - 1
  sure : f.sure ≤ f.ns.length
  right : f.right = decide (0 < i)
  small : ∀ n ∈ f.ns, n < 4096
theorem k0 : LgK 0 g0 := ⟨rfl, rfl, Nat.le_refl _, rfl, fun n hn => by cases hn⟩
theorem LgK.take {i : Nat} {f g : LgS} {s : List UInt8} (h : LgK i f) (e : takeL i f s = some g) : LgK (i + 1) g := by
  obtain ⟨h1, h2, h3, h4, h5⟩ := h
  unfold takeL at e
  split at e
  · rename_i hi
    subst hi
    split at e
    · cases e
      exact ⟨rfl, rfl, Nat.le_refl _, rfl, fun n hn => by cases hn⟩
    · cases e
  · rename_i hi
    split at e
    · cases e
    · split at e
      · cases e
      · rename_i hn
        cases e
        refine ⟨by simp [h1], by simp [h2]; omega, ?_, ?_, fun n hm => ?_⟩
        · show (if kK s = 6 then f.ns.length + 1 else f.sure) ≤ (f.ns ++ [kN s]).length
          rw [List.length_append]
          show _ ≤ f.ns.length + 1
          split <;> omega
        · show f.right = _
          rw [h4]
          simp
          omega
        · rcases List.mem_append.1 hm with hm | hm
          · exact h5 n hm
          · rw [List.mem_singleton] at hm
            subst hm
            rcases Nat.lt_or_ge (kN s) 4096 with h6 | h6
            · exact h6
            · exact absurd (Or.inr (Or.inl h6)) hn
end Lo
end Go.Proofs.YtgmbiiocjhkpdaaGreat
