/-
  The project's log, plainly: a list of frames (number, sum); what each call answers and leaves. No program in sight.
-/
import Derived.Test.YtgmbiiocjhkpdaaGreatLogM
namespace Go.Proofs.YtgmbiiocjhkpdaaGreat
open Go.RowKit
namespace Lo
open Disk (Mod Fil Plc Sec Nam Dir Ctl)
open Jo (okB kK kN kS kD)
/-- A frame: its page's number, its sector's sum. -/
abbrev Fr := Nat × Nat
def lgOf (fs : List Fr) : Lg := ⟨fs.map (·.1), sumL topL :: fs.map (·.2)⟩
def sumP (fs : List Fr) : Nat := (lgOf fs).ss.getLastD 0
theorem sumP_nil : sumP [] = sumL topL := rfl
theorem sumP_snoc (fs : List Fr) (x : Fr) : sumP (fs ++ [x]) = x.2 := by
  show (sumL topL :: (fs ++ [x]).map (·.2)).getLastD 0 = x.2
  have e : sumL topL :: (fs ++ [x]).map (·.2) = (sumL topL :: fs.map (·.2)) ++ [x.2] := by simp
  rw [e, List.getLastD_concat]
/-- What takeRight takes: the frames behind it, whether a transaction ends there. -/
def takeP (i : Nat) (fs : List Fr) (s : List UInt8) : Option (List Fr × Bool) :=
  if i = 0 then (if s = topL then some (fs, true) else none)
  else if okB s = false then none
  else if (kK s ≠ 5 ∧ kK s ≠ 6) ∨ 4096 ≤ kN s ∨ kS s ≠ sumP fs then none
  else some (fs ++ [(kN s, sumL s)], decide (kK s = 6))
/-- The sectors from i on, k of them: the error, the frames, how many sectors stay, the disk. -/
def readP : Nat → Nat → List Fr → Nat → Mod → Int × List Fr × Nat × Mod
  | 0, _, fs, st, M => (0, fs, st, M)
  | k + 1, i, fs, st, M =>
    if (M.read ln i).2.1 ≠ 0 ∧ (M.read ln i).2.1 ≠ 13 then ((M.read ln i).2.1, fs, 0, (M.read ln i).2.2)
    else match takeP i fs (M.read ln i).1 with
      | none => (0, fs, st, (M.read ln i).2.2)
      | some g => readP k (i + 1) g.1 (if g.2 then i + 1 else st) (M.read ln i).2.2
def trimP (st : Nat) (M : Mod) : Int × Mod :=
  if 0 ≤ M.size ln ∧ st = 0 then M.drop ln
  else if (st : Int) < M.size ln then M.cut ln st
  else (0, M)
def openP (M : Mod) : Int × Option (List Fr) × Mod :=
  if (readP (M.size ln).toNat 0 [] 0 M).1 ≠ 0 then ((readP (M.size ln).toNat 0 [] 0 M).1, none, (readP (M.size ln).toNat 0 [] 0 M).2.2.2)
  else if (trimP (readP (M.size ln).toNat 0 [] 0 M).2.2.1 (readP (M.size ln).toNat 0 [] 0 M).2.2.2).1 ≠ 0 then
    ((trimP (readP (M.size ln).toNat 0 [] 0 M).2.2.1 (readP (M.size ln).toNat 0 [] 0 M).2.2.2).1, none, (trimP (readP (M.size ln).toNat 0 [] 0 M).2.2.1 (readP (M.size ln).toNat 0 [] 0 M).2.2.2).2)
  else (0, some ((readP (M.size ln).toNat 0 [] 0 M).2.1.take ((readP (M.size ln).toNat 0 [] 0 M).2.2.1 - 1)), (trimP (readP (M.size ln).toNat 0 [] 0 M).2.2.1 (readP (M.size ln).toNat 0 [] 0 M).2.2.2).2)
/-- Where there is no file: the top first. -/
def topP (M : Mod) : Int × Mod := if M.size ln < 0 then M.write ln 0 topL else (0, M)
def frameP (fs : List Fr) (n : Nat) (d : List UInt8) (c : Bool) (M : Mod) : Int × List Fr × Mod :=
  ((M.write ln (1 + fs.length : Nat) (frameL (lgOf fs) n d c)).1, (if (M.write ln (1 + fs.length : Nat) (frameL (lgOf fs) n d c)).1 = 0 then fs ++ [(n, sumL (frameL (lgOf fs) n d c))] else fs), (M.write ln (1 + fs.length : Nat) (frameL (lgOf fs) n d c)).2)
def addP (fs : List Fr) (n : Int) (d : List UInt8) (c : Bool) (M : Mod) : Int × List Fr × Mod :=
  if n < 0 ∨ 4096 ≤ n ∨ d.length ≠ 232 then (1, fs, M)
  else if (topP M).1 ≠ 0 then ((topP M).1, fs, (topP M).2)
  else frameP fs n.toNat d c (topP M).2
/-- What the opening of bytes that are no sector answers. -/
def oErr (s : List UInt8) : Int := if s.length = 256 then 20 else 1
/-- Get: the last frame's sector is read and opened. -/
def getP (fs : List Fr) (n : Int) (M : Mod) : List UInt8 × Bool × Int × Mod :=
  match lastI (fs.map (·.1)) n fs.length with
  | none => ([], false, 0, M)
  | some i =>
    if (M.read ln (i + 1 : Nat)).2.1 ≠ 0 then ([], false, (M.read ln (i + 1 : Nat)).2.1, (M.read ln (i + 1 : Nat)).2.2)
    else if okB (M.read ln (i + 1 : Nat)).1 = false then ([], false, oErr (M.read ln (i + 1 : Nat)).1, (M.read ln (i + 1 : Nat)).2.2)
    else (kD (M.read ln (i + 1 : Nat)).1, true, 0, (M.read ln (i + 1 : Nat)).2.2)
def backP (fs : List Fr) (k : Int) (M : Mod) : Int × List Fr × Mod :=
  if k < 0 ∨ (fs.length : Int) < k then (1, fs, M)
  else if k = fs.length then (0, fs, M)
  else ((M.cut ln (1 + k)).1, (if (M.cut ln (1 + k)).1 = 0 then fs.take k.toNat else fs), (M.cut ln (1 + k)).2)
def endP (fs : List Fr) (M : Mod) : Int × List Fr × Mod :=
  if M.size ln < 0 then (0, [], M)
  else ((M.drop ln).1, (if (M.drop ln).1 = 0 then [] else fs), (M.drop ln).2)

/-! ### the last frame of a number -/
theorem lastI_some : ∀ {ns : List Nat} {n : Int} {k i : Nat}, lastI ns n k = some i → i < k ∧ (ns.getD i 0 : Int) = n
  | _, _, 0, _, h => by cases h
  | ns, n, k + 1, i, h => by
    unfold lastI at h
    split at h
    · rename_i hn
      cases h
      exact ⟨Nat.lt_succ_self _, hn⟩
    · have := lastI_some h
      exact ⟨by omega, this.2⟩
theorem lastI_none : ∀ {ns : List Nat} {n : Int} {k : Nat}, lastI ns n k = none → ∀ i, i < k → (ns.getD i 0 : Int) ≠ n
  | _, _, 0, _, i, hi => by omega
  | ns, n, k + 1, h, i, hi => by
    unfold lastI at h
    split at h
    · cases h
    · rename_i hn
      rcases Nat.lt_or_ge i k with h1 | h1
      · exact lastI_none h i h1
      · have : i = k := by omega
        subst this
        exact hn
theorem lastI_app (ns r : List Nat) (n : Int) : ∀ k, k ≤ ns.length → lastI (ns ++ r) n k = lastI ns n k
  | 0, _ => rfl
  | k + 1, h => by
    have e : (ns ++ r).getD k 0 = ns.getD k 0 := by
      rw [List.getD_eq_getElem?_getD, List.getD_eq_getElem?_getD, List.getElem?_append_left (by omega)]
    unfold lastI
    rw [e, lastI_app ns r n k (by omega)]
def lookL (fs : List Fr) : Nat → Option Nat := fun n => lastI (fs.map (·.1)) (n : Int) fs.length
theorem lastI_succ (ns : List Nat) (n : Int) (k : Nat) : lastI ns n (k + 1) = if (ns.getD k 0 : Int) = n then some k else lastI ns n k := rfl
theorem lookL_nil : lookL [] = fun _ => none := rfl
theorem lookL_snoc (fs : List Fr) (x : Fr) : lookL (fs ++ [x]) = fun m => if m = x.1 then some fs.length else lookL fs m := by
  funext m
  unfold lookL
  have e : ((fs ++ [x]).map (·.1)).getD fs.length 0 = x.1 := by
    rw [List.getD_eq_getElem?_getD]
    simp
  rw [List.length_append]
  show lastI _ _ (fs.length + 1) = _
  rw [lastI_succ, e, List.map_append, lastI_app _ _ _ _ (by simp)]
  by_cases h : m = x.1
  · rw [if_pos h, if_pos (by rw [h])]
  · rw [if_neg h, if_neg (by omega)]
theorem lastI_neg {ns : List Nat} {n : Int} (h : n < 0) : ∀ k, lastI ns n k = none
  | 0 => rfl
  | k + 1 => by
    unfold lastI
    rw [if_neg (by omega), lastI_neg h k]
theorem lookL_mem (fs : List Fr) (n : Nat) : (lookL fs n).isSome = true ↔ n ∈ fs.map (·.1) := by
  constructor
  · intro h
    obtain ⟨i, hi⟩ := Option.isSome_iff_exists.1 h
    obtain ⟨h1, h2⟩ := lastI_some hi
    rw [List.getD_eq_getElem?_getD, List.getElem?_eq_getElem (by simpa using h1)] at h2
    have e : (fs.map (·.1))[i]'(by simpa using h1) = n := by
      have : (((fs.map (·.1))[i]'(by simpa using h1) : Nat) : Int) = (n : Int) := h2
      omega
    exact e ▸ List.getElem_mem _
  · intro h
    rw [Option.isSome_iff_exists]
    cases hl : lookL fs n with
    | some i => exact ⟨i, rfl⟩
    | none =>
      obtain ⟨i, hi, e⟩ := List.mem_iff_getElem.1 h
      have hi2 : i < fs.length := by simpa using hi
      refine absurd ?_ (lastI_none hl i hi2)
      rw [List.getD_eq_getElem?_getD, List.getElem?_eq_getElem hi, e]
      rfl
theorem pages_sorted (ns : List Nat) : (pagesM ns).Pairwise (· < ·) := List.Pairwise.filter _ (by simpa using List.pairwise_lt_range (n := 4096))
theorem pages_mem {fs : List Fr} (hs : ∀ x ∈ fs, x.1 < 4096) (n : Nat) : n ∈ pagesM (fs.map (·.1)) ↔ (lookL fs n).isSome = true := by
  rw [lookL_mem]
  unfold pagesM
  rw [List.mem_filter, List.mem_range]
  constructor
  · rintro ⟨_, h⟩
    simp only [List.any_eq_true, beq_iff_eq] at h
    obtain ⟨x, hx, rfl⟩ := h
    exact hx
  · intro h
    refine ⟨?_, ?_⟩
    · obtain ⟨x, hx, rfl⟩ := List.mem_map.1 h
      exact hs x hx
    · simp only [List.any_eq_true, beq_iff_eq]
      exact ⟨n, h, rfl⟩
end Lo
end Go.Proofs.YtgmbiiocjhkpdaaGreat
