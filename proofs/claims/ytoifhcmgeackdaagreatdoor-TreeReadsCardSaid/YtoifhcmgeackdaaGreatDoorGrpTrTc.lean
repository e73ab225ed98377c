/-
  Put together: TreeListM, TreeListW.
-/
import Derived.Test.YtoifhcmgeackdaaGreatDoorGrpTrTb
import Derived.Test.YtoifhcmgeackdaaGreatDoorTreeGet
import Derived.Test.YtoifhcmgeackdaaGreatDoorGrpTrChC
/-
  The pages of a tree, as List gathers them, in plain words.
-/
namespace Go.Proofs.YtoifhcmgeackdaaGreatDoor
open Go.RowKit
namespace Tr
open Num (hid)
open Mem (Bs)
open Ch (valM)
def cellPg (f : Ch.Pf) (c : No.C) : List Int := (valM f c).1.2
def cellsM (f : Ch.Pf) (cs : List No.C) : Option (List Int) := if ∀ c ∈ cs, (valM f c).2 = 0 then some (cs.flatMap (cellPg f)) else none
def kidsM (g : Int → Option (List Int)) (ps : List Int) : Option (List Int) := if ∀ q ∈ ps, (g q).isSome = true then some (ps.flatMap fun q => (g q).getD []) else none
/-- The pages from one on, down so many levels less one. -/
def listM (f : Ch.Pf) : Nat → Int → Option (List Int)
  | 0, _ => none
  | k + 1, p => if (loadM f p).2 = 0 then (cellsM f (loadM f p).1.cs).bind fun a => (kidsM (listM f k) (loadM f p).1.ps).map fun b => p :: (a ++ b) else none
theorem newM_cons (n : Int) (L l : List Int) : newM L (n :: l) = (!decide (n ∈ L) && newM (L ++ [n]) l) := rfl
theorem newM_app : ∀ (A B L : List Int), newM L (A ++ B) = (newM L A && newM (L ++ A) B)
  | [], B, L => by simp [newM]
  | a :: A, B, L => by
    rw [List.cons_append, newM_cons, newM_cons, newM_app A B (L ++ [a]), Bool.and_assoc, List.append_assoc]
    rfl
theorem flat_next {α : Type} {g : α → List Int} {l : List α} {j : Nat} (hj : j < l.length) : (l.take (j + 1)).flatMap g = (l.take j).flatMap g ++ g l[j] := by
  have e : l.take (j + 1) = l.take j ++ [l[j]] := by rw [List.take_add_one, List.getElem?_eq_getElem hj]; rfl
  rw [e, List.flatMap_append, List.flatMap_cons, List.flatMap_nil, List.append_nil]
theorem flat_split {α : Type} (g : α → List Int) (l : List α) {j : Nat} (hj : j < l.length) : l.flatMap g = (l.take j).flatMap g ++ (g l[j] ++ (l.drop (j + 1)).flatMap g) := by
  conv => lhs; rw [← List.take_append_drop j l, List.flatMap_append, List.drop_eq_getElem_cons hj, List.flatMap_cons]
/-- What is known of the pages of a part: they are new behind what is ahead of it. -/
theorem new_part {α : Type} {g : α → List Int} {l : List α} {L : List Int} (h : newM L (l.flatMap g) = true) {j : Nat} (hj : j < l.length) : newM (L ++ (l.take j).flatMap g) (g l[j]) = true := by
  rw [flat_split g l hj, newM_app, newM_app] at h
  simp only [Bool.and_eq_true] at h
  exact h.2.1
theorem list_some {f : Ch.Pf} {k : Nat} {p : Int} {P : List Int} (h : listM f (k + 1) p = some P) : (loadM f p).2 = 0 ∧ (∀ c ∈ (loadM f p).1.cs, (valM f c).2 = 0) ∧ (∀ q ∈ (loadM f p).1.ps, (listM f k q).isSome = true) ∧ P = [p] ++ ((loadM f p).1.cs.flatMap (cellPg f) ++ (loadM f p).1.ps.flatMap fun q => (listM f k q).getD []) := by
  unfold listM at h
  by_cases h1 : (loadM f p).2 = 0
  · rw [if_pos h1] at h
    unfold cellsM kidsM at h
    by_cases h2 : ∀ c ∈ (loadM f p).1.cs, (valM f c).2 = 0
    · rw [if_pos h2] at h
      by_cases h3 : ∀ q ∈ (loadM f p).1.ps, (listM f k q).isSome = true
      · rw [if_pos h3] at h
        simp only [Option.bind_some, Option.map_some, Option.some.injEq] at h
        exact ⟨h1, h2, h3, by rw [← h]; rfl⟩
      · rw [if_neg h3] at h; simp at h
    · rw [if_neg h2] at h; simp at h
  · rw [if_neg h1] at h; cases h
end Tr
end Go.Proofs.YtoifhcmgeackdaaGreatDoor

/-
  list.tree: the pages of a tree from one on.
-/
namespace Go.Proofs.YtoifhcmgeackdaaGreatDoor
open Go.RowKit
namespace Tr
open Num (hid)
open Mem (Bs bs ptr Chg tI tIs)
open Sp (Hd)
open Sh (ShL St Two Wf)
open Ch (pV ints valM cV cO)
open No (N C NOw NAt Nb nV tN tC gObj)
/-- What list.tree leaves. -/
def TreePost (s d N cnt lb mb : Nat) (lim : Int) (h : Hd) (arm : Int) (S : St) (vp : Value) (L P : List Int) (w0 w : World) (e : Ending) (w' : World) : Prop :=
  ∃ vp', e = .returned (.int .i64 0) ∧ Ls s d N lb mb vp' (L ++ P) w' ∧ (∀ g, vp'.ownBlock = some g → vp.ownBlock = some g ∨ w.heap.size ≤ g) ∧ Chg (fun g => Two s d g ∨ LsF lb mb vp g) w w' ∧ ShL s d N cnt lim h arm S w0 w'
variable {s d N cnt lb mb : Nat} {lim : Int} {h : Hd} {arm : Int} {S : St} {vp : Value} {L : List Int} {w0 w : World}
/-- Beside other things: a list and its shelf, and what is asked of all that is to come. -/
structure Beside (s d N cnt lb mb : Nat) (lim : Int) (h : Hd) (arm : Int) (S : St) (vp vq : Value) (L : List Int) (w0 w w1 : World) : Prop where
  ls : Ls s d N lb mb vq L w1
  sh : ShL s d N cnt lim h arm S w0 w1
  q : ∀ g, vq.ownBlock = some g → vp.ownBlock = some g ∨ w.heap.size ≤ g
  chg : Chg (fun g => Two s d g ∨ LsF lb mb vp g) w w1
variable {vq : Value} {w1 w2 : World}
theorem Beside.on (m : Beside s d N cnt lb mb lim h arm S vp vq L w0 w w1) (hb : Below w1.heap.size w1 w2) : Beside s d N cnt lb mb lim h arm S vp vq L w0 w w2 :=
  ⟨m.ls.on hb, m.sh.kept hb, m.q, m.chg.trans (Chg.of_below hb)⟩
theorem Beside.turned (m : Beside s d N cnt lb mb lim h arm S vp vq L w0 w w1) (hc : Chg (Two s d) w1 w2) (k : ShL s d N cnt lim h arm S w0 w2) : Beside s d N cnt lb mb lim h arm S vp vq L w0 w w2 :=
  ⟨m.ls.turned hc, k, m.q, m.chg.trans (hc.mono (fun _ _ e => Or.inl e))⟩
/-- A step that turned the list alone, or the shelf's blocks too. -/
theorem Beside.step (m : Beside s d N cnt lb mb lim h arm S vp vq L w0 w w1) {v3 : Value} {L3 : List Int} (l : Ls s d N lb mb v3 L3 w2) (k : ShL s d N cnt lim h arm S w0 w2) (hq : ∀ g, v3.ownBlock = some g → vq.ownBlock = some g ∨ w1.heap.size ≤ g) (hc : Chg (fun g => Two s d g ∨ LsF lb mb vq g) w1 w2) : Beside s d N cnt lb mb lim h arm S vp v3 L3 w0 w w2 := by
  refine ⟨l, k, fun g e => ?_, m.chg.then hc (fun i _ e => ?_)⟩
  · rcases hq g e with e | e
    · exact m.q g e
    · have := m.chg.size; exact Or.inr (by omega)
  · rcases e with e | e | e | e
    · exact Or.inr (Or.inl e)
    · exact Or.inr (Or.inr (Or.inl e))
    · exact Or.inr (Or.inr (Or.inr (Or.inl e)))
    · rcases m.q i e with e | e
      · exact Or.inr (Or.inr (Or.inr (Or.inr e)))
      · exact Or.inl e
/-- What lay made before, and is none of the list's, stands. -/
theorem Beside.cell (m : Beside s d N cnt lb mb lim h arm S vp vq L w0 w w1) {g i : Nat} {v : Value} (hl : g < w.heap.size) (hg : g ≠ s ∧ g ≠ d ∧ ¬ LsF lb mb vp g) (hc : w.cell? ⟨g, i, none⟩ = some v) : w1.cell? ⟨g, i, none⟩ = some v :=
  (m.chg.cell hl (fun e => by
    rcases e with (e | e) | e
    · exact hg.1 e
    · exact hg.2.1 e
    · exact hg.2.2 e)).trans hc
end Tr
end Go.Proofs.YtoifhcmgeackdaaGreatDoor
