/-
  Journal, plainly: what its sectors say, one behind the other; what counts of them. No program in sight.
-/
import Derived.Test.YtgmbiiocjhkpdaaGreatGrpJDkb
import Derived.Test.YtgmbiiocjhkpdaaGreatGrpJSea
namespace Go.Proofs.YtgmbiiocjhkpdaaGreat
open Go.RowKit
namespace Jo
open Num (fixF unfF)
open Seal (numAt sealL)
open Disk (Sec)

/-- Whether bytes are a sealed sector; what it says. -/
def okB (s : List UInt8) : Bool := decide (s.length = 256) && decide (numAt s 248 8 = Mix.sumN 1 (s.take 248))
def kK (s : List UInt8) : Nat := numAt s 232 4
def kN (s : List UInt8) : Nat := numAt s 236 4
def kS (s : List UInt8) : Nat := numAt s 240 8
def kD (s : List UInt8) : List UInt8 := s.take 232
theorem okB_iff {s : List UInt8} : okB s = true ↔ s.length = 256 ∧ Seal.right s := by unfold okB Seal.right; simp
theorem okB_seal (K N S : Nat) {d : List UInt8} (hd : d.length = 232) : okB (sealL K N S d) = true := okB_iff.2 ⟨by rw [Seal.seal_len, hd], Seal.seal_right K N S d hd⟩
theorem kK_seal {K : Nat} (N S : Nat) {d : List UInt8} (hd : d.length = 232) (hK : K < 4294967296) : kK (sealL K N S d) = K := Seal.seal_K K N S d hd hK
theorem kN_seal (K : Nat) {N : Nat} (S : Nat) {d : List UInt8} (hd : d.length = 232) (hN : N < 4294967296) : kN (sealL K N S d) = N := Seal.seal_N K N S d hd hN
theorem kS_seal (K N : Nat) {S : Nat} {d : List UInt8} (hd : d.length = 232) (hS : S < 18446744073709551616) : kS (sealL K N S d) = S := Seal.seal_S K N S d hd hS
theorem kD_seal (K N S : Nat) {d : List UInt8} (hd : d.length = 232) : kD (sealL K N S d) = d := Seal.seal_take K N S d hd
theorem ok_zeros : okB (List.replicate 256 0) = false := by decide +kernel

/-- A page's number and what it was. -/
abbrev Rec := Nat × List UInt8
/-- What was read of a journal so far. -/
structure Fnd where
  begun : Bool
  salt : Nat
  recs : List Rec
  above : Nat
  feet : Nat
  pages : Nat
  counted : Nat
def f0 : Fnd := ⟨false, 0, [], 0, 0, 0, 0⟩
def footL (pages feet : Nat) : List UInt8 := fixF 4 pages ++ fixF 4 feet ++ List.replicate 224 0
theorem footL_len (p k : Nat) : (footL p k).length = 232 := by unfold footL; rw [List.length_append, List.length_append, Num.fixF_length, Num.fixF_length, List.length_replicate]
/-- The pages that a foot is held against. -/
def footP (f : Fnd) (s : List UInt8) : Nat := if f.feet = 0 then numAt s 0 4 else f.pages
def rightFoot (f : Fnd) (s : List UInt8) : Bool :=
  decide (footP f s ≤ 4096) && decide (f.above ≤ footP f s) && decide (kN s = f.recs.length - f.counted) && decide (kD s = footL (footP f s) f.feet)
def takeF (f : Fnd) (s : List UInt8) : Option Fnd :=
  if okB s = false then none
  else if f.begun = true ∧ kS s ≠ f.salt then none
  else if kK s = 2 then (if 4096 ≤ kN s then none else some ⟨true, kS s, f.recs ++ [(kN s, kD s)], max f.above (kN s + 1), f.feet, f.pages, f.counted⟩)
  else if kK s = 3 then (if rightFoot f s = false then none else some ⟨true, kS s, f.recs, f.above, f.feet + 1, footP f s, f.recs.length⟩)
  else none
def scan : Fnd → List Sec → Fnd
  | f, [] => f
  | f, none :: _ => f
  | f, some s :: r => match takeF f s with | none => f | some g => scan g r
def takes : Fnd → List (List UInt8) → Option Fnd
  | f, [] => some f
  | f, s :: r => match takeF f s with | none => none | some g => takes g r

theorem takes_snoc : ∀ (l : List (List UInt8)) (f : Fnd) (s : List UInt8), takes f (l ++ [s]) = (takes f l).bind fun g => takeF g s
  | [], f, s => by simp only [List.nil_append, takes, Option.bind_some]; cases takeF f s <;> rfl
  | x :: r, f, s => by
    simp only [List.cons_append, takes]
    cases takeF f x with
    | none => rfl
    | some g => exact takes_snoc r g s
theorem scan_takes : ∀ (l : List (List UInt8)) (f g : Fnd) (C : List Sec), takes f l = some g → scan f (l.map some ++ C) = scan g C
  | [], f, g, C, h => by simp only [takes, Option.some.injEq] at h; subst h; rfl
  | x :: r, f, g, C, h => by
    simp only [takes] at h
    simp only [List.map_cons, List.cons_append, scan]
    cases hx : takeF f x with
    | none => rw [hx] at h; cases h
    | some k => rw [hx] at h; exact scan_takes r k g C h
theorem scan_all {l : List (List UInt8)} {f g : Fnd} (h : takes f l = some g) : scan f (l.map some) = g := by
  have := scan_takes l f g [] h
  rw [List.append_nil] at this
  rw [this]; rfl
theorem take_zeros (f : Fnd) : takeF f Disk.zeros = none := by unfold takeF Disk.zeros; rw [if_pos ok_zeros]

/-- A record that is written, and a foot. -/
theorem take_rec {f : Fnd} {salt n : Nat} {d : List UInt8} (hd : d.length = 232) (hs : salt < 18446744073709551616) (hf : f.begun = true → f.salt = salt) (hn : n < 4096) :
    takeF f (sealL 2 n salt d) = some ⟨true, salt, f.recs ++ [(n, d)], max f.above (n + 1), f.feet, f.pages, f.counted⟩ := by
  unfold takeF
  rw [okB_seal _ _ _ hd, if_neg (by decide), kS_seal _ _ hd hs, if_neg (by rintro ⟨h1, h2⟩; exact h2 (hf h1).symm), kK_seal _ _ hd (by decide), if_pos rfl, kN_seal _ _ hd (by omega), if_neg (by omega), kD_seal _ _ _ hd]
theorem numAt_head (d r : List UInt8) (h : d.length = 4) : numAt (d ++ r) 0 4 = unfF 0 d := by
  unfold numAt
  rw [List.drop_zero, List.take_left' h]
theorem foot_head (N S p k : Nat) (hp : p < 4294967296) : numAt (sealL 3 N S (footL p k)) 0 4 = p := by
  unfold sealL Seal.bodyL footL
  simp only [List.append_assoc]
  rw [numAt_head _ _ (Num.fixF_length 4 p), Num.unf_fix]
  exact Nat.mod_eq_of_lt hp
theorem take_foot {f : Fnd} {salt P l k : Nat} (hs : salt < 18446744073709551616) (hf : f.begun = true → f.salt = salt) (hP : P ≤ 4096) (ha : f.above ≤ P) (hp : f.feet = 0 ∨ f.pages = P) (hl : l < 4294967296) (el : f.recs.length - f.counted = l) (ek : f.feet = k) :
    takeF f (sealL 3 l salt (footL P k)) = some ⟨true, salt, f.recs, f.above, f.feet + 1, P, f.recs.length⟩ := by
  have hd := footL_len P k
  have e : footP f (sealL 3 l salt (footL P k)) = P := by
    unfold footP
    rcases hp with h | h
    · rw [if_pos h, foot_head _ _ _ _ (by omega)]
    · split
      · rw [foot_head _ _ _ _ (by omega)]
      · exact h
  have hr : rightFoot f (sealL 3 l salt (footL P k)) = true := by
    unfold rightFoot
    rw [e, kN_seal _ _ hd hl, kD_seal _ _ _ hd, ek, el, decide_eq_true hP, decide_eq_true ha, decide_eq_true (rfl : l = l), decide_eq_true (rfl : footL P k = footL P k)]
    rfl
  unfold takeF
  rw [okB_seal _ _ _ hd, if_neg (by decide), kS_seal _ _ hd hs, if_neg (by rintro ⟨h1, h2⟩; exact h2 (hf h1).symm), kK_seal _ _ hd (by decide), if_neg (by decide), if_pos rfl, hr, if_neg (by decide), e]

/-- What may be left of sectors that waited and were new: each kept, torn, or none with bytes 0; and cut off anywhere. -/
inductive Left : List (List UInt8) → List Sec → Prop
  | nil {B} : Left B []
  | kept {b B C} : Left B C → Left (b :: B) (some b :: C)
  | torn {b B C} : Left B C → Left (b :: B) (none :: C)
  | lost {b B C} : Left B C → Left (b :: B) (some Disk.zeros :: C)
theorem scan_left {B : List (List UInt8)} {C : List Sec} (h : Left B C) : ∀ f, ∃ k, k ≤ B.length ∧ scan f C = scan f ((B.take k).map some) := by
  induction h with
  | nil => exact fun f => ⟨0, by omega, by simp [scan]⟩
  | @kept b B C _ ih =>
    intro f
    cases hb : takeF f b with
    | none => exact ⟨1, by simp, by simp [scan, hb]⟩
    | some g =>
      obtain ⟨k, hk, e⟩ := ih g
      exact ⟨k + 1, by simp; omega, by simp [scan, hb, e]⟩
  | torn _ _ => exact fun f => ⟨0, by omega, by simp [scan]⟩
  | lost _ _ => exact fun f => ⟨0, by omega, by simp [scan, take_zeros]⟩
theorem scan_behind {B : List (List UInt8)} {C : List Sec} (h : Left B C) : ∀ (A : List Sec) (f : Fnd), ∃ k, k ≤ B.length ∧ scan f (A ++ C) = scan f (A ++ (B.take k).map some)
  | [], f => scan_left h f
  | none :: A, f => ⟨0, by omega, by simp [scan]⟩
  | some s :: A, f => by
    simp only [List.cons_append, scan]
    cases hs : takeF f s with
    | none => exact ⟨0, by omega, rfl⟩
    | some g => exact scan_behind h A g

end Jo
end Go.Proofs.YtgmbiiocjhkpdaaGreat
