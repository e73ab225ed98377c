/-
  Put together: JouMath, JouDir, JouCut, JouBackM, JouChgM, JouUp, JouChI.
-/
import Derived.Test.YtpdpjgeoclilhaaGreatGrpJDkb
import Derived.Test.YtpdpjgeoclilhaaGreatGrpJSea
/-
  Journal, plainly: what its sectors say, one behind the other; what counts of them. No program in sight.
-/
namespace Go.Proofs.YtpdpjgeoclilhaaGreat
open Go.RowKit
namespace Jo
open Num (fixF unfF)
open Seal (numAt sealL)
open Disk (Sec)

/-- Whether bytes are a sealed sector; what it says. -/
def okB (s : List UInt8) : Bool := decide (s.length = 256) && decide (numAt s 248 8 = Mix.sumN 1 (s.take 248))
def kK (s : List UInt8) : Nat := numAt s 232 4
def kN (s : List UInt8) : Nat := numAt s 236 4
def kS (s : List UInt8) : Nat := numAt s 240 8
def kD (s : List UInt8) : List UInt8 := s.take 232
theorem okB_iff {s : List UInt8} : okB s = true ↔ s.length = 256 ∧ Seal.right s := by unfold okB Seal.right; simp
theorem okB_seal (K N S : Nat) {d : List UInt8} (hd : d.length = 232) : okB (sealL K N S d) = true := okB_iff.2 ⟨by rw [Seal.seal_len, hd], Seal.seal_right K N S d hd⟩
theorem kK_seal {K : Nat} (N S : Nat) {d : List UInt8} (hd : d.length = 232) (hK : K < 4294967296) : kK (sealL K N S d) = K := Seal.seal_K K N S d hd hK
theorem kN_seal (K : Nat) {N : Nat} (S : Nat) {d : List UInt8} (hd : d.length = 232) (hN : N < 4294967296) : kN (sealL K N S d) = N := Seal.seal_N K N S d hd hN
theorem kS_seal (K N : Nat) {S : Nat} {d : List UInt8} (hd : d.length = 232) (hS : S < 18446744073709551616) : kS (sealL K N S d) = S := Seal.seal_S K N S d hd hS
theorem kD_seal (K N S : Nat) {d : List UInt8} (hd : d.length = 232) : kD (sealL K N S d) = d := Seal.seal_take K N S d hd
theorem ok_zeros : okB (List.replicate 256 0) = false := by decide +kernel

/-- A page's number and what it was. -/
abbrev Rec := Nat × List UInt8
/-- What was read of a journal so far. -/
structure Fnd where
  begun : Bool
  salt : Nat
  recs : List Rec
  above : Nat
  feet : Nat
  pages : Nat
  counted : Nat
def f0 : Fnd := ⟨false, 0, [], 0, 0, 0, 0⟩
def footL (pages feet : Nat) : List UInt8 := fixF 4 pages ++ fixF 4 feet ++ List.replicate 224 0
theorem footL_len (p k : Nat) : (footL p k).length = 232 := by unfold footL; rw [List.length_append, List.length_append, Num.fixF_length, Num.fixF_length, List.length_replicate]
/-- The pages that a foot is held against. -/
def footP (f : Fnd) (s : List UInt8) : Nat := if f.feet = 0 then numAt s 0 4 else f.pages
def rightFoot (f : Fnd) (s : List UInt8) : Bool :=
  decide (footP f s ≤ 4096) && decide (f.above ≤ footP f s) && decide (kN s = f.recs.length - f.counted) && decide (kD s = footL (footP f s) f.feet)
def takeF (f : Fnd) (s : List UInt8) : Option Fnd :=
  if okB s = false then none
  else if f.begun = true ∧ kS s ≠ f.salt then none
  else if kK s = 2 then (if 4096 ≤ kN s then none else some ⟨true, kS s, f.recs ++ [(kN s, kD s)], max f.above (kN s + 1), f.feet, f.pages, f.counted⟩)
  else if kK s = 3 then (if rightFoot f s = false then none else some ⟨true, kS s, f.recs, f.above, f.feet + 1, footP f s, f.recs.length⟩)
  else none
def scan : Fnd → List Sec → Fnd
  | f, [] => f
  | f, none :: _ => f
  | f, some s :: r => match takeF f s with | none => f | some g => scan g r
def takes : Fnd → List (List UInt8) → Option Fnd
  | f, [] => some f
  | f, s :: r => match takeF f s with | none => none | some g => takes g r

theorem takes_snoc : ∀ (l : List (List UInt8)) (f : Fnd) (s : List UInt8), takes f (l ++ [s]) = (takes f l).bind fun g => takeF g s
  | [], f, s => by simp only [List.nil_append, takes, Option.bind_some]; cases takeF f s <;> rfl
  | x :: r, f, s => by
    simp only [List.cons_append, takes]
    cases takeF f x with
    | none => rfl
    | some g => exact takes_snoc r g s
theorem scan_takes : ∀ (l : List (List UInt8)) (f g : Fnd) (C : List Sec), takes f l = some g → scan f (l.map some ++ C) = scan g C
  | [], f, g, C, h => by simp only [takes, Option.some.injEq] at h; subst h; rfl
  | x :: r, f, g, C, h => by
    simp only [takes] at h
    simp only [List.map_cons, List.cons_append, scan]
    cases hx : takeF f x with
    | none => rw [hx] at h; cases h
    | some k => rw [hx] at h; exact scan_takes r k g C h
theorem scan_all {l : List (List UInt8)} {f g : Fnd} (h : takes f l = some g) : scan f (l.map some) = g := by
  have := scan_takes l f g [] h
  rw [List.append_nil] at this
  rw [this]; rfl
theorem take_zeros (f : Fnd) : takeF f Disk.zeros = none := by unfold takeF Disk.zeros; rw [if_pos ok_zeros]

/-- A record that is written, and a foot. -/
theorem take_rec {f : Fnd} {salt n : Nat} {d : List UInt8} (hd : d.length = 232) (hs : salt < 18446744073709551616) (hf : f.begun = true → f.salt = salt) (hn : n < 4096) :
    takeF f (sealL 2 n salt d) = some ⟨true, salt, f.recs ++ [(n, d)], max f.above (n + 1), f.feet, f.pages, f.counted⟩ := by
  unfold takeF
  rw [okB_seal _ _ _ hd, if_neg (by decide), kS_seal _ _ hd hs, if_neg (by rintro ⟨h1, h2⟩; exact h2 (hf h1).symm), kK_seal _ _ hd (by decide), if_pos rfl, kN_seal _ _ hd (by omega), if_neg (by omega), kD_seal _ _ _ hd]
theorem numAt_head (d r : List UInt8) (h : d.length = 4) : numAt (d ++ r) 0 4 = unfF 0 d := by
  unfold numAt
  rw [List.drop_zero, List.take_left' h]
theorem foot_head (N S p k : Nat) (hp : p < 4294967296) : numAt (sealL 3 N S (footL p k)) 0 4 = p := by
  unfold sealL Seal.bodyL footL
  simp only [List.append_assoc]
  rw [numAt_head _ _ (Num.fixF_length 4 p), Num.unf_fix]
  exact Nat.mod_eq_of_lt hp
theorem take_foot {f : Fnd} {salt P l k : Nat} (hs : salt < 18446744073709551616) (hf : f.begun = true → f.salt = salt) (hP : P ≤ 4096) (ha : f.above ≤ P) (hp : f.feet = 0 ∨ f.pages = P) (hl : l < 4294967296) (el : f.recs.length - f.counted = l) (ek : f.feet = k) :
    takeF f (sealL 3 l salt (footL P k)) = some ⟨true, salt, f.recs, f.above, f.feet + 1, P, f.recs.length⟩ := by
  have hd := footL_len P k
  have e : footP f (sealL 3 l salt (footL P k)) = P := by
    unfold footP
    rcases hp with h | h
    · rw [if_pos h, foot_head _ _ _ _ (by omega)]
    · split
      · rw [foot_head _ _ _ _ (by omega)]
      · exact h
  have hr : rightFoot f (sealL 3 l salt (footL P k)) = true := by
    unfold rightFoot
    rw [e, kN_seal _ _ hd hl, kD_seal _ _ _ hd, ek, el, decide_eq_true hP, decide_eq_true ha, decide_eq_true (rfl : l = l), decide_eq_true (rfl : footL P k = footL P k)]
    rfl
  unfold takeF
  rw [okB_seal _ _ _ hd, if_neg (by decide), kS_seal _ _ hd hs, if_neg (by rintro ⟨h1, h2⟩; exact h2 (hf h1).symm), kK_seal _ _ hd (by decide), if_neg (by decide), if_pos rfl, hr, if_neg (by decide), e]

/-- What may be left of sectors that waited and were new: each kept, torn, or none with bytes 0; and cut off anywhere. -/
inductive Left : List (List UInt8) → List Sec → Prop
  | nil {B} : Left B []
  | kept {b B C} : Left B C → Left (b :: B) (some b :: C)
  | torn {b B C} : Left B C → Left (b :: B) (none :: C)
  | lost {b B C} : Left B C → Left (b :: B) (some Disk.zeros :: C)
theorem scan_left {B : List (List UInt8)} {C : List Sec} (h : Left B C) : ∀ f, ∃ k, k ≤ B.length ∧ scan f C = scan f ((B.take k).map some) := by
  induction h with
  | nil => exact fun f => ⟨0, by omega, by simp [scan]⟩
  | @kept b B C _ ih =>
    intro f
    cases hb : takeF f b with
    | none => exact ⟨1, by simp, by simp [scan, hb]⟩
    | some g =>
      obtain ⟨k, hk, e⟩ := ih g
      exact ⟨k + 1, by simp; omega, by simp [scan, hb, e]⟩
  | torn _ _ => exact fun f => ⟨0, by omega, by simp [scan]⟩
  | lost _ _ => exact fun f => ⟨0, by omega, by simp [scan, take_zeros]⟩
theorem scan_behind {B : List (List UInt8)} {C : List Sec} (h : Left B C) : ∀ (A : List Sec) (f : Fnd), ∃ k, k ≤ B.length ∧ scan f (A ++ C) = scan f (A ++ (B.take k).map some)
  | [], f => scan_left h f
  | none :: A, f => ⟨0, by omega, by simp [scan]⟩
  | some s :: A, f => by
    simp only [List.cons_append, scan]
    cases hs : takeF f s with
    | none => exact ⟨0, by omega, rfl⟩
    | some g => exact scan_behind h A g

end Jo
end Go.Proofs.YtpdpjgeoclilhaaGreat

/-
  A disk with the files "data" and "journal" alone, plainly: what each operation does to the two.
-/
namespace Go.Proofs.YtpdpjgeoclilhaaGreat
open Go.RowKit
namespace Jo
open Disk (Mod Fil Plc Sec Nam Dir Ctl)

def jn : Nam := [106, 111, 117, 114, 110, 97, 108]
def dn : Nam := [100, 97, 116, 97]
def dir2 (D J : Option Fil) : Dir := (match D with | none => [] | some F => [(dn, F)]) ++ (match J with | none => [] | some F => [(jn, F)])
theorem get_d (D J : Option Fil) : Disk.get? (dir2 D J) dn = D := by
  cases D <;> cases J <;> simp [dir2, Disk.get?, dn, jn]
theorem get_j (D J : Option Fil) : Disk.get? (dir2 D J) jn = J := by
  cases D <;> cases J <;> simp [dir2, Disk.get?, dn, jn]
theorem before_dj : bytesBefore dn jn = true := by decide +kernel
theorem before_jd : bytesBefore jn dn = false := by decide +kernel
theorem ins_d (D J : Option Fil) (F : Fil) : Disk.ins (dir2 D J) dn F = dir2 (some F) J := by
  have h := before_dj
  have e1 : (jn == dn) = false := by decide
  have e2 : (dn == dn) = true := by decide
  cases D <;> cases J <;> simp [dir2, Disk.ins, Disk.del, Disk.insB, e1, h]
theorem ins_j (D J : Option Fil) (F : Fil) : Disk.ins (dir2 D J) jn F = dir2 D (some F) := by
  have h := before_jd
  have e1 : (dn == jn) = false := by decide
  have e2 : (jn == jn) = true := by decide
  cases D <;> cases J <;> simp [dir2, Disk.ins, Disk.del, Disk.insB, e1, h]
theorem del_j (D J : Option Fil) : Disk.del (dir2 D J) jn = dir2 D none := by
  have e1 : (dn == jn) = false := by decide
  cases D <;> cases J <;> simp [dir2, Disk.del, e1]
/-- How many sectors a file has. -/
def lenO (F : Option Fil) : Nat := match F with | none => 0 | some F => F.ps.length
def psO (F : Option Fil) : List Plc := match F with | none => [] | some F => F.ps
theorem lens_mk (D J : Option Fil) : Disk.lensD (dir2 D J) = lenO D + lenO J := by
  cases D <;> cases J <;> simp [dir2, Disk.lensD, lenO]
theorem holds_mk (D J : Option Fil) (n : Nam) : Disk.holdsB (dir2 D J) n = true := by
  unfold Disk.holdsB
  have : (dir2 D J).length < 8 := by cases D <;> cases J <;> simp [dir2]
  simp [this]
theorem fit_j : Disk.nameFit jn = true := by decide
theorem fit_d : Disk.nameFit dn = true := by decide
/-- A file's size, as a disk says it. -/
def szO (F : Option Fil) : Int := match F with | none => -1 | some F => (F.ps.length : Int)
theorem size_j {M : Mod} {D J : Option Fil} (h : M.fs = dir2 D J) : M.size jn = szO J := by
  unfold Disk.Mod.size
  rw [h, get_j]
  cases J <;> rfl
theorem size_d {M : Mod} {D J : Option Fil} (h : M.fs = dir2 D J) : M.size dn = szO D := by
  unfold Disk.Mod.size
  rw [h, get_d]
  cases D <;> rfl
theorem sz_len (F : Option Fil) : max (szO F) 0 = ((lenO F : Nat) : Int) := by
  cases F with
  | none => rfl
  | some F => simp [szO, lenO]

/-- Up, nothing armed. -/
def Calm (c : Ctl) : Prop := c.down = false ∧ c.at_ = 0
theorem calm_ref {c : Ctl} (h : Calm c) : c.refusal true = 0 := by
  have hf : c.fault = 0 := by unfold Ctl.fault; rw [h.2]; rfl
  simp [Ctl.refusal, h.1, hf]
theorem calm_beg {c : Ctl} (h : Calm c) : Calm (c.begun true) ∧ (c.begun true).room = c.room := by
  have hf : c.fault = 0 := by unfold Ctl.fault; rw [h.2]; rfl
  have e : c.begun true = { c with ops := Disk.inc c.ops } := by simp [Ctl.begun, h.1, hf, Ctl.counted, Ctl.stepped, h.2]
  rw [e]
  exact ⟨h, rfl⟩
/-- What an operation may do: it is refused, or it is done. -/
theorem run_ways (M : Mod) (f : Dir → Int × Dir) : (∃ c, M.run true f = ⟨M.c.refusal true, c, M.fs⟩ ∧ M.c.refusal true ≠ 0 ∧ ¬ Calm M.c) ∨ ∃ c, M.run true f = ⟨(f M.fs).1, c, (f M.fs).2⟩ ∧ (Calm M.c → Calm c ∧ c.room = M.c.room) := by
  unfold Disk.Mod.run
  split
  · rename_i h
    exact Or.inl ⟨_, rfl, h, fun hc => h (calm_ref hc)⟩
  · exact Or.inr ⟨_, rfl, fun hc => calm_beg hc⟩
theorem ref_vals (c : Ctl) : c.refusal true = 0 ∨ c.refusal true = 10 ∨ c.refusal true = 11 := by
  unfold Ctl.refusal
  simp only [Bool.not_true, Bool.false_eq_true, if_false]
  repeat' split
  all_goals simp

/-- What an operation leaves: the same files, and an error; or other ones, and none. What is asked of calm disks besides. -/
def Does (c : Ctl) (D J : Option Fil) (x : Int × Mod) (D' J' : Option Fil) (ok : Prop) : Prop :=
  (x.1 ≠ 0 ∧ x.1 ≠ 13 ∧ x.2.fs = dir2 D J ∨ x.1 = 0 ∧ x.2.fs = dir2 D' J') ∧ (Calm c → ok → x.1 = 0 ∧ Calm x.2.c ∧ x.2.c.room = c.room)

theorem does_write_j {M : Mod} {D J : Option Fil} (h : M.fs = dir2 D J) {k : Nat} {l : List UInt8} (hl : l.length = 256) :
    Does M.c D J (M.write jn k l) D (some ((J.getD Disk.emptyFil).write k l)) (k ≤ lenO J ∧ ((lenO D + lenO J : Nat) : Int) < M.c.room) := by
  have hfit : (Disk.nameFit jn && decide (0 ≤ (k : Int)) && decide (l.length = 256)) = true := by simp [fit_j, hl]
  unfold Disk.Mod.write
  rw [hfit]
  rcases run_ways M (Disk.writeD M.c.room jn k l) with ⟨c, e, hne, hc⟩ | ⟨c, e, hc⟩
  · rw [e]
    have := ref_vals M.c
    exact ⟨Or.inl ⟨hne, by omega, h⟩, fun hc' => absurd hc' hc⟩
  · rw [e]
    unfold Disk.writeD
    simp only [h, get_j, holds_mk, lens_mk, ins_j, Int.toNat_natCast]
    have hk : ((J.getD Disk.emptyFil).ps.length : Int) = (lenO J : Nat) := by cases J <;> simp [lenO, Disk.emptyFil]
    simp only [hk]
    refine ⟨?_, fun hcalm ⟨h1, h2⟩ => ?_⟩
    · split
      · exact Or.inl ⟨by simp, by simp, rfl⟩
      · split
        · exact Or.inl ⟨by simp, by simp, rfl⟩
        · exact Or.inr ⟨rfl, by simp⟩
    · rw [if_neg (by omega), if_neg (by rintro ⟨_, h3 | h3⟩; · cases h3
                                        · omega)]
      exact ⟨rfl, hc hcalm⟩
theorem does_write_d {M : Mod} {D J : Option Fil} (h : M.fs = dir2 D J) {k : Nat} {l : List UInt8} (hl : l.length = 256) :
    Does M.c D J (M.write dn k l) (some ((D.getD Disk.emptyFil).write k l)) J (k ≤ lenO D ∧ (k < lenO D ∨ ((lenO D + lenO J : Nat) : Int) < M.c.room)) := by
  have hfit : (Disk.nameFit dn && decide (0 ≤ (k : Int)) && decide (l.length = 256)) = true := by simp [fit_d, hl]
  unfold Disk.Mod.write
  rw [hfit]
  rcases run_ways M (Disk.writeD M.c.room dn k l) with ⟨c, e, hne, hc⟩ | ⟨c, e, hc⟩
  · rw [e]
    have := ref_vals M.c
    exact ⟨Or.inl ⟨hne, by omega, h⟩, fun hc' => absurd hc' hc⟩
  · rw [e]
    unfold Disk.writeD
    simp only [h, get_d, holds_mk, lens_mk, ins_d, Int.toNat_natCast]
    have hk : ((D.getD Disk.emptyFil).ps.length : Int) = (lenO D : Nat) := by cases D <;> simp [lenO, Disk.emptyFil]
    simp only [hk]
    refine ⟨?_, fun hcalm ⟨h1, h2⟩ => ?_⟩
    · split
      · exact Or.inl ⟨by simp, by simp, rfl⟩
      · split
        · exact Or.inl ⟨by simp, by simp, rfl⟩
        · exact Or.inr ⟨rfl, by simp⟩
    · rw [if_neg (by omega), if_neg (by rintro ⟨h4, h3 | h3⟩; · cases h3
                                        · omega)]
      exact ⟨rfl, hc hcalm⟩
theorem does_sync_j {M : Mod} {D J : Option Fil} (h : M.fs = dir2 D J) : Does M.c D J (M.sync jn) D (J.map Fil.sync) (J ≠ none) := by
  unfold Disk.Mod.sync
  rw [fit_j]
  rcases run_ways M (Disk.syncD jn) with ⟨c, e, hne, hc⟩ | ⟨c, e, hc⟩
  · rw [e]
    have := ref_vals M.c
    exact ⟨Or.inl ⟨hne, by omega, h⟩, fun hc' => absurd hc' hc⟩
  · rw [e]
    unfold Disk.syncD Disk.onD
    rw [h, get_j]
    cases J with
    | none => exact ⟨Or.inl ⟨by simp, by simp, rfl⟩, fun _ h => absurd rfl h⟩
    | some F => simp only [ins_j]; exact ⟨Or.inr ⟨rfl, rfl⟩, fun hcalm _ => ⟨rfl, hc hcalm⟩⟩
theorem does_sync_d {M : Mod} {D J : Option Fil} (h : M.fs = dir2 D J) : Does M.c D J (M.sync dn) (D.map Fil.sync) J (D ≠ none) := by
  unfold Disk.Mod.sync
  rw [fit_d]
  rcases run_ways M (Disk.syncD dn) with ⟨c, e, hne, hc⟩ | ⟨c, e, hc⟩
  · rw [e]
    have := ref_vals M.c
    exact ⟨Or.inl ⟨hne, by omega, h⟩, fun hc' => absurd hc' hc⟩
  · rw [e]
    unfold Disk.syncD Disk.onD
    rw [h, get_d]
    cases D with
    | none => exact ⟨Or.inl ⟨by simp, by simp, rfl⟩, fun _ h => absurd rfl h⟩
    | some F => simp only [ins_d]; exact ⟨Or.inr ⟨rfl, rfl⟩, fun hcalm _ => ⟨rfl, hc hcalm⟩⟩
theorem does_drop_j {M : Mod} {D J : Option Fil} (h : M.fs = dir2 D J) : Does M.c D J (M.drop jn) D none (J ≠ none) := by
  unfold Disk.Mod.drop
  rw [fit_j]
  rcases run_ways M (Disk.dropD jn) with ⟨c, e, hne, hc⟩ | ⟨c, e, hc⟩
  · rw [e]
    have := ref_vals M.c
    exact ⟨Or.inl ⟨hne, by omega, h⟩, fun hc' => absurd hc' hc⟩
  · rw [e]
    unfold Disk.dropD Disk.onD
    rw [h, get_j]
    cases J with
    | none => exact ⟨Or.inl ⟨by simp, by simp, rfl⟩, fun _ h => absurd rfl h⟩
    | some F => simp only [del_j]; exact ⟨Or.inr ⟨rfl, rfl⟩, fun hcalm _ => ⟨rfl, hc hcalm⟩⟩
theorem does_cut_d {M : Mod} {D J : Option Fil} (h : M.fs = dir2 D J) (k : Nat) : Does M.c D J (M.cut dn k) (D.map fun F => F.cut k) J (∃ F, D = some F ∧ k ≤ F.ps.length) := by
  have hfit : (decide (0 ≤ (k : Int)) && Disk.nameFit dn) = true := by simp [fit_d]
  unfold Disk.Mod.cut
  rw [hfit]
  rcases run_ways M (Disk.cutD dn k) with ⟨c, e, hne, hc⟩ | ⟨c, e, hc⟩
  · rw [e]
    have := ref_vals M.c
    exact ⟨Or.inl ⟨hne, by omega, h⟩, fun hc' => absurd hc' hc⟩
  · rw [e]
    unfold Disk.cutD Disk.onD
    rw [h, get_d]
    cases D with
    | none => exact ⟨Or.inl ⟨by simp, by simp, rfl⟩, by rintro _ ⟨F, h, _⟩; cases h⟩
    | some F =>
      simp only [ins_d]
      split
      · exact ⟨Or.inl ⟨by simp, by simp, rfl⟩, by rintro _ ⟨F', h, hk⟩; cases h; omega⟩
      · exact ⟨Or.inr ⟨rfl, by simp⟩, fun hcalm _ => ⟨rfl, hc hcalm⟩⟩
/-- A read of a sector of the journal. -/
theorem read_ways (M : Mod) (i : Nat) : (M.read jn i).2.2.fs = M.fs ∧ (((M.read jn i).2.1 ≠ 0 ∧ (M.read jn i).2.1 ≠ 13 ∧ ¬ Calm M.c ∧ (M.read jn i).1 = []) ∨ ((M.read jn i).1 = (Disk.readD jn i M.fs).1 ∧ (M.read jn i).2.1 = (Disk.readD jn i M.fs).2 ∧ (Calm M.c → Calm (M.read jn i).2.2.c ∧ (M.read jn i).2.2.c.room = M.c.room))) := by
  unfold Disk.Mod.read
  rw [fit_j]
  split
  · rename_i hr
    have := ref_vals M.c
    exact ⟨rfl, Or.inl ⟨hr, by show M.c.refusal true ≠ 13; omega, fun hc => hr (calm_ref hc), rfl⟩⟩
  · exact ⟨rfl, Or.inr ⟨rfl, rfl, fun hc => calm_beg hc⟩⟩
theorem read_is {D J : Option Fil} {i : Nat} {p : Plc} (hp : (psO J)[i]? = some p) : Disk.readD jn i (dir2 D J) = Disk.readNow p.now := by
  unfold Disk.readD Disk.Fil.read
  rw [get_j]
  cases J with
  | none => simp [psO] at hp
  | some F =>
    simp only
    have hp' : F.ps[i]? = some p := hp
    rw [if_neg (by omega), Int.toNat_natCast, hp']

/-! ### the power -/
def wk (l : List Int) (k : Nat) (F : Option Fil) : Option Fil := match F with | none => none | some F => if F.lives l k then some (F.woken l k) else none
theorem wakes_mk (l : List Int) (k : Nat) (D J : Option Fil) : ∃ k', Disk.wakes l k (dir2 D J) = dir2 (wk l k D) (wk l k' J) := by
  cases D with
  | none =>
    refine ⟨k, ?_⟩
    cases J with
    | none => rfl
    | some F => simp only [dir2, wk, Disk.wakes, List.nil_append]; split <;> simp
  | some G =>
    refine ⟨Disk.counts k G.ps, ?_⟩
    cases J with
    | none => simp only [dir2, wk, Disk.wakes, List.append_nil]; split <;> simp
    | some F => simp only [dir2, wk, Disk.wakes, List.cons_append, List.nil_append]; split <;> split <;> simp
theorem off_on (M : Mod) (l : List Int) {D J : Option Fil} (h : M.fs = dir2 D J) : Calm (M.off.on l).c ∧ (M.off.on l).c.room = M.c.room ∧ ∃ k k', (M.off.on l).fs = dir2 (wk l k D) (wk l k' J) := by
  unfold Disk.Mod.off Disk.Mod.on
  rw [if_pos (show M.c.offed.down = true from rfl)]
  obtain ⟨k', e⟩ := wakes_mk l 0 D J
  refine ⟨⟨rfl, rfl⟩, rfl, 0, k', ?_⟩
  show Disk.wakes l 0 M.fs = _
  rw [h, e]

end Jo
end Go.Proofs.YtpdpjgeoclilhaaGreat

/-
  What stands on the disk while a database is changed under a journal, plainly; and what a loss of power leaves of it.
-/
namespace Go.Proofs.YtpdpjgeoclilhaaGreat
open Go.RowKit
namespace Jo
open Disk (Mod Fil Plc Sec Nam Dir Ctl)

/-- A sector that was synced; one that is new and waits. -/
def settled (s : Sec) : Plc := ⟨s, some s, false⟩
def fresh (s : List UInt8) : Plc := ⟨some s, none, true⟩
/-- A page of the database at the start: its bytes, its sector. -/
def od (n : Nat) : List UInt8 := List.replicate 232 (UInt8.ofNat n)
theorem od_len (n : Nat) : (od n).length = 232 := by unfold od; rw [List.length_replicate]
def orig (n : Nat) : List UInt8 := Seal.sealL 1 n 0 (od n)
theorem orig_len (n : Nat) : (orig n).length = 256 := by unfold orig; rw [Seal.seal_len, od_len]

/-- The file of the database: what it was at the start but for the pages L; str: in its safe states too. -/
structure DatF (str : Prop) (P : Nat) (L : Nat → Prop) (F : Fil) : Prop where
  len : P ≤ F.ps.length
  sure : str → P = 0 ∨ F.sure = true
  at_ : ∀ n, n < P → ∃ p, F.ps[n]? = some p ∧ (str → p.safe.isSome = true) ∧ (¬ L n → p.now = some (orig n) ∧ (str → p.safe = some (some (orig n)) ∧ p.waits = false))
def DatI (str : Prop) (P : Nat) (L : Nat → Prop) : Option Fil → Prop
  | none => P = 0
  | some F => DatF str P L F
theorem DatF.mono {str str' : Prop} {P : Nat} {L L' : Nat → Prop} {F : Fil} (h : DatF str P L F) (hs : str' → str) (hL : ∀ n, n < P → L n → L' n) : DatF str' P L' F :=
  ⟨h.len, fun s => h.sure (hs s), fun n hn => by
    obtain ⟨p, h1, h2, h3⟩ := h.at_ n hn
    exact ⟨p, h1, fun s => h2 (hs s), fun hnL => ⟨(h3 fun x => hnL (hL n hn x)).1, fun s => (h3 fun x => hnL (hL n hn x)).2 (hs s)⟩⟩⟩
theorem DatI.mono {str str' : Prop} {P : Nat} {L L' : Nat → Prop} {D : Option Fil} (h : DatI str P L D) (hs : str' → str) (hL : ∀ n, n < P → L n → L' n) : DatI str' P L' D := by
  cases D with
  | none => exact h
  | some F => exact DatF.mono h hs hL

/-- Of a journal: its records are of pages that were there, as they were. -/
structure Okf (P : Nat) (f : Fnd) : Prop where
  recs : ∀ r ∈ f.recs, r.1 < P ∧ r.2 = od r.1
  none : f.feet = 0 → f.counted = 0
  pages : f.feet ≠ 0 → f.pages = P
theorem okf0 (P : Nat) : Okf P f0 := ⟨by simp [f0], fun _ => rfl, fun h => absurd rfl h⟩
/-- The pages that it counts. -/
def cnt (f : Fnd) (n : Nat) : Prop := ∃ r ∈ f.recs.take f.counted, r.1 = n
structure Good (str : Prop) (P : Nat) (f : Fnd) (D : Option Fil) : Prop where
  ok : Okf P f
  dat : DatI str P (cnt f) D
  exact_ : f.feet = 0 → ∀ F, D = some F → F.ps.length = P
theorem Good.weak {str : Prop} {P : Nat} {f : Fnd} {D : Option Fil} (h : Good True P f D) : Good str P f D := ⟨h.ok, h.dat.mono (fun _ => trivial) (fun _ _ x => x), h.exact_⟩
def nows (F : Option Fil) : List Sec := (psO F).map (·.now)
/-- What Back can go on from. -/
def Sta (str : Prop) (P : Nat) (D J : Option Fil) : Prop := Good str P (scan f0 (nows J)) D ∧ (str → ∃ A : List Sec, psO J = A.map settled)
/-- What a loss of power can meet. -/
def CutI (P : Nat) (D J : Option Fil) : Prop := ∃ (A : List Sec) (B : List (List UInt8)), psO J = A.map settled ++ B.map fresh ∧ ∀ k, k ≤ B.length → Good True P (scan f0 (A ++ (B.take k).map some)) D
theorem Sta.cut {P : Nat} {D J : Option Fil} (h : Sta True P D J) : CutI P D J := by
  obtain ⟨hg, hA⟩ := h
  obtain ⟨A, e⟩ := hA trivial
  refine ⟨A, [], by simp [e], fun k _ => ?_⟩
  have e2 : nows J = A := by unfold nows; rw [e, List.map_map]; exact List.map_id A
  rw [e2] at hg
  simpa using hg
theorem CutI.sta {P : Nat} {D J : Option Fil} (h : CutI P D J) : Sta False P D J := by
  obtain ⟨A, B, e, hg⟩ := h
  refine ⟨?_, fun h => h.elim⟩
  have e2 : nows J = A ++ B.map some := by
    unfold nows
    rw [e, List.map_append, List.map_map, List.map_map]
    congr 1
    exact List.map_id A
  rw [e2]
  have := (hg B.length (Nat.le_refl _)).weak (str := False)
  rwa [List.take_length] at this

/-! ### the power -/
theorem mets_app (l : List Int) : ∀ (A : List Sec) (X : List Plc) (k : Nat), Disk.mets l k (A.map settled ++ X) = A.map settled ++ Disk.mets l k X
  | [], _, _ => rfl
  | a :: A, X, k => by
    simp only [List.map_cons, List.cons_append, Disk.mets]
    have e1 : Disk.met1 l k (settled a) = settled a := rfl
    have e2 : Disk.count1 k (settled a) = k := rfl
    rw [e1, e2, mets_app l A X k]
theorem end_ge : ∀ (m : Nat) (l : List Plc), l.length = m → ∀ i p, l[i]? = some p → p.safe.isSome = true → i < Disk.endOf l
  | 0, l, hm, i, p, h, _ => by have := List.eq_nil_of_length_eq_zero hm; subst this; simp at h
  | m + 1, l, hm, i, p, h, hs => by
    rcases List.eq_nil_or_concat l with rfl | ⟨r, x, rfl⟩
    · simp at h
    · rw [List.concat_eq_append] at h hm ⊢
      have hr : r.length = m := by simpa using hm
      rw [Disk.endOf_snoc]
      by_cases hi : i < r.length
      · rw [List.getElem?_append_left hi] at h
        have := end_ge m r hr i p h hs
        split
        · omega
        · exact this
      · have hi2 : i = r.length := by
          have := (List.getElem?_eq_some_iff.1 h).1
          simp at this
          omega
        subst hi2
        rw [List.getElem?_append_right (Nat.le_refl _), Nat.sub_self] at h
        have : x = p := by simpa using h
        subst this
        rw [if_pos hs]; omega
/-- What the fates leave of new sectors, risen. -/
theorem left_mets (l : List Int) : ∀ (B : List (List UInt8)) (k m : Nat), Left B (((Disk.mets l k (B.map fresh)).take m).map fun p => p.rise.now)
  | [], k, m => by simp [Disk.mets]; exact Left.nil
  | b :: B, k, 0 => Left.nil
  | b :: B, k, m + 1 => by
    simp only [List.map_cons, Disk.mets, List.take_succ_cons]
    have e2 : Disk.count1 k (fresh b) = k + 1 := rfl
    rw [e2]
    have ih := left_mets l B (k + 1) m
    unfold Disk.met1 Disk.Plc.meet
    have e3 : (fresh b).waits = true := rfl
    rw [if_pos e3]
    split
    · exact Left.kept ih
    · split
      · exact Left.torn ih
      · exact Left.lost ih
theorem rise_settled (p : Plc) : p.rise = settled p.rise.now := rfl
theorem woken_left {F : Fil} {A : List Sec} {B : List (List UInt8)} (h : F.ps = A.map settled ++ B.map fresh) (l : List Int) (k : Nat) : ∃ C, Left B C ∧ (F.woken l k).ps = (A ++ C).map settled := by
  have hm : Disk.mets l k F.ps = A.map settled ++ Disk.mets l k (B.map fresh) := by rw [h, mets_app]
  have hge : A.length ≤ Disk.endOf (Disk.mets l k F.ps) := by
    rcases Nat.eq_zero_or_pos A.length with h0 | h0
    · omega
    · have := end_ge _ (Disk.mets l k F.ps) rfl (A.length - 1) (settled A[A.length - 1]) (by
        rw [hm, List.getElem?_append_left (by rw [List.length_map]; omega), List.getElem?_map, List.getElem?_eq_getElem (by omega)]; rfl) rfl
      omega
  refine ⟨_, left_mets l B k (Disk.endOf (Disk.mets l k F.ps) - A.length), ?_⟩
  unfold Disk.Fil.woken
  simp only
  rw [hm] at hge ⊢
  rw [List.take_append, List.length_map, List.take_of_length_le (by rw [List.length_map]; exact hge), List.map_append, List.map_append]
  congr 1
  · rw [List.map_map]; exact List.map_congr_left fun a _ => rfl
  · rw [List.map_map]; exact List.map_congr_left fun p _ => rise_settled p
theorem met_keeps (l : List Int) (q : Nat) (p : Plc) (h : p.waits = false) : Disk.met1 l q p = p := by unfold Disk.met1; rw [h]; rfl
theorem met_some (l : List Int) (q : Nat) (p : Plc) (h : p.safe.isSome = true) : (Disk.met1 l q p).safe.isSome = true := by
  unfold Disk.met1 Disk.Plc.meet
  repeat' split
  all_goals first | rfl | exact h
theorem mets_get (l : List Int) : ∀ (ps : List Plc) (k i : Nat) {p : Plc}, ps[i]? = some p → ∃ q, (Disk.mets l k ps)[i]? = some (Disk.met1 l q p)
  | [], _, _, _, h => by simp at h
  | x :: r, k, 0, p, h => by
    have : x = p := by simpa using h
    subst this
    exact ⟨k, rfl⟩
  | x :: r, k, i + 1, p, h => by
    obtain ⟨q, hq⟩ := mets_get l r (Disk.count1 k x) i (by simpa using h)
    exact ⟨q, hq⟩
theorem woken_get {F : Fil} (l : List Int) (k : Nat) {n : Nat} {p : Plc} (h : F.ps[n]? = some p) (hs : p.safe.isSome = true) : ∃ q, (F.woken l k).ps[n]? = some (Disk.met1 l q p).rise := by
  obtain ⟨q, hq⟩ := mets_get l F.ps k n h
  refine ⟨q, ?_⟩
  have hlt := end_ge _ _ rfl n _ hq (met_some l q p hs)
  unfold Disk.Fil.woken
  simp only
  rw [List.getElem?_map, List.getElem?_take_of_lt hlt, hq]
  rfl
theorem DatF.woken {P : Nat} {L : Nat → Prop} {F : Fil} (h : DatF True P L F) (l : List Int) (k : Nat) : DatF True P L (F.woken l k) := by
  have hat : ∀ n, n < P → ∃ p, (F.woken l k).ps[n]? = some p ∧ p.safe.isSome = true ∧ (¬ L n → p.now = some (orig n) ∧ p.safe = some (some (orig n)) ∧ p.waits = false) := by
    intro n hn
    obtain ⟨p, h1, h2, h3⟩ := h.at_ n hn
    obtain ⟨q, hq⟩ := woken_get l k h1 (h2 trivial)
    refine ⟨_, hq, rfl, fun hL => ?_⟩
    obtain ⟨e1, e2⟩ := h3 hL
    obtain ⟨e3, e4⟩ := e2 trivial
    rw [met_keeps l q p e4]
    unfold Disk.Plc.rise
    rw [e3]
    exact ⟨rfl, rfl, rfl⟩
  refine ⟨?_, fun _ => Or.inr rfl, fun n hn => ?_⟩
  · rcases Nat.eq_zero_or_pos P with h0 | h0
    · omega
    · obtain ⟨p, hp, _⟩ := hat (P - 1) (by omega)
      have := (List.getElem?_eq_some_iff.1 hp).1
      omega
  · obtain ⟨p, h1, h2, h3⟩ := hat n hn
    exact ⟨p, h1, fun _ => h2, fun hL => ⟨(h3 hL).1, fun _ => (h3 hL).2⟩⟩
theorem woken_le (F : Fil) (l : List Int) (k : Nat) : (F.woken l k).ps.length ≤ F.ps.length := by
  unfold Disk.Fil.woken
  simp only [List.length_map, List.length_take, Disk.mets_len]
  omega
theorem DatI.wk {P : Nat} {L : Nat → Prop} {D : Option Fil} (h : DatI True P L D) (l : List Int) (k : Nat) : DatI True P L (wk l k D) := by
  cases D with
  | none => exact h
  | some F =>
    unfold Jo.wk
    simp only
    split
    · exact DatF.woken h l k
    · rename_i hl
      rcases (h : DatF True P L F).sure trivial with h0 | h0
      · exact h0
      · exact absurd (by unfold Disk.Fil.lives; rw [h0]; rfl) hl
theorem Good.wk {P : Nat} {f : Fnd} {D : Option Fil} (h : Good True P f D) (l : List Int) (k : Nat) : Good True P f (wk l k D) := by
  refine ⟨h.ok, h.dat.wk l k, fun h0 F hF => ?_⟩
  cases D with
  | none => cases hF
  | some G =>
    have hd := h.dat.wk l k
    rw [hF] at hd
    unfold Jo.wk at hF
    simp only at hF
    split at hF
    · cases hF
      have h1 := (hd : DatF True P _ _).len
      have h2 := woken_le G l k
      have h3 := h.exact_ h0 G rfl
      omega
    · cases hF
theorem CutI.wake {P : Nat} {D J : Option Fil} (h : CutI P D J) (l : List Int) (k k' : Nat) : Sta True P (wk l k D) (wk l k' J) := by
  obtain ⟨A, B, e, hg⟩ := h
  have hno : ∀ J', psO J' = [] → A = [] → Sta True P (Jo.wk l k D) J' := by
    intro J' h0 hA
    refine ⟨?_, fun _ => ⟨[], by simp [h0]⟩⟩
    have := (hg 0 (Nat.zero_le _)).wk l k
    rw [hA] at this
    simpa [nows, h0] using this
  cases J with
  | none =>
    have hA : A = [] := by
      have := congrArg List.length e
      simp [psO] at this
      exact List.eq_nil_of_length_eq_zero (by omega)
    exact hno none rfl hA
  | some F =>
    have eF : F.ps = A.map settled ++ B.map fresh := e
    obtain ⟨C, hC, hps⟩ := woken_left eF l k'
    have ew : Jo.wk l k' (some F) = if F.lives l k' then some (F.woken l k') else none := rfl
    rw [ew]
    split
    · refine ⟨?_, fun _ => ⟨A ++ C, hps⟩⟩
      have en : nows (some (F.woken l k')) = A ++ C := by
        unfold nows
        show (F.woken l k').ps.map _ = _
        rw [hps, List.map_map]
        exact List.map_id _
      rw [en]
      obtain ⟨q, hq, eq⟩ := scan_behind hC A f0
      rw [eq]
      exact (hg q hq).wk l k
    · rename_i hl
      refine hno none rfl ?_
      cases hA : A with
      | nil => rfl
      | cons a A' =>
        exfalso
        refine hl ?_
        have := end_ge _ (Disk.mets l k' F.ps) rfl 0 (settled a) (by rw [eF, mets_app, hA]; rfl) rfl
        unfold Disk.Fil.lives
        simp
        exact Or.inr (by omega)

end Jo
end Go.Proofs.YtpdpjgeoclilhaaGreat

/-
  Find and Back, plainly: what they answer of a disk, and what the disk is behind them; that Back keeps what it can go on from, and brings the database back.
-/
namespace Go.Proofs.YtpdpjgeoclilhaaGreat
open Go.RowKit
namespace Jo
open Disk (Mod Fil Plc Sec Nam Dir Ctl)

/-- The sectors of the journal from i on, k of them: the error, what was found, the disk. -/
def findN : Nat → Nat → Fnd → Mod → Int × Fnd × Mod
  | 0, _, f, M => (0, f, M)
  | k + 1, i, f, M =>
    if (M.read jn i).2.1 ≠ 0 ∧ (M.read jn i).2.1 ≠ 13 then ((M.read jn i).2.1, f, (M.read jn i).2.2)
    else match takeF f (M.read jn i).1 with
      | none => (0, f, (M.read jn i).2.2)
      | some g => findN k (i + 1) g (M.read jn i).2.2
def findM (M : Mod) : Int × Fnd × Mod := findN (M.size jn).toNat 0 f0 M
def firstD (l : List Rec) (n : Nat) : List UInt8 := ((l.find? fun r => r.1 == n).map (·.2)).getD []
def numsOf (l : List Rec) : List Nat := (List.range 4096).filter fun n => l.any fun r => r.1 == n
def writesM (l : List Rec) : List Nat → Mod → Int × Mod
  | [], M => (0, M)
  | n :: r, M =>
    if (M.write dn n (Seal.sealL 1 n 0 (firstD l n))).1 = 14 then (30, (M.write dn n (Seal.sealL 1 n 0 (firstD l n))).2)
    else if (M.write dn n (Seal.sealL 1 n 0 (firstD l n))).1 ≠ 0 then ((M.write dn n (Seal.sealL 1 n 0 (firstD l n))).1, (M.write dn n (Seal.sealL 1 n 0 (firstD l n))).2)
    else writesM l r (M.write dn n (Seal.sealL 1 n 0 (firstD l n))).2
/-- Behind the writes. -/
def cutsM (P : Nat) (M : Mod) : Int × Mod :=
  if M.size dn < 0 then (0, M)
  else if (P : Int) < M.size dn then (if (M.cut dn P).1 ≠ 0 then ((M.cut dn P).1, (M.cut dn P).2) else (M.cut dn P).2.sync dn)
  else M.sync dn
def restoreM (P : Nat) (l : List Rec) (M : Mod) : Int × Mod :=
  if (writesM l (numsOf l) M).1 ≠ 0 then writesM l (numsOf l) M else cutsM P (writesM l (numsOf l) M).2
def dropM (M : Mod) : Int × Mod := if M.size jn < 0 then (0, M) else M.drop jn
def countF (f : Fnd) : List Rec := f.recs.take f.counted
def backM (M : Mod) : Int × Mod :=
  if (findM M).1 ≠ 0 then ((findM M).1, (findM M).2.2)
  else if (findM M).2.1.feet = 0 then dropM (findM M).2.2
  else if (restoreM (findM M).2.1.pages (countF (findM M).2.1) (findM M).2.2).1 ≠ 0 then restoreM (findM M).2.1.pages (countF (findM M).2.1) (findM M).2.2
  else dropM (restoreM (findM M).2.1.pages (countF (findM M).2.1) (findM M).2.2).2

theorem take_nil (f : Fnd) : takeF f [] = none := by
  unfold takeF
  rw [if_pos]
  unfold okB
  rw [decide_eq_false (by decide)]
  rfl
theorem findN_is {D J : Option Fil} : ∀ (k i : Nat) (f : Fnd) (M : Mod), M.fs = dir2 D J → k + i = (psO J).length →
    (findN k i f M).2.2.fs = dir2 D J ∧ ((findN k i f M).1 = 0 → (findN k i f M).2.1 = scan f ((nows J).drop i)) ∧ (Calm M.c → (findN k i f M).1 = 0 ∧ Calm (findN k i f M).2.2.c ∧ (findN k i f M).2.2.c.room = M.c.room)
  | 0, i, f, M, h, hi => by
    refine ⟨h, fun _ => ?_, fun hc => ⟨rfl, hc, rfl⟩⟩
    show f = _
    rw [List.drop_of_length_le (by unfold nows; rw [List.length_map]; omega)]
    rfl
  | k + 1, i, f, M, h, hi => by
    obtain ⟨hfs, hw⟩ := read_ways M i
    have hlt : i < (psO J).length := by omega
    have hrd := read_is (D := D) (List.getElem?_eq_getElem hlt)
    have hnow : (nows J).drop i = ((psO J)[i]).now :: (nows J).drop (i + 1) := by
      have : i < (nows J).length := by unfold nows; rw [List.length_map]; exact hlt
      rw [List.drop_eq_getElem_cons this]
      congr 1
      simp [nows]
    rw [hnow]
    unfold findN
    rcases hw with ⟨h1, h2, h3, h4⟩ | ⟨h1, h2, h3⟩
    · rw [if_pos ⟨h1, h2⟩]
      exact ⟨hfs.trans h, fun he => absurd he h1, fun hc => absurd hc h3⟩
    · rw [h, hrd] at h1 h2
      cases hn : ((psO J)[i]).now with
      | none =>
        rw [hn] at h1 h2
        have e1 : (M.read jn i).1 = [] := h1
        have e2 : (M.read jn i).2.1 = 13 := h2
        rw [if_neg (by rw [e2]; decide), e1, take_nil]
        exact ⟨hfs.trans h, fun _ => rfl, fun hc => ⟨rfl, h3 hc⟩⟩
      | some s =>
        rw [hn] at h1 h2
        have e1 : (M.read jn i).1 = s := h1
        have e2 : (M.read jn i).2.1 = 0 := h2
        rw [if_neg (by rw [e2]; decide), e1]
        cases ht : takeF f s with
        | none => exact ⟨hfs.trans h, fun _ => by simp [scan, ht], fun hc => ⟨rfl, h3 hc⟩⟩
        | some g =>
          obtain ⟨i1, i2, i3⟩ := findN_is (D := D) (J := J) k (i + 1) g (M.read jn i).2.2 (hfs.trans h) (by omega)
          refine ⟨i1, fun he => ?_, fun hc => ?_⟩
          · rw [i2 he]; simp [scan, ht]
          · obtain ⟨c1, c2⟩ := h3 hc
            obtain ⟨j1, j2, j3⟩ := i3 c1
            exact ⟨j1, j2, j3.trans c2⟩
theorem size_len {M : Mod} {D J : Option Fil} (h : M.fs = dir2 D J) : (M.size jn).toNat = (psO J).length := by
  unfold Disk.Mod.size
  rw [h, get_j]
  cases J <;> simp [psO]
theorem findM_is {M : Mod} {D J : Option Fil} (h : M.fs = dir2 D J) :
    (findM M).2.2.fs = dir2 D J ∧ ((findM M).1 = 0 → (findM M).2.1 = scan f0 (nows J)) ∧ (Calm M.c → (findM M).1 = 0 ∧ Calm (findM M).2.2.c ∧ (findM M).2.2.c.room = M.c.room) := by
  have := findN_is (D := D) (J := J) (M.size jn).toNat 0 f0 M h (by rw [size_len h]; omega)
  simpa [findM] using this

theorem nums_mem {l : List Rec} {n : Nat} : n ∈ numsOf l ↔ n < 4096 ∧ ∃ r ∈ l, r.1 = n := by
  unfold numsOf
  simp [List.mem_filter]
theorem first_is {P : Nat} {l : List Rec} (h : ∀ r ∈ l, r.1 < P ∧ r.2 = od r.1) {n : Nat} (hn : ∃ r ∈ l, r.1 = n) : firstD l n = od n := by
  unfold firstD
  cases hf : l.find? (fun r => r.1 == n) with
  | none =>
    obtain ⟨r, hr, e⟩ := hn
    exact absurd (List.find?_eq_none.1 hf r hr) (by simp [e])
  | some r =>
    have h1 := List.mem_of_find?_eq_some hf
    have h2 := List.find?_some hf
    have : r.1 = n := by simpa using h2
    simp only [Option.map_some, Option.getD_some]
    rw [(h r h1).2, this]

/-- A page of those that count is written as it was. -/
theorem DatF.write {str : Prop} {P : Nat} {L : Nat → Prop} {F : Fil} (h : DatF str P L F) {n : Nat} (hn : n < P) (hL : L n) (s : List UInt8) : DatF str P L (F.write n s) ∧ (F.write n s).ps.length = F.ps.length ∧ (∃ p, (F.write n s).ps[n]? = some p ∧ p.now = some s) ∧ (∀ m, m ≠ n → (F.write n s).ps[m]? = F.ps[m]?) := by
  have hlt : n < F.ps.length := Nat.lt_of_lt_of_le hn h.len
  have e : (F.write n s).ps = F.ps.set n ⟨some s, F.ps[n].safe, true⟩ := by
    unfold Disk.Fil.write
    rw [if_neg (by omega), List.getElem?_eq_getElem hlt]
  have esure : (F.write n s).sure = F.sure := by
    unfold Disk.Fil.write
    rw [if_neg (by omega)]
  have eat : (F.write n s).ps[n]? = some ⟨some s, F.ps[n].safe, true⟩ := by rw [e, List.getElem?_set_self hlt]
  have eo : ∀ m, m ≠ n → (F.write n s).ps[m]? = F.ps[m]? := fun m hm => by rw [e, List.getElem?_set_ne (by omega)]
  refine ⟨⟨by rw [e, List.length_set]; exact h.len, fun hs => by rw [esure]; exact h.sure hs, fun m hm => ?_⟩, by rw [e, List.length_set], ⟨_, eat, rfl⟩, eo⟩
  by_cases hmn : m = n
  · subst hmn
    obtain ⟨p, h1, h2, _⟩ := h.at_ m hm
    have : F.ps[m] = p := by rw [List.getElem?_eq_getElem hlt] at h1; cases h1; rfl
    exact ⟨_, eat, fun hs => by show F.ps[m].safe.isSome = true; rw [this]; exact h2 hs, fun hnL => absurd hL hnL⟩
  · obtain ⟨p, h1, h2, h3⟩ := h.at_ m hm
    exact ⟨p, (eo m hmn).trans h1, h2, h3⟩
theorem DatF.cut {str : Prop} {P : Nat} {L : Nat → Prop} {F : Fil} (h : DatF str P L F) : DatF str P L (F.cut P) ∧ (F.cut P).ps.length = P := by
  have hl : (F.cut P).ps.length = P := by have := h.len; unfold Disk.Fil.cut; simp only [List.length_take]; omega
  refine ⟨⟨by omega, fun _ => Or.inr rfl, fun n hn => ?_⟩, hl⟩
  obtain ⟨p, h1, h2⟩ := h.at_ n hn
  exact ⟨p, by unfold Disk.Fil.cut; simp only; rw [List.getElem?_take_of_lt hn]; exact h1, h2⟩
theorem DatF.sync {str : Prop} {P : Nat} {L : Nat → Prop} {F : Fil} (h : DatF str P L F) : DatF str P L F.sync := by
  refine ⟨by rw [Disk.Fil.sync]; simp only [List.length_map]; exact h.len, fun _ => Or.inr rfl, fun n hn => ?_⟩
  obtain ⟨p, h1, h2, h3⟩ := h.at_ n hn
  refine ⟨⟨p.now, some p.now, false⟩, by unfold Disk.Fil.sync; simp only; rw [List.getElem?_map, h1]; rfl, fun _ => rfl, fun hL => ⟨(h3 hL).1, fun _ => ⟨by rw [(h3 hL).1], rfl⟩⟩⟩
theorem sync_ps_len (F : Fil) : F.sync.ps.length = F.ps.length := by unfold Disk.Fil.sync; simp only [List.length_map]
/-- The pages of which all is as it was. -/
def Was (P : Nat) (D : Option Fil) (R : Nat → Prop) : Prop := ∀ F, D = some F → ∀ n, n < P → R n → ∃ p, F.ps[n]? = some p ∧ p.now = some (orig n)
/-- The database is what it was, sector by sector. -/
def Fin (P : Nat) (D : Option Fil) : Prop := match D with | none => P = 0 | some F => F.ps.length = P ∧ ∀ n, n < P → ∃ p, F.ps[n]? = some p ∧ p.now = some (orig n)

/-- The writes of Back. -/
theorem writes_keep {str : Prop} {P : Nat} {J : Option Fil} {L : Nat → Prop} {l : List Rec} (hl : ∀ r ∈ l, r.1 < P ∧ r.2 = od r.1) : ∀ (ns : List Nat) (M : Mod) (D : Option Fil) (R : Nat → Prop), M.fs = dir2 D J → DatI str P L D → Was P D R → (∀ n ∈ ns, n < P ∧ L n ∧ ∃ r ∈ l, r.1 = n) →
    ∃ D', (writesM l ns M).2.fs = dir2 D' J ∧ DatI str P L D' ∧ lenO D' = lenO D ∧ (D' = none → D = none) ∧ ((writesM l ns M).1 = 0 → Was P D' fun n => R n ∨ n ∈ ns) ∧ (Calm M.c → (writesM l ns M).1 = 0 ∧ Calm (writesM l ns M).2.c ∧ (writesM l ns M).2.c.room = M.c.room)
  | [], M, D, R, h, hd, hw, _ => ⟨D, h, hd, rfl, fun e => e, fun _ F hF n hn hr => hw F hF n hn (by simpa using hr), fun hc => ⟨rfl, hc, rfl⟩⟩
  | n :: r, M, D, R, h, hd, hw, hns => by
    obtain ⟨hnP, hnL, hnr⟩ := hns n (List.mem_cons_self ..)
    have hP0 : P ≠ 0 := by omega
    have ed : Seal.sealL 1 n 0 (firstD l n) = orig n := by rw [first_is hl hnr]; rfl
    have hF : ∃ F, D = some F := by
      cases D with
      | none => exact absurd (hd : P = 0) hP0
      | some F => exact ⟨F, rfl⟩
    obtain ⟨F, rfl⟩ := hF
    have hdF : DatF str P L F := hd
    obtain ⟨w1, w2, w3, w4⟩ := hdF.write hnP hnL (orig n)
    obtain ⟨hdo, hcalm⟩ := does_write_d h (k := n) (orig_len n)
    unfold writesM
    rw [ed]
    rcases hdo with ⟨e1, e2, e3⟩ | ⟨e1, e3⟩
    · have hno : ¬ Calm M.c := fun hc => e1 (hcalm hc ⟨Nat.le_of_lt (Nat.lt_of_lt_of_le hnP hdF.len), Or.inl (Nat.lt_of_lt_of_le hnP hdF.len)⟩).1
      split
      · exact ⟨some F, e3, hd, rfl, (fun e => by cases e), (fun e => by cases e), fun hc => absurd hc hno⟩
      · simp only []
        exact ⟨some F, e3, hd, rfl, (fun e => by cases e), fun e => absurd e e1, fun hc => absurd hc hno⟩
    · rw [if_neg (by rw [e1]; decide), if_neg (by rw [e1]; decide)]
      have hW : Was P (some (F.write n (orig n))) fun m => R m ∨ m = n := by
        intro G hG m hm hr
        cases hG
        by_cases hmn : m = n
        · subst hmn; exact w3
        · obtain ⟨p, hp, hp2⟩ := hw F rfl m hm (hr.resolve_right hmn)
          exact ⟨p, (w4 m hmn).trans hp, hp2⟩
      obtain ⟨D', i1, i2, i3, i4, i5, i6⟩ := writes_keep (str := str) hl r (M.write dn n (orig n)).2 (some (F.write n (orig n))) (fun m => R m ∨ m = n) e3 w1 hW (fun m hm => hns m (List.mem_cons_of_mem _ hm))
      refine ⟨D', i1, i2, i3.trans w2, (fun e => by cases i4 e), fun e => ?_, fun hc => ?_⟩
      · intro G hG m hm hr
        refine i5 e G hG m hm ?_
        rcases hr with hr | hr
        · exact Or.inl (Or.inl hr)
        · rcases List.mem_cons.1 hr with hr | hr
          · exact Or.inl (Or.inr hr)
          · exact Or.inr hr
      · obtain ⟨_, c1, c2⟩ := hcalm hc ⟨Nat.le_of_lt (Nat.lt_of_lt_of_le hnP hdF.len), Or.inl (Nat.lt_of_lt_of_le hnP hdF.len)⟩
        obtain ⟨j1, j2, j3⟩ := i6 c1
        exact ⟨j1, j2, j3.trans c2⟩
theorem cuts_keep {str : Prop} {P : Nat} {J : Option Fil} {L : Nat → Prop} {M : Mod} {D : Option Fil} (h : M.fs = dir2 D J) (hd : DatI str P L D) :
    ∃ D', (cutsM P M).2.fs = dir2 D' J ∧ DatI str P L D' ∧ ((cutsM P M).1 = 0 → (Was P D (fun _ => True) → Fin P D' ∧ DatI str P (fun _ => False) D') ∧ (∀ F, D' = some F → F.ps.length = P)) ∧ (Calm M.c → (cutsM P M).1 = 0 ∧ Calm (cutsM P M).2.c ∧ (cutsM P M).2.c.room = M.c.room) := by
  have esz := size_d h
  unfold cutsM
  rw [esz]
  cases D with
  | none =>
    rw [if_pos (by decide)]
    exact ⟨none, h, hd, fun _ => ⟨fun _ => ⟨hd, hd⟩, fun F e => by cases e⟩, fun hc => ⟨rfl, hc, rfl⟩⟩
  | some F =>
    have hdF : DatF str P L F := hd
    have hlen := hdF.len
    -- what the sync makes of a file of P sectors
    have fin : ∀ (G : Fil) (M1 : Mod), M1.fs = dir2 (some G) J → DatF str P L G → G.ps.length = P → (∀ n, n < P → G.ps[n]? = F.ps[n]?) → ∃ D', (M1.sync dn).2.fs = dir2 D' J ∧ DatI str P L D' ∧ ((M1.sync dn).1 = 0 → (Was P (some F) (fun _ => True) → Fin P D' ∧ DatI str P (fun _ => False) D') ∧ (∀ F, D' = some F → F.ps.length = P)) ∧ (Calm M1.c → (M1.sync dn).1 = 0 ∧ Calm (M1.sync dn).2.c ∧ (M1.sync dn).2.c.room = M1.c.room) := by
      intro G M1 h1 hG hGl hGe
      obtain ⟨hdo, hcalm⟩ := does_sync_d h1
      rcases hdo with ⟨e1, _, e3⟩ | ⟨e1, e3⟩
      · exact ⟨some G, e3, hG, fun e => absurd e e1, fun hc => absurd (hcalm hc (by simp)).1 e1⟩
      · refine ⟨some G.sync, e3, hG.sync, fun _ => ⟨fun hw => ?_, fun F' e => by cases e; rw [sync_ps_len]; exact hGl⟩, fun hc => hcalm hc (by simp)⟩
        have hat : ∀ n, n < P → ∃ p, G.sync.ps[n]? = some p ∧ p.now = some (orig n) ∧ p.safe = some (some (orig n)) ∧ p.waits = false := by
          intro n hn
          obtain ⟨p, hp, hp2⟩ := hw F rfl n hn trivial
          refine ⟨⟨p.now, some p.now, false⟩, ?_, hp2, by show some p.now = _; rw [hp2], rfl⟩
          unfold Disk.Fil.sync
          simp only
          rw [List.getElem?_map, hGe n hn, hp]
          rfl
        refine ⟨⟨by rw [sync_ps_len]; exact hGl, fun n hn => ?_⟩, ⟨by rw [sync_ps_len]; omega, fun _ => Or.inr rfl, fun n hn => ?_⟩⟩
        · obtain ⟨p, a, b, _⟩ := hat n hn; exact ⟨p, a, b⟩
        · obtain ⟨p, a, b, c, d⟩ := hat n hn; exact ⟨p, a, fun _ => by rw [c]; rfl, fun _ => ⟨b, fun _ => ⟨c, d⟩⟩⟩
    have esz2 : szO (some F) = (F.ps.length : Int) := rfl
    rw [esz2, if_neg (by omega)]
    split
    · rename_i hgt
      obtain ⟨hdo, hcalm⟩ := does_cut_d h P
      obtain ⟨c1, c2⟩ := hdF.cut
      rcases hdo with ⟨e1, _, e3⟩ | ⟨e1, e3⟩
      · rw [if_pos e1]
        exact ⟨some F, e3, hd, fun e => absurd e e1, fun hc => absurd (hcalm hc ⟨F, rfl, hlen⟩).1 e1⟩
      · rw [if_neg (by rw [e1]; decide)]
        obtain ⟨D', i1, i2, i3, i4⟩ := fin (F.cut P) (M.cut dn P).2 e3 c1 c2 (fun n hn => by unfold Disk.Fil.cut; simp only; rw [List.getElem?_take_of_lt hn])
        refine ⟨D', i1, i2, i3, fun hc => ?_⟩
        obtain ⟨_, k1, k2⟩ := hcalm hc ⟨F, rfl, hlen⟩
        obtain ⟨j1, j2, j3⟩ := i4 k1
        exact ⟨j1, j2, j3.trans k2⟩
    · rename_i hgt
      exact fin F M h hdF (by omega) (fun _ _ => rfl)

/-- Back keeps what it can go on from; on a calm disk it brings the database back. -/
theorem back_keeps {str : Prop} {P : Nat} (hP : P ≤ 4096) {M : Mod} {D J : Option Fil} (h : M.fs = dir2 D J) (hS : Sta str P D J) :
    ∃ D' J', (backM M).2.fs = dir2 D' J' ∧ Sta str P D' J' ∧ ((backM M).1 = 0 → J' = none ∧ Fin P D') ∧ (Calm M.c → (backM M).1 = 0 ∧ Calm (backM M).2.c ∧ (backM M).2.c.room = M.c.room) := by
  obtain ⟨hg, hA⟩ := hS
  obtain ⟨q1, q2, q3⟩ := findM_is h
  -- the end: the journal is dropped
  have drops : ∀ (M1 : Mod) (D1 : Option Fil), M1.fs = dir2 D1 J → Sta str P D1 J → Fin P D1 → DatI str P (fun _ => False) D1 → ∃ D' J', (dropM M1).2.fs = dir2 D' J' ∧ Sta str P D' J' ∧ ((dropM M1).1 = 0 → J' = none ∧ Fin P D') ∧ (Calm M1.c → (dropM M1).1 = 0 ∧ Calm (dropM M1).2.c ∧ (dropM M1).2.c.room = M1.c.room) := by
    intro M1 D1 h1 hS1 hF1 hX
    have hfin : Sta str P D1 none := by
      refine ⟨⟨okf0 P, hX.mono (fun x => x) (fun _ _ x => x.elim), fun _ F e => ?_⟩, fun _ => ⟨[], rfl⟩⟩
      rw [e] at hF1
      exact hF1.1
    have esz := size_j h1
    unfold dropM
    rw [esz]
    cases J with
    | none =>
      rw [if_pos (by decide)]
      exact ⟨D1, none, h1, hfin, fun _ => ⟨rfl, hF1⟩, fun hc => ⟨rfl, hc, rfl⟩⟩
    | some F =>
      have esz2 : szO (some F) = (F.ps.length : Int) := rfl
      rw [esz2, if_neg (by omega)]
      obtain ⟨hdo, hcalm⟩ := does_drop_j h1
      rcases hdo with ⟨e1, _, e3⟩ | ⟨e1, e3⟩
      · exact ⟨D1, some F, e3, hS1, fun e => absurd e e1, fun hc => absurd (hcalm hc (by simp)).1 e1⟩
      · exact ⟨D1, none, e3, hfin, fun _ => ⟨rfl, hF1⟩, fun hc => hcalm hc (by simp)⟩
  unfold backM
  by_cases he : (findM M).1 = 0
  · rw [if_neg (by rw [he]; decide)]
    have ef := q2 he
    rw [ef]
    obtain ⟨f, hf⟩ : ∃ f, scan f0 (nows J) = f := ⟨_, rfl⟩
    rw [hf] at hg ⊢
    have hS' : Sta str P D J := ⟨by rw [hf]; exact hg, hA⟩
    by_cases h0 : f.feet = 0
    · rw [if_pos h0]
      have hc0 := hg.ok.none h0
      have hno : ∀ n, n < P → cnt f n → False := by
        rintro n _ ⟨r, hr, _⟩
        rw [hc0] at hr
        simp at hr
      have hX : DatI str P (fun _ => False) D := hg.dat.mono (fun x => x) hno
      have hF : Fin P D := by
        cases D with
        | none => exact hX
        | some F =>
          refine ⟨hg.exact_ h0 F rfl, fun n hn => ?_⟩
          obtain ⟨p, a, _, b⟩ := DatF.at_ hX n hn
          exact ⟨p, a, (b (fun x => x)).1⟩
      obtain ⟨D', J', i1, i2, i3, i4⟩ := drops _ D q1 hS' hF hX
      refine ⟨D', J', i1, i2, i3, fun hc => ?_⟩
      obtain ⟨_, k1, k2⟩ := q3 hc
      obtain ⟨j1, j2, j3⟩ := i4 k1
      exact ⟨j1, j2, j3.trans k2⟩
    · rw [if_neg h0]
      have hp := hg.ok.pages h0
      rw [hp]
      have hl : ∀ r ∈ countF f, r.1 < P ∧ r.2 = od r.1 := fun r hr => hg.ok.recs r (List.mem_of_mem_take hr)
      have hns : ∀ n ∈ numsOf (countF f), n < P ∧ cnt f n ∧ ∃ r ∈ countF f, r.1 = n := by
        intro n hn
        obtain ⟨_, r, hr, e⟩ := nums_mem.1 hn
        have := hl r hr
        exact ⟨by omega, ⟨r, hr, e⟩, r, hr, e⟩
      have hW0 : Was P D fun n => ¬ cnt f n := by
        intro F hF n hn hr
        subst hF
        obtain ⟨p, a, _, b⟩ := DatF.at_ hg.dat n hn
        exact ⟨p, a, (b hr).1⟩
      obtain ⟨D1, w1, w2, w3, w4, w5, w6⟩ := writes_keep (str := str) hl (numsOf (countF f)) (findM M).2.2 D (fun n => ¬ cnt f n) q1 hg.dat hW0 hns
      have hS1 : ∀ D2, DatI str P (cnt f) D2 → Sta str P D2 J := fun D2 hd => ⟨by rw [hf]; exact ⟨hg.ok, hd, fun e => absurd e h0⟩, hA⟩
      unfold restoreM
      by_cases hw : (writesM (countF f) (numsOf (countF f)) (findM M).2.2).1 = 0
      · rw [if_neg (c := (writesM (countF f) (numsOf (countF f)) (findM M).2.2).1 ≠ 0) (by rw [hw]; decide)]
        have hWall : Was P D1 fun _ => True := by
          intro F hF n hn _
          refine w5 hw F hF n hn ?_
          by_cases hc : cnt f n
          · obtain ⟨r, hr, e⟩ := hc
            exact Or.inr (nums_mem.2 ⟨by omega, r, hr, e⟩)
          · exact Or.inl hc
        obtain ⟨D2, c1, c2, c3, c4⟩ := cuts_keep w1 w2
        by_cases hcut : (cutsM P (writesM (countF f) (numsOf (countF f)) (findM M).2.2).2).1 = 0
        · rw [if_neg (by rw [hcut]; decide)]
          obtain ⟨g1, g2⟩ := (c3 hcut).1 hWall
          obtain ⟨D', J', i1, i2, i3, i4⟩ := drops _ D2 c1 (hS1 D2 c2) g1 g2
          refine ⟨D', J', i1, i2, i3, fun hc => ?_⟩
          obtain ⟨_, k1, k2⟩ := q3 hc
          obtain ⟨_, k3, k4⟩ := w6 k1
          obtain ⟨_, k5, k6⟩ := c4 k3
          obtain ⟨j1, j2, j3⟩ := i4 k5
          exact ⟨j1, j2, ((j3.trans k6).trans k4).trans k2⟩
        · rw [if_pos hcut]
          refine ⟨D2, J, c1, hS1 D2 c2, fun e => absurd e hcut, fun hc => ?_⟩
          obtain ⟨_, k1, _⟩ := q3 hc
          obtain ⟨_, k3, _⟩ := w6 k1
          exact absurd (c4 k3).1 hcut
      · rw [if_pos (c := (writesM (countF f) (numsOf (countF f)) (findM M).2.2).1 ≠ 0) hw, if_pos hw]
        refine ⟨D1, J, w1, hS1 D1 w2, fun e => absurd e hw, fun hc => ?_⟩
        obtain ⟨_, k1, _⟩ := q3 hc
        exact absurd (w6 k1).1 hw
  · rw [if_pos he]
    exact ⟨D, J, q1, ⟨hg, hA⟩, fun e => absurd e he, fun hc => absurd (q3 hc).1 he⟩

end Jo
end Go.Proofs.YtpdpjgeoclilhaaGreat

/-
  Note and Seal, plainly; a change under a journal: what stands on the disk in its course.
-/
namespace Go.Proofs.YtpdpjgeoclilhaaGreat
open Go.RowKit
namespace Jo
open Disk (Mod Fil Plc Sec Nam Dir Ctl)

/-- A journal under way: what was noted, how many feet there are, how many records behind the last one. -/
structure Jou where
  noted : List Nat
  feet : Nat
  loose : Nat
def j0 : Jou := ⟨[], 0, 0⟩
def layM (s : List UInt8) (M : Mod) : Int × Mod := M.write jn (max (M.size jn) 0) s
def recL (salt n : Nat) (d : List UInt8) : List UInt8 := Seal.sealL 2 n salt d
def feetL (salt P : Nat) (j : Jou) : List UInt8 := Seal.sealL 3 j.loose salt (footL P j.feet)
def noteM (salt : Nat) (j : Jou) (n : Nat) (d : List UInt8) (M : Mod) : Int × Jou × Mod :=
  if n ∈ j.noted then (0, j, M)
  else if (layM (recL salt n d) M).1 ≠ 0 then ((layM (recL salt n d) M).1, j, (layM (recL salt n d) M).2)
  else (0, ⟨j.noted ++ [n], j.feet, j.loose + 1⟩, (layM (recL salt n d) M).2)
/-- The first sync of Seal, if there is one. -/
def firstM (j : Jou) (M : Mod) : Int × Mod := if 0 < j.loose then M.sync jn else (0, M)
def sealM (P salt : Nat) (j : Jou) (M : Mod) : Int × Jou × Mod :=
  if 0 < j.feet ∧ j.loose = 0 then (0, j, M)
  else if (firstM j M).1 ≠ 0 then ((firstM j M).1, j, (firstM j M).2)
  else if (layM (feetL salt P j) (firstM j M).2).1 ≠ 0 then ((layM (feetL salt P j) (firstM j M).2).1, j, (layM (feetL salt P j) (firstM j M).2).2)
  else if ((layM (feetL salt P j) (firstM j M).2).2.sync jn).1 ≠ 0 then (((layM (feetL salt P j) (firstM j M).2).2.sync jn).1, j, ((layM (feetL salt P j) (firstM j M).2).2.sync jn).2)
  else (0, ⟨j.noted, j.feet + 1, 0⟩, ((layM (feetL salt P j) (firstM j M).2).2.sync jn).2)

/-- The journal's file: sectors that were synced (A), new ones that wait (B); what they say (f) is what the journal knows (j). -/
structure Jrn (P salt : Nat) (j : Jou) (f : Fnd) (A B : List (List UInt8)) (J : Option Fil) : Prop where
  file : psO J = (A.map some).map settled ++ B.map fresh
  took : takes f0 (A ++ B) = some f
  noted : f.recs.map (·.1) = j.noted
  feet : f.feet = j.feet
  loose : f.recs.length = f.counted + j.loose
  salt_ : f.begun = true → f.salt = salt
  above : f.above ≤ P
  pages : f.feet ≠ 0 → f.pages = P
  unfed : f.feet = 0 → f.counted = 0
  idle : j.loose = 0 → j.feet ≠ 0 → B = []
theorem Jrn.start (P salt : Nat) : Jrn P salt j0 f0 [] [] none := ⟨rfl, rfl, rfl, rfl, rfl, fun h => (by cases h), Nat.zero_le _, fun h => absurd rfl h, fun _ => rfl, fun _ _ => rfl⟩
theorem grown_ps (J : Option Fil) (s : List UInt8) : psO (some ((J.getD Disk.emptyFil).write (lenO J) s)) = psO J ++ [fresh s] := by
  cases J with
  | none => rfl
  | some F =>
    show (F.write F.ps.length s).ps = F.ps ++ [fresh s]
    unfold Disk.Fil.write
    rw [if_pos rfl]
    rfl
theorem grown_len (J : Option Fil) (s : List UInt8) : lenO (some ((J.getD Disk.emptyFil).write (lenO J) s)) = lenO J + 1 := by
  have := congrArg List.length (grown_ps J s)
  rw [List.length_append] at this
  cases J <;> exact this
theorem lenO_ps (F : Option Fil) : lenO F = (psO F).length := by cases F <;> rfl
theorem sync_ps (J : Option Fil) : psO (J.map Fil.sync) = (psO J).map fun p => settled p.now := by cases J <;> rfl
def Fnd.more (f : Fnd) (salt n : Nat) (d : List UInt8) : Fnd := ⟨true, salt, f.recs ++ [(n, d)], max f.above (n + 1), f.feet, f.pages, f.counted⟩
def Fnd.shut (f : Fnd) (salt P : Nat) : Fnd := ⟨true, salt, f.recs, f.above, f.feet + 1, P, f.recs.length⟩
variable {P salt : Nat} {j : Jou} {f : Fnd} {A B : List (List UInt8)} {J : Option Fil}
theorem Jrn.record (h : Jrn P salt j f A B J) (hP : P ≤ 4096) (hs : salt < 18446744073709551616) {n : Nat} (hn : n < P) {d : List UInt8} (hd : d.length = 232) :
    Jrn P salt ⟨j.noted ++ [n], j.feet, j.loose + 1⟩ (f.more salt n d) A (B ++ [recL salt n d]) (some ((J.getD Disk.emptyFil).write (lenO J) (recL salt n d))) := by
  refine ⟨?_, ?_, ?_, h.feet, ?_, fun _ => rfl, ?_, h.pages, h.unfed, fun e => by simp at e⟩
  · rw [grown_ps, h.file, List.map_append, ← List.append_assoc]; rfl
  · rw [← List.append_assoc, takes_snoc, h.took]
    exact take_rec hd hs h.salt_ (by omega)
  · show (f.recs ++ [(n, d)]).map (·.1) = _
    rw [List.map_append, h.noted]; rfl
  · show (f.recs ++ [(n, d)]).length = f.counted + (j.loose + 1)
    have := h.loose
    simp; omega
  · show max f.above (n + 1) ≤ P
    have := h.above
    omega
theorem Jrn.foot_took (h : Jrn P salt j f A B J) (hP : P ≤ 4096) (hs : salt < 18446744073709551616) (hl : j.loose < 4294967296) : takes f0 ((A ++ B) ++ [feetL salt P j]) = some (f.shut salt P) := by
  have e : f.recs.length - f.counted = j.loose := by have := h.loose; omega
  have hp : f.feet = 0 ∨ f.pages = P := by
    by_cases h0 : f.feet = 0
    · exact Or.inl h0
    · exact Or.inr (h.pages h0)
  have ht : takeF f (feetL salt P j) = some (f.shut salt P) := take_foot hs h.salt_ hP h.above hp hl e h.feet
  rw [takes_snoc, h.took, Option.bind_some, ht]
theorem Jrn.synced (h : Jrn P salt j f A B J) : psO (J.map Fil.sync) = ((A ++ B).map some).map settled := by
  rw [sync_ps, h.file, List.map_append, List.map_append, List.map_append, List.map_map, List.map_map, List.map_map, List.map_map, List.map_map]
  rfl
theorem Jrn.onsync (h : Jrn P salt j f A B J) : Jrn P salt j f (A ++ B) [] (J.map Fil.sync) :=
  ⟨by rw [h.synced]; simp, by rw [List.append_nil]; exact h.took, h.noted, h.feet, h.loose, h.salt_, h.above, h.pages, h.unfed, fun _ _ => rfl⟩
/-- Behind the foot and its sync. -/
theorem Jrn.closed (h : Jrn P salt j f A B J) (hP : P ≤ 4096) (hs : salt < 18446744073709551616) (hl : j.loose < 4294967296) :
    Jrn P salt ⟨j.noted, j.feet + 1, 0⟩ (f.shut salt P) (A ++ B ++ [feetL salt P j]) [] (some ((J.getD Disk.emptyFil).write (lenO J) (feetL salt P j)).sync) := by
  refine ⟨?_, by rw [List.append_nil]; exact h.foot_took hP hs hl, h.noted, ?_, rfl, fun _ => rfl, h.above, fun _ => rfl, (fun e => by cases e), fun _ _ => rfl⟩
  · have := sync_ps (some ((J.getD Disk.emptyFil).write (lenO J) (feetL salt P j)))
    rw [grown_ps, h.file] at this
    refine Eq.trans this ?_
    rw [List.map_append, List.map_append, List.map_append, List.map_append, List.map_append, List.map_append, List.map_map, List.map_map, List.map_map, List.map_map, List.map_map, List.map_nil, List.append_nil]
    rfl
  · show f.feet + 1 = j.feet + 1
    rw [h.feet]

theorem cnt_more (f : Fnd) (hc : f.counted ≤ f.recs.length) (salt n : Nat) (d : List UInt8) (m : Nat) : cnt (f.more salt n d) m ↔ cnt f m := by
  unfold cnt Fnd.more
  simp only
  rw [List.take_append_of_le_length hc]
theorem cnt_shut (f : Fnd) (salt P m : Nat) : cnt (f.shut salt P) m ↔ m ∈ f.recs.map (·.1) := by
  unfold cnt Fnd.shut
  simp only [List.take_length, List.mem_map]
theorem cnt_sub {f : Fnd} {m : Nat} (h : cnt f m) : m ∈ f.recs.map (·.1) := by
  obtain ⟨r, hr, e⟩ := h
  exact List.mem_map.2 ⟨r, List.mem_of_mem_take hr, e⟩
theorem Good.more {D : Option Fil} (h : Good True P f D) (hc : f.counted ≤ f.recs.length) {n : Nat} (hn : n < P) (salt : Nat) : Good True P (f.more salt n (od n)) D := by
  refine ⟨⟨fun r hr => ?_, h.ok.none, h.ok.pages⟩, h.dat.mono (fun x => x) (fun m _ x => (cnt_more f hc salt n (od n) m).2 x), h.exact_⟩
  rcases List.mem_append.1 (show r ∈ f.recs ++ [(n, od n)] from hr) with hr | hr
  · exact h.ok.recs r hr
  · rw [List.mem_singleton] at hr
    subst hr
    exact ⟨hn, rfl⟩
theorem Good.shut {D : Option Fil} (h : Good True P f D) (salt : Nat) : Good True P (f.shut salt P) D :=
  ⟨⟨h.ok.recs, (fun e => by cases e), fun _ => rfl⟩, h.dat.mono (fun x => x) (fun m _ x => (cnt_shut f salt P m).2 (cnt_sub x)), fun e => by cases e⟩

/-- In the course of a change. -/
structure ChS (P salt : Nat) (j : Jou) (D J : Option Fil) : Prop where
  st : ∃ f A B, Jrn P salt j f A B J ∧ ∀ k, k ≤ B.length → Good True P (scan f0 ((A ++ B.take k).map some)) D
theorem ChS.cut {D : Option Fil} (h : ChS P salt j D J) : CutI P D J := by
  obtain ⟨f, A, B, hc, hg⟩ := h.st
  refine ⟨A.map some, B, hc.file, fun k hk => ?_⟩
  have := hg k hk
  rwa [List.map_append] at this
theorem ChS.start {D : Option Fil} (h : Good True P f0 D) (salt : Nat) : ChS P salt j0 D none :=
  ⟨f0, [], [], Jrn.start P salt, fun k _ => by simpa [scan] using h⟩
theorem take_snoc {α : Type} (B : List α) (x : α) {k : Nat} (hk : k ≤ B.length) : (B ++ [x]).take k = B.take k := List.take_append_of_le_length hk
theorem good_last {D : Option Fil} (hc : Jrn P salt j f A B J) (hg : ∀ k, k ≤ B.length → Good True P (scan f0 ((A ++ B.take k).map some)) D) : Good True P f D := by
  have := hg B.length (Nat.le_refl _)
  rwa [List.take_length, scan_all hc.took] at this
theorem snoc_good {D : Option Fil} {s : List UInt8} {g : Fnd} (hg : ∀ k, k ≤ B.length → Good True P (scan f0 ((A ++ B.take k).map some)) D) (ht : takes f0 ((A ++ B) ++ [s]) = some g) (hG : Good True P g D) :
    ∀ k, k ≤ (B ++ [s]).length → Good True P (scan f0 ((A ++ (B ++ [s]).take k).map some)) D := by
  intro k hk
  rcases Nat.lt_or_ge B.length k with h | h
  · have : (B ++ [s]).take k = B ++ [s] := List.take_of_length_le (by simp; omega)
    rw [this, ← List.append_assoc, scan_all ht]
    exact hG
  · rw [take_snoc B s h]
    exact hg k h
theorem sz_toNat (F : Option Fil) : max (szO F) 0 = ((lenO F : Nat) : Int) := sz_len F
/-- Note in the course of a change. -/
theorem ChS.note {D : Option Fil} (h : ChS P salt j D J) (hP : P ≤ 4096) (hs : salt < 18446744073709551616) {M : Mod} (hM : M.fs = dir2 D J) {n : Nat} (hn : n < P) :
    ∃ J', (noteM salt j n (od n) M).2.2.fs = dir2 D J' ∧ CutI P D J' ∧ ((noteM salt j n (od n) M).1 = 0 → ChS P salt (noteM salt j n (od n) M).2.1 D J' ∧ n ∈ (noteM salt j n (od n) M).2.1.noted ∧ lenO J' ≤ lenO J + 1) ∧
      (Calm M.c → ((lenO D + lenO J : Nat) : Int) < M.c.room → (noteM salt j n (od n) M).1 = 0 ∧ Calm (noteM salt j n (od n) M).2.2.c ∧ (noteM salt j n (od n) M).2.2.c.room = M.c.room) := by
  unfold noteM
  by_cases hm : n ∈ j.noted
  · rw [if_pos hm]
    exact ⟨J, hM, h.cut, fun _ => ⟨h, hm, by omega⟩, fun hc _ => ⟨rfl, hc, rfl⟩⟩
  · rw [if_neg hm]
    obtain ⟨f, A, B, hc, hg⟩ := h.st
    have hr := hc.record hP hs hn (od_len n)
    have hlen : (recL salt n (od n)).length = 256 := by unfold recL; rw [Seal.seal_len, od_len]
    obtain ⟨hdo, hcalm⟩ := does_write_j hM (k := lenO J) hlen
    have el : layM (recL salt n (od n)) M = M.write jn (lenO J : Nat) (recL salt n (od n)) := by unfold layM; rw [size_j hM, sz_toNat]
    rw [el]
    rcases hdo with ⟨e1, _, e3⟩ | ⟨e1, e3⟩
    · rw [if_pos e1]
      exact ⟨J, e3, h.cut, fun e => absurd e e1, fun hc' hroom => absurd (hcalm hc' ⟨Nat.le_refl _, hroom⟩).1 e1⟩
    · rw [if_neg (by rw [e1]; decide)]
      have hg' := snoc_good (s := recL salt n (od n)) (g := f.more salt n (od n)) hg (by rw [List.append_assoc]; exact hr.took) ((good_last hc hg).more (by have := hc.loose; omega) hn salt)
      have hS : ChS P salt ⟨j.noted ++ [n], j.feet, j.loose + 1⟩ D (some ((J.getD Disk.emptyFil).write (lenO J) (recL salt n (od n)))) := ⟨f.more salt n (od n), A, B ++ [recL salt n (od n)], hr, hg'⟩
      refine ⟨some ((J.getD Disk.emptyFil).write (lenO J) (recL salt n (od n))), e3, hS.cut, fun _ => ⟨hS, ?_, ?_⟩, fun hc' hroom => ?_⟩
      · exact List.mem_append_right _ (List.mem_singleton.2 rfl)
      · rw [grown_len]; exact Nat.le_refl _
      · have := hcalm hc' ⟨Nat.le_refl _, hroom⟩
        dsimp only
        exact ⟨rfl, this.2⟩
/-- All that was noted counts. -/
def Seald (P salt : Nat) (j : Jou) (D J : Option Fil) : Prop := ∃ f A, Jrn P salt j f A [] J ∧ Good True P f D ∧ f.feet ≠ 0 ∧ f.counted = f.recs.length
theorem Seald.chs {D : Option Fil} (h : Seald P salt j D J) : ChS P salt j D J := by
  obtain ⟨f, A, hc, hg, _, _⟩ := h
  refine ⟨f, A, [], hc, fun k _ => ?_⟩
  have := scan_all hc.took
  rw [List.append_nil] at this
  simpa [this] using hg
/-- Seal in the course of a change. -/
theorem ChS.sealing {D : Option Fil} (h : ChS P salt j D J) (hP : P ≤ 4096) (hs : salt < 18446744073709551616) (hl : j.loose < 4294967296) {M : Mod} (hM : M.fs = dir2 D J) :
    ∃ J', (sealM P salt j M).2.2.fs = dir2 D J' ∧ CutI P D J' ∧ ((sealM P salt j M).1 = 0 → Seald P salt (sealM P salt j M).2.1 D J' ∧ (sealM P salt j M).2.1.noted = j.noted ∧ lenO J' ≤ lenO J + 1) ∧
      (Calm M.c → ((lenO D + lenO J : Nat) : Int) < M.c.room → (sealM P salt j M).1 = 0 ∧ Calm (sealM P salt j M).2.2.c ∧ (sealM P salt j M).2.2.c.room = M.c.room) := by
  obtain ⟨f, A, B, hc, hg⟩ := h.st
  have hgf := good_last hc hg
  unfold sealM
  by_cases h0 : 0 < j.feet ∧ j.loose = 0
  · rw [if_pos h0]
    have hB := hc.idle h0.2 (by omega)
    subst hB
    refine ⟨J, hM, h.cut, fun _ => ⟨⟨f, A, hc, hgf, by have := hc.feet; omega, by have := hc.loose; omega⟩, rfl, by omega⟩, fun hc' _ => ⟨rfl, hc', rfl⟩⟩
  · rw [if_neg h0]
    -- the first sync
    have hfirst : ∃ J1 A1 B1, (firstM j M).2.fs = dir2 D J1 ∧ (Jrn P salt j f A1 B1 J1 ∧ (∀ k, k ≤ B1.length → Good True P (scan f0 ((A1 ++ B1.take k).map some)) D)) ∧ lenO J1 = lenO J ∧ (Calm M.c → (firstM j M).1 = 0 ∧ Calm (firstM j M).2.c ∧ (firstM j M).2.c.room = M.c.room) := by
      unfold firstM
      split
      · rename_i hlo
        obtain ⟨hdo, hcalm⟩ := does_sync_j hM
        have hJ : J ≠ none := by
          intro e
          subst e
          have hlo' : 0 < j.loose := hlo
          have h1 := hc.loose
          have h2 := hc.file
          simp [psO] at h2
          have h3 := hc.took
          rw [h2.1, h2.2] at h3
          have h4 : f = f0 := by simpa [takes] using h3.symm
          rw [h4] at h1
          simp [f0] at h1
          omega
        rcases hdo with ⟨e1, _, e3⟩ | ⟨e1, e3⟩
        · exact ⟨J, A, B, e3, ⟨hc, hg⟩, rfl, fun hc' => absurd (hcalm hc' hJ).1 e1⟩
        · refine ⟨_, A ++ B, [], e3, ⟨hc.onsync, fun k _ => ?_⟩, ?_, fun hc' => hcalm hc' hJ⟩
          · rw [List.take_nil, List.append_nil, scan_all hc.took]
            exact hgf
          · rw [lenO_ps, sync_ps, List.length_map, ← lenO_ps]
      · exact ⟨J, A, B, hM, ⟨hc, hg⟩, rfl, fun hc' => ⟨rfl, hc', rfl⟩⟩
    obtain ⟨J1, A1, B1, hM1, ⟨hc1, hg1⟩, hlen1, hcalm1⟩ := hfirst
    have hS1 : ChS P salt j D J1 := ⟨f, A1, B1, hc1, hg1⟩
    by_cases hf0 : (firstM j M).1 = 0
    · rw [if_neg (c := (firstM j M).1 ≠ 0) (by rw [hf0]; decide)]
      have hlen : (feetL salt P j).length = 256 := by unfold feetL; rw [Seal.seal_len, footL_len]
      obtain ⟨hdo, hcalm⟩ := does_write_j hM1 (k := lenO J1) hlen
      have el : layM (feetL salt P j) (firstM j M).2 = (firstM j M).2.write jn (lenO J1 : Nat) (feetL salt P j) := by unfold layM; rw [size_j hM1, sz_toNat]
      rw [el]
      rcases hdo with ⟨e1, _, e3⟩ | ⟨e1, e3⟩
      · rw [if_pos e1]
        refine ⟨J1, e3, hS1.cut, fun e => absurd e e1, fun hc' hroom => ?_⟩
        obtain ⟨_, k1, k2⟩ := hcalm1 hc'
        exact absurd (hcalm k1 ⟨Nat.le_refl _, by rw [k2, hlen1]; exact hroom⟩).1 e1
      · rw [if_neg (c := ((firstM j M).2.write jn (lenO J1 : Nat) (feetL salt P j)).1 ≠ 0) (by rw [e1]; decide)]
        have ht := hc1.foot_took hP hs hl
        have hG2 := (good_last hc1 hg1).shut salt
        have hcut2 : CutI P D (some ((J1.getD Disk.emptyFil).write (lenO J1) (feetL salt P j))) := by
          refine ⟨A1.map some, B1 ++ [feetL salt P j], by rw [grown_ps, hc1.file, List.map_append, List.append_assoc]; rfl, fun k hk => ?_⟩
          have := snoc_good hg1 ht hG2 k hk
          rwa [List.map_append] at this
        obtain ⟨hdo2, hcalm2⟩ := does_sync_j e3
        rcases hdo2 with ⟨e4, _, e6⟩ | ⟨e4, e6⟩
        · rw [if_pos e4]
          refine ⟨_, e6, hcut2, fun e => absurd e e4, fun hc' hroom => ?_⟩
          obtain ⟨_, k1, k2⟩ := hcalm1 hc'
          obtain ⟨_, k3, k4⟩ := hcalm k1 ⟨Nat.le_refl _, by rw [k2, hlen1]; exact hroom⟩
          exact absurd (hcalm2 k3 (by simp)).1 e4
        · rw [if_neg (by rw [e4]; decide)]
          have hcl := hc1.closed hP hs hl
          have hS : Seald P salt ⟨j.noted, j.feet + 1, 0⟩ D (some ((J1.getD Disk.emptyFil).write (lenO J1) (feetL salt P j)).sync) := ⟨f.shut salt P, A1 ++ B1 ++ [feetL salt P j], hcl, hG2, Nat.succ_ne_zero _, rfl⟩
          dsimp only
          refine ⟨_, e6, hS.chs.cut, fun _ => ⟨hS, rfl, ?_⟩, fun hc' hroom => ?_⟩
          · have := grown_len J1 (feetL salt P j)
            simp only [Option.map_some]
            show (Disk.Fil.sync _).ps.length ≤ _
            rw [sync_ps_len]
            have : ((J1.getD Disk.emptyFil).write (lenO J1) (feetL salt P j)).ps.length = lenO J1 + 1 := this
            omega
          · obtain ⟨_, k1, k2⟩ := hcalm1 hc'
            obtain ⟨_, k3, k4⟩ := hcalm k1 ⟨Nat.le_refl _, by rw [k2, hlen1]; exact hroom⟩
            obtain ⟨_, k5, k6⟩ := hcalm2 k3 (by simp)
            exact ⟨rfl, k5, (k6.trans k4).trans k2⟩
    · rw [if_pos (c := (firstM j M).1 ≠ 0) hf0]
      exact ⟨J1, hM1, hS1.cut, fun e => absurd e hf0, fun hc' _ => absurd (hcalm1 hc').1 hf0⟩

/-- A page behind the pages of the start is written. -/
theorem DatF.beyond {str : Prop} {L : Nat → Prop} {F : Fil} (h : DatF str P L F) {n : Nat} (hn : P ≤ n) (s : List UInt8) : DatF str P L (F.write n s) := by
  have eo : ∀ m, m < P → (F.write n s).ps[m]? = F.ps[m]? := by
    intro m hm
    have := h.len
    unfold Disk.Fil.write
    split
    · simp only; rw [List.getElem?_append_left (by omega)]
    · simp only
      split
      · rw [List.getElem?_set_ne (by omega)]
      · rfl
  have hl : F.ps.length ≤ (F.write n s).ps.length := by
    unfold Disk.Fil.write
    split
    · simp
    · simp only
      split
      · simp
      · exact Nat.le_refl _
  have esure : (F.write n s).sure = F.sure := by unfold Disk.Fil.write; split <;> rfl
  refine ⟨Nat.le_trans h.len hl, fun hs => by rw [esure]; exact h.sure hs, fun m hm => ?_⟩
  obtain ⟨p, h1, h2⟩ := h.at_ m hm
  exact ⟨p, (eo m hm).trans h1, h2⟩
theorem write_len (F : Fil) (n : Nat) (s : List UInt8) : (F.write n s).ps.length ≤ F.ps.length + 1 ∧ F.ps.length ≤ (F.write n s).ps.length := by
  unfold Disk.Fil.write
  split
  · simp
  · simp only
    split
    · simp
    · exact ⟨by omega, Nat.le_refl _⟩
/-- A write to the database, all that was noted being sealed. -/
theorem Seald.write {D : Option Fil} (h : Seald P salt j D J) {M : Mod} (hM : M.fs = dir2 D J) {n : Nat} (hn : n < P → n ∈ j.noted) (hsz : n ≤ lenO D) {s : List UInt8} (hs : s.length = 256) :
    ∃ D', (M.write dn n s).2.fs = dir2 D' J ∧ Seald P salt j D' J ∧ ((M.write dn n s).1 = 0 → D' ≠ none) ∧ lenO D' ≤ lenO D + 1 ∧ (P ≤ lenO D → P ≤ lenO D') ∧
      (Calm M.c → ((lenO D + lenO J : Nat) : Int) < M.c.room → (M.write dn n s).1 = 0 ∧ Calm (M.write dn n s).2.c ∧ (M.write dn n s).2.c.room = M.c.room) := by
  obtain ⟨hdo, hcalm⟩ := does_write_d hM (k := n) hs
  rcases hdo with ⟨e1, _, e3⟩ | ⟨e1, e3⟩
  · exact ⟨D, e3, h, fun e => absurd e e1, by omega, fun e => e, fun hc hr => absurd (hcalm hc ⟨hsz, Or.inr hr⟩).1 e1⟩
  · obtain ⟨f, A, hc, hg, hfe, hcn⟩ := h
    refine ⟨_, e3, ⟨f, A, hc, ⟨hg.ok, ?_, fun e => absurd e hfe⟩, hfe, hcn⟩, fun _ => by simp, ?_, ?_, fun hc' hr => hcalm hc' ⟨hsz, Or.inr hr⟩⟩
    · cases D with
      | none =>
        have h0 : P = 0 := hg.dat
        exact ⟨by omega, fun _ => Or.inl h0, fun m hm => by omega⟩
      | some F =>
        have hF : DatF True P (cnt f) F := hg.dat
        rcases Nat.lt_or_ge n P with hlt | hge
        · have : cnt f n := by
            have := hn hlt
            rw [← hc.noted] at this
            obtain ⟨r, hr, e⟩ := List.mem_map.1 this
            exact ⟨r, by rw [hcn, List.take_length]; exact hr, e⟩
          exact (hF.write hlt this s).1
        · exact hF.beyond hge s
    · cases D with
      | none => exact (write_len Disk.emptyFil n s).1
      | some F => exact (write_len F n s).1
    · cases D with
      | none => intro e; exact Nat.le_trans e (Nat.zero_le _)
      | some F => exact fun e => Nat.le_trans e (write_len F n s).2
theorem Seald.sync {D : Option Fil} (h : Seald P salt j D J) {M : Mod} (hM : M.fs = dir2 D J) :
    ∃ D', (M.sync dn).2.fs = dir2 D' J ∧ Seald P salt j D' J ∧ lenO D' = lenO D ∧ (D ≠ none → D' ≠ none) ∧
      (Calm M.c → D ≠ none → (M.sync dn).1 = 0 ∧ Calm (M.sync dn).2.c ∧ (M.sync dn).2.c.room = M.c.room) := by
  obtain ⟨hdo, hcalm⟩ := does_sync_d hM
  rcases hdo with ⟨e1, _, e3⟩ | ⟨e1, e3⟩
  · exact ⟨D, e3, h, rfl, fun e => e, hcalm⟩
  · obtain ⟨f, A, hc, hg, hfe, hcn⟩ := h
    refine ⟨_, e3, ⟨f, A, hc, ⟨hg.ok, ?_, fun e => absurd e hfe⟩, hfe, hcn⟩, by rw [lenO_ps, sync_ps, List.length_map, ← lenO_ps], fun e => by cases D <;> simp_all, hcalm⟩
    cases D with
    | none => exact hg.dat
    | some F => exact (show DatF True P (cnt f) F from hg.dat).sync

end Jo
end Go.Proofs.YtpdpjgeoclilhaaGreat

/-
  What no operation of a journal does: turn the power off by itself, or turn the room; reads of the database; the disk as the laws lay it.
-/
namespace Go.Proofs.YtpdpjgeoclilhaaGreat
open Go.RowKit
namespace Jo
open Disk (Mod Fil Plc Sec Nam Dir Ctl)

/-- Up, and no loss of power is armed. -/
def Up (c : Ctl) : Prop := c.down = false ∧ c.kind ≠ 2
theorem Calm.up {c : Ctl} (h : Calm c) (hk : c.kind ≠ 2) : Up c := ⟨h.1, hk⟩
/-- From one to the next: up stays up, the room stays. -/
def Kp (M M' : Mod) : Prop := (Up M.c → Up M'.c) ∧ M'.c.room = M.c.room
theorem Kp.refl (M : Mod) : Kp M M := ⟨fun h => h, rfl⟩
theorem Kp.trans {A B C : Mod} (h : Kp A B) (k : Kp B C) : Kp A C := ⟨fun x => k.1 (h.1 x), k.2.trans h.2⟩
theorem counted_up {c : Ctl} (h : c.kind ≠ 2) : c.counted.kind ≠ 2 ∧ c.counted.down = c.down ∧ c.counted.room = c.room := by
  unfold Ctl.counted Ctl.stepped
  simp only
  repeat' split
  all_goals first | exact ⟨h, rfl, rfl⟩ | exact ⟨(by decide : (0 : Int) ≠ 2), rfl, rfl⟩
theorem begun_room (c : Ctl) (fit : Bool) : (c.begun fit).room = c.room := by
  unfold Ctl.begun Ctl.counted Ctl.stepped Ctl.offed
  simp only
  repeat' split
  all_goals rfl
theorem begun_up {c : Ctl} (h : Up c) (fit : Bool) : Up (c.begun fit) := by
  obtain ⟨h1, h2⟩ := h
  have hf : c.fault ≠ 2 := by unfold Ctl.fault; split; · exact h2
                              · decide
  obtain ⟨k1, k2, _⟩ := counted_up h2
  unfold Ctl.begun
  split
  · exact ⟨h1, h2⟩
  · split
    · exact ⟨h1, h2⟩
    · first | rw [if_neg hf] | skip
      exact ⟨k2.trans h1, k1⟩
theorem run_kp (M : Mod) (fit : Bool) (f : Dir → Int × Dir) : Kp M (M.run fit f).2 := by
  unfold Disk.Mod.run
  split
  · exact ⟨fun h => begun_up h fit, begun_room _ _⟩
  · exact ⟨fun h => begun_up h fit, begun_room _ _⟩
theorem read_kp (M : Mod) (n : Nam) (i : Int) : Kp M (M.read n i).2.2 := by
  unfold Disk.Mod.read
  split
  · exact ⟨fun h => begun_up h _, begun_room _ _⟩
  · exact ⟨fun h => begun_up h _, begun_room _ _⟩
theorem write_kp (M : Mod) (n : Nam) (i : Int) (l : List UInt8) : Kp M (M.write n i l).2 := run_kp _ _ _
theorem sync_kp (M : Mod) (n : Nam) : Kp M (M.sync n).2 := run_kp _ _ _
theorem cut_kp (M : Mod) (n : Nam) (i : Int) : Kp M (M.cut n i).2 := run_kp _ _ _
theorem drop_kp (M : Mod) (n : Nam) : Kp M (M.drop n).2 := run_kp _ _ _
theorem lay_kp (s : List UInt8) (M : Mod) : Kp M (layM s M).2 := write_kp _ _ _ _
theorem note_kp (salt : Nat) (j : Jou) (n : Nat) (d : List UInt8) (M : Mod) : Kp M (noteM salt j n d M).2.2 := by
  unfold noteM
  split
  · exact Kp.refl _
  · split
    · exact lay_kp _ _
    · exact lay_kp _ _
theorem first_kp (j : Jou) (M : Mod) : Kp M (firstM j M).2 := by
  unfold firstM
  split
  · exact sync_kp _ _
  · exact Kp.refl _
theorem seal_kp (P salt : Nat) (j : Jou) (M : Mod) : Kp M (sealM P salt j M).2.2 := by
  unfold sealM
  split
  · exact Kp.refl _
  · split
    · exact first_kp _ _
    · split
      · exact (first_kp _ _).trans (lay_kp _ _)
      · split
        · exact ((first_kp _ _).trans (lay_kp _ _)).trans (sync_kp _ _)
        · exact ((first_kp _ _).trans (lay_kp _ _)).trans (sync_kp _ _)
theorem findN_kp : ∀ (k i : Nat) (f : Fnd) (M : Mod), Kp M (findN k i f M).2.2
  | 0, _, _, _ => Kp.refl _
  | k + 1, i, f, M => by
    unfold findN
    split
    · exact read_kp _ _ _
    · cases takeF f (M.read jn i).1 with
      | none => exact read_kp _ _ _
      | some g => exact (read_kp _ _ _).trans (findN_kp k (i + 1) g _)
theorem find_kp (M : Mod) : Kp M (findM M).2.2 := findN_kp _ _ _ _
theorem writes_kp (l : List Rec) : ∀ (ns : List Nat) (M : Mod), Kp M (writesM l ns M).2
  | [], _ => Kp.refl _
  | n :: r, M => by
    unfold writesM
    split
    · exact write_kp _ _ _ _
    · split
      · exact write_kp _ _ _ _
      · exact (write_kp _ _ _ _).trans (writes_kp l r _)
theorem cuts_kp (P : Nat) (M : Mod) : Kp M (cutsM P M).2 := by
  unfold cutsM
  split
  · exact Kp.refl _
  · split
    · split
      · exact cut_kp _ _ _
      · exact (cut_kp _ _ _).trans (sync_kp _ _)
    · exact sync_kp _ _
theorem restore_kp (P : Nat) (l : List Rec) (M : Mod) : Kp M (restoreM P l M).2 := by
  unfold restoreM
  split
  · exact writes_kp _ _ _
  · exact (writes_kp _ _ _).trans (cuts_kp _ _)
theorem dropM_kp (M : Mod) : Kp M (dropM M).2 := by
  unfold dropM
  split
  · exact Kp.refl _
  · exact drop_kp _ _
theorem back_kp (M : Mod) : Kp M (backM M).2 := by
  unfold backM
  split
  · exact find_kp _
  · split
    · exact (find_kp _).trans (dropM_kp _)
    · split
      · exact (find_kp _).trans (restore_kp _ _ _)
      · exact ((find_kp _).trans (restore_kp _ _ _)).trans (dropM_kp _)
/-- Nothing is armed any more. -/
theorem disarmed {M : Mod} (h : M.c.down = false) : Calm (M.arm 0 0 0).c ∧ (M.arm 0 0 0).c.room = M.c.room ∧ (M.arm 0 0 0).fs = M.fs := by
  have e : M.c.armed 0 0 0 = { M.c with kind := 0, at_ := 0, more := 0 } := rfl
  unfold Disk.Mod.arm
  rw [e]
  exact ⟨⟨h, rfl⟩, rfl, rfl⟩
theorem armed_room (M : Mod) (a k m : Int) : (M.arm a k m).c.room = M.c.room ∧ (M.arm a k m).fs = M.fs ∧ (M.arm a k m).c.down = M.c.down := by
  unfold Disk.Mod.arm Disk.Ctl.armed
  simp only
  repeat' split
  all_goals simp
theorem armed_up {M : Mod} (h : M.c.down = false) (a m : Int) : Up (M.arm a 1 m).c := by
  refine ⟨(armed_room M a 1 m).2.2.trans h, ?_⟩
  unfold Disk.Mod.arm Disk.Ctl.armed
  simp only
  repeat' split
  all_goals first | exact (by decide : (0 : Int) ≠ 2) | exact (by decide : (1 : Int) ≠ 2) | (rename_i hx; exact absurd hx (by decide)) | (rename_i hx _; exact absurd rfl hx)

/-- A read of the database, nothing being armed. -/
theorem read_d {M : Mod} {D J : Option Fil} (h : M.fs = dir2 D J) (hc : Calm M.c) {F : Fil} (hD : D = some F) {i : Nat} {p : Plc} {s : List UInt8} (hp : F.ps[i]? = some p) (hs : p.now = some s) :
    (M.read dn i).1 = s ∧ (M.read dn i).2.1 = 0 ∧ (M.read dn i).2.2.fs = M.fs ∧ Calm (M.read dn i).2.2.c ∧ (M.read dn i).2.2.c.room = M.c.room := by
  have hrd : Disk.readD dn i (dir2 D J) = (s, 0) := by
    unfold Disk.readD
    rw [get_d, hD]
    show F.read (i : Int) = _
    unfold Disk.Fil.read
    rw [if_neg (by omega), Int.toNat_natCast, hp]
    show Disk.readNow p.now = _
    rw [hs]
    rfl
  unfold Disk.Mod.read
  rw [fit_d, calm_ref hc, h, hrd]
  simp only [ne_eq, not_true_eq_false, if_false]
  exact ⟨trivial, trivial, trivial, (calm_beg hc)⟩

/-- The first k pages as the laws write them; nothing being armed. -/
def LaidN (k : Nat) (M : Mod) : Prop := Calm M.c ∧ M.c.kind = 0 ∧ M.c.room = 16384 ∧ ∃ D, M.fs = dir2 D none ∧ psO D = (List.range k).map (fun n => fresh (orig n)) ∧ (k = 0 → D = none)
theorem laid_new : LaidN 0 (Mod.new 16384) := ⟨⟨rfl, rfl⟩, rfl, by decide, none, rfl, rfl, fun _ => rfl⟩
theorem begun_kind {c : Ctl} (h : Calm c) (hk : c.kind = 0) (fit : Bool) : (c.begun fit).kind = 0 := by
  have hf : c.fault = 0 := by unfold Ctl.fault; rw [h.2]; rfl
  cases fit
  · exact hk
  · have e : c.begun true = { c with ops := Disk.inc c.ops } := by simp [Ctl.begun, h.1, hf, Ctl.counted, Ctl.stepped, h.2]
    rw [e]
    exact hk
theorem run_kind {M : Mod} (h : Calm M.c) (hk : M.c.kind = 0) (fit : Bool) (f : Dir → Int × Dir) : (M.run fit f).2.c.kind = 0 := by
  unfold Disk.Mod.run
  split
  · exact begun_kind h hk fit
  · exact begun_kind h hk fit
theorem LaidN.write {k : Nat} {M : Mod} (h : LaidN k M) (hk : k < 4096) : (M.write dn k (orig k)).1 = 0 ∧ LaidN (k + 1) (M.write dn k (orig k)).2 := by
  obtain ⟨hc, hkd, hr, D, hfs, hps, hD⟩ := h
  have hlen : lenO D = k := by rw [lenO_ps, hps, List.length_map, List.length_range]
  obtain ⟨hdo, hcalm⟩ := does_write_d hfs (k := k) (orig_len k)
  obtain ⟨e1, c1, r1⟩ := hcalm hc ⟨by omega, Or.inr (by rw [hr, hlen]; have e : lenO (none : Option Fil) = 0 := rfl; rw [e]; omega)⟩
  rcases hdo with ⟨e, _, _⟩ | ⟨_, e3⟩
  · exact absurd e1 e
  · refine ⟨e1, c1, run_kind hc hkd _ _, r1.trans hr, _, e3, ?_, fun e => by omega⟩
    have hg := grown_ps D (orig k)
    rw [hlen] at hg
    rw [hg, hps, List.range_succ, List.map_append]
    rfl
/-- The database as it was laid: safe. -/
def LaidM (P : Nat) (M : Mod) : Prop := Calm M.c ∧ M.c.kind = 0 ∧ M.c.room = 16384 ∧ ∃ D, M.fs = dir2 D none ∧ Good True P f0 D ∧ lenO D = P
theorem good_laid {P : Nat} {D : Option Fil} (hd : DatI True P (fun _ => False) D) (hl : lenO D = P) : Good True P f0 D :=
  ⟨okf0 P, hd.mono (fun x => x) (fun _ _ x => x.elim), fun _ F hF => by subst hF; exact hl⟩
theorem LaidN.none {M : Mod} (h : LaidN 0 M) : LaidM 0 M := by
  obtain ⟨hc, hkd, hr, D, hfs, hps, hD⟩ := h
  have e := hD rfl
  subst e
  exact ⟨hc, hkd, hr, _, hfs, good_laid (show (0 : Nat) = 0 from rfl) rfl, rfl⟩
theorem LaidN.sync {P : Nat} {M : Mod} (h : LaidN P M) (hP : 0 < P) : (M.sync dn).1 = 0 ∧ LaidM P (M.sync dn).2 := by
  obtain ⟨hc, hkd, hr, D, hfs, hps, hD⟩ := h
  have hne : D ≠ .none := fun e => by
    subst e
    have := congrArg List.length hps
    simp [psO] at this
    omega
  obtain ⟨hdo, hcalm⟩ := does_sync_d hfs
  obtain ⟨e1, c1, r1⟩ := hcalm hc hne
  rcases hdo with ⟨e, _, _⟩ | ⟨_, e3⟩
  · exact absurd e1 e
  · cases D with
    | none => exact absurd rfl hne
    | some F =>
      have hps' : F.ps = (List.range P).map (fun n => fresh (orig n)) := hps
      have hl : F.sync.ps.length = P := by rw [sync_ps_len, hps', List.length_map, List.length_range]
      refine ⟨e1, c1, run_kind hc hkd _ _, r1.trans hr, _, e3, good_laid ⟨by omega, fun _ => Or.inr rfl, fun n hn => ?_⟩ hl, hl⟩
      refine ⟨settled (some (orig n)), ?_, fun _ => rfl, fun _ => ⟨rfl, fun _ => ⟨rfl, rfl⟩⟩⟩
      show (F.ps.map fun p => (⟨p.now, some p.now, false⟩ : Plc))[n]? = _
      rw [hps', List.map_map, List.getElem?_map, List.getElem?_range hn]
      rfl
end Jo
end Go.Proofs.YtpdpjgeoclilhaaGreat

/-
  A change under a journal, plainly: what holds behind each call, and behind the last.
-/
namespace Go.Proofs.YtpdpjgeoclilhaaGreat
open Go.RowKit
namespace Jo
open Disk (Mod Fil Plc Sec Nam Dir Ctl)

/-- Behind the last call: its error, the disk. -/
def EndP (P : Nat) (M0 : Mod) (e : Int) (M : Mod) : Prop := ∃ D J, M.fs = dir2 D J ∧ CutI P D J ∧ Kp M0 M ∧ (Calm M0.c → M0.c.room = 16384 → e = 0 ∧ Calm M.c)
/-- In the course of a change, c steps on; sl: all that was noted is sealed. -/
structure ChI (P c : Nat) (M0 M : Mod) (j : Jou) (D J : Option Fil) (sl : Bool) : Prop where
  fs : M.fs = dir2 D J
  chs : ChS P 99 j D J
  seald : sl = true → Seald P 99 j D J
  nl : j.noted.length ≤ c
  ll : j.loose ≤ c
  fl : j.feet ≤ c
  dl : lenO D ≤ P + c
  jl : lenO J ≤ c
  kp : Kp M0 M
  calm : Calm M0.c → M0.c.room = 16384 → Calm M.c
variable {P c : Nat} {M0 M : Mod} {j : Jou} {D J : Option Fil} {sl : Bool}
theorem ChI.fin (h : ChI P c M0 M j D J sl) : EndP P M0 0 M := ⟨D, J, h.fs, h.chs.cut, h.kp, fun x y => ⟨rfl, h.calm x y⟩⟩
theorem ChI.room (h : ChI P c M0 M j D J sl) (hP : P ≤ 100) (hc : c ≤ 1000) (x : Calm M0.c) (y : M0.c.room = 16384) : Calm M.c ∧ ((lenO D + lenO J : Nat) : Int) < M.c.room := by
  refine ⟨h.calm x y, ?_⟩
  rw [h.kp.2, y]
  have := h.dl
  have := h.jl
  omega
theorem chi_start (hfs : M.fs = dir2 D none) (hg : Good True P f0 D) (hl : lenO D = P) : ChI P 0 M M j0 D none false :=
  ⟨hfs, ChS.start hg 99, fun e => (by cases e), Nat.le_refl _, Nat.le_refl _, Nat.le_refl _, by omega, Nat.le_refl _, Kp.refl _, fun x _ => x⟩
theorem ChI.note (h : ChI P c M0 M j D J sl) (hP : P ≤ 100) (hc : c ≤ 1000) {n : Nat} (hn : n < P) :
    ((noteM 99 j n (od n) M).1 = 0 ∧ ∃ J', ChI P (c + 1) M0 (noteM 99 j n (od n) M).2.2 (noteM 99 j n (od n) M).2.1 D J' false ∧ n ∈ (noteM 99 j n (od n) M).2.1.noted) ∨ ((noteM 99 j n (od n) M).1 ≠ 0 ∧ EndP P M0 (noteM 99 j n (od n) M).1 (noteM 99 j n (od n) M).2.2) := by
  obtain ⟨J', h1, h2, h3, h4⟩ := h.chs.note (by omega) (by decide) h.fs hn
  have hb : (noteM 99 j n (od n) M).2.1.noted.length ≤ c + 1 ∧ (noteM 99 j n (od n) M).2.1.loose ≤ c + 1 ∧ (noteM 99 j n (od n) M).2.1.feet ≤ c + 1 := by
    have a := h.nl
    have b := h.ll
    have d := h.fl
    unfold noteM
    repeat' split
    all_goals simp
    all_goals omega
  by_cases he : (noteM 99 j n (od n) M).1 = 0
  · obtain ⟨g1, g2, g3⟩ := h3 he
    have := h.jl
    have := h.dl
    exact Or.inl ⟨he, J', ⟨h1, g1, fun e => (by cases e), hb.1, hb.2.1, hb.2.2, by omega, by omega, h.kp.trans (note_kp _ _ _ _ _), fun x y => (h4 (h.room hP hc x y).1 (h.room hP hc x y).2).2.1⟩, g2⟩
  · exact Or.inr ⟨he, D, J', h1, h2, h.kp.trans (note_kp _ _ _ _ _), fun x y => absurd (h4 (h.room hP hc x y).1 (h.room hP hc x y).2).1 he⟩
theorem ChI.sealing (h : ChI P c M0 M j D J sl) (hP : P ≤ 100) (hc : c ≤ 1000) :
    ((sealM P 99 j M).1 = 0 ∧ ∃ J', ChI P (c + 1) M0 (sealM P 99 j M).2.2 (sealM P 99 j M).2.1 D J' true ∧ (sealM P 99 j M).2.1.noted = j.noted) ∨ ((sealM P 99 j M).1 ≠ 0 ∧ EndP P M0 (sealM P 99 j M).1 (sealM P 99 j M).2.2) := by
  obtain ⟨J', h1, h2, h3, h4⟩ := h.chs.sealing (by omega) (by decide) (by have := h.ll; omega) h.fs
  have hb : (sealM P 99 j M).2.1.noted.length ≤ c + 1 ∧ (sealM P 99 j M).2.1.loose ≤ c + 1 ∧ (sealM P 99 j M).2.1.feet ≤ c + 1 := by
    have a := h.nl
    have b := h.ll
    have d := h.fl
    unfold sealM
    repeat' split
    all_goals simp
    all_goals omega
  by_cases he : (sealM P 99 j M).1 = 0
  · obtain ⟨g1, g2, g3⟩ := h3 he
    have := h.jl
    have := h.dl
    exact Or.inl ⟨he, J', ⟨h1, g1.chs, fun _ => g1, hb.1, hb.2.1, hb.2.2, by omega, by omega, h.kp.trans (seal_kp _ _ _ _), fun x y => (h4 (h.room hP hc x y).1 (h.room hP hc x y).2).2.1⟩, g2⟩
  · exact Or.inr ⟨he, D, J', h1, h2, h.kp.trans (seal_kp _ _ _ _), fun x y => absurd (h4 (h.room hP hc x y).1 (h.room hP hc x y).2).1 he⟩
theorem ChI.write (h : ChI P c M0 M j D J true) (hP : P ≤ 100) (hc : c ≤ 1000) {n : Nat} (hn : n < P → n ∈ j.noted) (hsz : n ≤ lenO D) {s : List UInt8} (hs : s.length = 256) :
    ((M.write dn n s).1 = 0 ∧ ∃ D', ChI P (c + 1) M0 (M.write dn n s).2 j D' J true ∧ D' ≠ none) ∨ ((M.write dn n s).1 ≠ 0 ∧ EndP P M0 (M.write dn n s).1 (M.write dn n s).2) := by
  obtain ⟨D', h1, h2, h3, h4, _, h6⟩ := (h.seald rfl).write h.fs hn hsz hs
  by_cases he : (M.write dn n s).1 = 0
  · have := h.dl
    have := h.jl
    have := h.nl
    have := h.ll
    have := h.fl
    exact Or.inl ⟨he, D', ⟨h1, h2.chs, fun _ => h2, by omega, by omega, by omega, by omega, by omega, h.kp.trans (write_kp _ _ _ _), fun x y => (h6 (h.room hP hc x y).1 (h.room hP hc x y).2).2.1⟩, h3 he⟩
  · exact Or.inr ⟨he, D', J, h1, h2.chs.cut, h.kp.trans (write_kp _ _ _ _), fun x y => absurd (h6 (h.room hP hc x y).1 (h.room hP hc x y).2).1 he⟩
theorem ChI.sync (h : ChI P c M0 M j D J true) (hP : P ≤ 100) (hc : c ≤ 1000) (hD : D ≠ none) :
    ((M.sync dn).1 = 0 ∧ ∃ D', ChI P c M0 (M.sync dn).2 j D' J true) ∨ ((M.sync dn).1 ≠ 0 ∧ EndP P M0 (M.sync dn).1 (M.sync dn).2) := by
  obtain ⟨D', h1, h2, h3, h4, h6⟩ := (h.seald rfl).sync h.fs
  by_cases he : (M.sync dn).1 = 0
  · have := h.dl
    exact Or.inl ⟨he, D', ⟨h1, h2.chs, fun _ => h2, h.nl, h.ll, h.fl, by omega, h.jl, h.kp.trans (sync_kp _ _), fun x y => (h6 (h.room hP hc x y).1 hD).2.1⟩⟩
  · exact Or.inr ⟨he, D', J, h1, h2.chs.cut, h.kp.trans (sync_kp _ _), fun x y => absurd (h6 (h.room hP hc x y).1 hD).1 he⟩
theorem ChI.more (h : ChI P c M0 M j D J sl) {c' : Nat} (hc : c ≤ c') : ChI P c' M0 M j D J sl :=
  ⟨h.fs, h.chs, h.seald, Nat.le_trans h.nl hc, Nat.le_trans h.ll hc, Nat.le_trans h.fl hc, by have := h.dl; omega, Nat.le_trans h.jl hc, h.kp, h.calm⟩
end Jo
end Go.Proofs.YtpdpjgeoclilhaaGreat
