/-
  Put together: JouMath, JouDir, JouCut, LogM, LogPM, LogDir, LogCutM, LogSameM.
-/
import Derived.Test.YtgmbiiocjhkpdaaGreatGrpJDkb
import Derived.Test.YtgmbiiocjhkpdaaGreatGrpJSea
/-
  Journal, plainly: what its sectors say, one behind the other; what counts of them. No program in sight.
-/
namespace Go.Proofs.YtgmbiiocjhkpdaaGreat
open Go.RowKit
namespace Jo
open Num (fixF unfF)
open Seal (numAt sealL)
open Disk (Sec)

/-- Whether bytes are a sealed sector; what it says. -/
def okB (s : List UInt8) : Bool := decide (s.length = 256) && decide (numAt s 248 8 = Mix.sumN 1 (s.take 248))
def kK (s : List UInt8) : Nat := numAt s 232 4
def kN (s : List UInt8) : Nat := numAt s 236 4
def kS (s : List UInt8) : Nat := numAt s 240 8
def kD (s : List UInt8) : List UInt8 := s.take 232
theorem okB_iff {s : List UInt8} : okB s = true ↔ s.length = 256 ∧ Seal.right s := by unfold okB Seal.right; simp
theorem okB_seal (K N S : Nat) {d : List UInt8} (hd : d.length = 232) : okB (sealL K N S d) = true := okB_iff.2 ⟨by rw [Seal.seal_len, hd], Seal.seal_right K N S d hd⟩
theorem kK_seal {K : Nat} (N S : Nat) {d : List UInt8} (hd : d.length = 232) (hK : K < 4294967296) : kK (sealL K N S d) = K := Seal.seal_K K N S d hd hK
theorem kN_seal (K : Nat) {N : Nat} (S : Nat) {d : List UInt8} (hd : d.length = 232) (hN : N < 4294967296) : kN (sealL K N S d) = N := Seal.seal_N K N S d hd hN
theorem kS_seal (K N : Nat) {S : Nat} {d : List UInt8} (hd : d.length = 232) (hS : S < 18446744073709551616) : kS (sealL K N S d) = S := Seal.seal_S K N S d hd hS
theorem kD_seal (K N S : Nat) {d : List UInt8} (hd : d.length = 232) : kD (sealL K N S d) = d := Seal.seal_take K N S d hd
theorem ok_zeros : okB (List.replicate 256 0) = false := by decide +kernel

/-- A page's number and what it was. -/
abbrev Rec := Nat × List UInt8
/-- What was read of a journal so far. -/
structure Fnd where
  begun : Bool
  salt : Nat
  recs : List Rec
  above : Nat
  feet : Nat
  pages : Nat
  counted : Nat
def f0 : Fnd := ⟨false, 0, [], 0, 0, 0, 0⟩
def footL (pages feet : Nat) : List UInt8 := fixF 4 pages ++ fixF 4 feet ++ List.replicate 224 0
theorem footL_len (p k : Nat) : (footL p k).length = 232 := by unfold footL; rw [List.length_append, List.length_append, Num.fixF_length, Num.fixF_length, List.length_replicate]
/-- The pages that a foot is held against. -/
def footP (f : Fnd) (s : List UInt8) : Nat := if f.feet = 0 then numAt s 0 4 else f.pages
def rightFoot (f : Fnd) (s : List UInt8) : Bool :=
  decide (footP f s ≤ 4096) && decide (f.above ≤ footP f s) && decide (kN s = f.recs.length - f.counted) && decide (kD s = footL (footP f s) f.feet)
def takeF (f : Fnd) (s : List UInt8) : Option Fnd :=
  if okB s = false then none
  else if f.begun = true ∧ kS s ≠ f.salt then none
  else if kK s = 2 then (if 4096 ≤ kN s then none else some ⟨true, kS s, f.recs ++ [(kN s, kD s)], max f.above (kN s + 1), f.feet, f.pages, f.counted⟩)
  else if kK s = 3 then (if rightFoot f s = false then none else some ⟨true, kS s, f.recs, f.above, f.feet + 1, footP f s, f.recs.length⟩)
  else none
def scan : Fnd → List Sec → Fnd
  | f, [] => f
  | f, none :: _ => f
  | f, some s :: r => match takeF f s with | none => f | some g => scan g r
def takes : Fnd → List (List UInt8) → Option Fnd
  | f, [] => some f
  | f, s :: r => match takeF f s with | none => none | some g => takes g r

theorem takes_snoc : ∀ (l : List (List UInt8)) (f : Fnd) (s : List UInt8), takes f (l ++ [s]) = (takes f l).bind fun g => takeF g s
  | [], f, s => by simp only [List.nil_append, takes, Option.bind_some]; cases takeF f s <;> rfl
  | x :: r, f, s => by
    simp only [List.cons_append, takes]
    cases takeF f x with
    | none => rfl
    | some g => exact takes_snoc r g s
theorem scan_takes : ∀ (l : List (List UInt8)) (f g : Fnd) (C : List Sec), takes f l = some g → scan f (l.map some ++ C) = scan g C
  | [], f, g, C, h => by simp only [takes, Option.some.injEq] at h; subst h; rfl
  | x :: r, f, g, C, h => by
    simp only [takes] at h
    simp only [List.map_cons, List.cons_append, scan]
    cases hx : takeF f x with
    | none => rw [hx] at h; cases h
    | some k => rw [hx] at h; exact scan_takes r k g C h
theorem scan_all {l : List (List UInt8)} {f g : Fnd} (h : takes f l = some g) : scan f (l.map some) = g := by
  have := scan_takes l f g [] h
  rw [List.append_nil] at this
  rw [this]; rfl
theorem take_zeros (f : Fnd) : takeF f Disk.zeros = none := by unfold takeF Disk.zeros; rw [if_pos ok_zeros]

/-- A record that is written, and a foot. -/
theorem take_rec {f : Fnd} {salt n : Nat} {d : List UInt8} (hd : d.length = 232) (hs : salt < 18446744073709551616) (hf : f.begun = true → f.salt = salt) (hn : n < 4096) :
    takeF f (sealL 2 n salt d) = some ⟨true, salt, f.recs ++ [(n, d)], max f.above (n + 1), f.feet, f.pages, f.counted⟩ := by
  unfold takeF
  rw [okB_seal _ _ _ hd, if_neg (by decide), kS_seal _ _ hd hs, if_neg (by rintro ⟨h1, h2⟩; exact h2 (hf h1).symm), kK_seal _ _ hd (by decide), if_pos rfl, kN_seal _ _ hd (by omega), if_neg (by omega), kD_seal _ _ _ hd]
theorem numAt_head (d r : List UInt8) (h : d.length = 4) : numAt (d ++ r) 0 4 = unfF 0 d := by
  unfold numAt
  rw [List.drop_zero, List.take_left' h]
theorem foot_head (N S p k : Nat) (hp : p < 4294967296) : numAt (sealL 3 N S (footL p k)) 0 4 = p := by
  unfold sealL Seal.bodyL footL
  simp only [List.append_assoc]
  rw [numAt_head _ _ (Num.fixF_length 4 p), Num.unf_fix]
  exact Nat.mod_eq_of_lt hp
theorem take_foot {f : Fnd} {salt P l k : Nat} (hs : salt < 18446744073709551616) (hf : f.begun = true → f.salt = salt) (hP : P ≤ 4096) (ha : f.above ≤ P) (hp : f.feet = 0 ∨ f.pages = P) (hl : l < 4294967296) (el : f.recs.length - f.counted = l) (ek : f.feet = k) :
    takeF f (sealL 3 l salt (footL P k)) = some ⟨true, salt, f.recs, f.above, f.feet + 1, P, f.recs.length⟩ := by
  have hd := footL_len P k
  have e : footP f (sealL 3 l salt (footL P k)) = P := by
    unfold footP
    rcases hp with h | h
    · rw [if_pos h, foot_head _ _ _ _ (by omega)]
    · split
      · rw [foot_head _ _ _ _ (by omega)]
      · exact h
  have hr : rightFoot f (sealL 3 l salt (footL P k)) = true := by
    unfold rightFoot
    rw [e, kN_seal _ _ hd hl, kD_seal _ _ _ hd, ek, el, decide_eq_true hP, decide_eq_true ha, decide_eq_true (rfl : l = l), decide_eq_true (rfl : footL P k = footL P k)]
    rfl
  unfold takeF
  rw [okB_seal _ _ _ hd, if_neg (by decide), kS_seal _ _ hd hs, if_neg (by rintro ⟨h1, h2⟩; exact h2 (hf h1).symm), kK_seal _ _ hd (by decide), if_neg (by decide), if_pos rfl, hr, if_neg (by decide), e]

/-- What may be left of sectors that waited and were new: each kept, torn, or none with bytes 0; and cut off anywhere. -/
inductive Left : List (List UInt8) → List Sec → Prop
  | nil {B} : Left B []
  | kept {b B C} : Left B C → Left (b :: B) (some b :: C)
  | torn {b B C} : Left B C → Left (b :: B) (none :: C)
  | lost {b B C} : Left B C → Left (b :: B) (some Disk.zeros :: C)
theorem scan_left {B : List (List UInt8)} {C : List Sec} (h : Left B C) : ∀ f, ∃ k, k ≤ B.length ∧ scan f C = scan f ((B.take k).map some) := by
  induction h with
  | nil => exact fun f => ⟨0, by omega, by simp [scan]⟩
  | @kept b B C _ ih =>
    intro f
    cases hb : takeF f b with
    | none => exact ⟨1, by simp, by simp [scan, hb]⟩
    | some g =>
      obtain ⟨k, hk, e⟩ := ih g
      exact ⟨k + 1, by simp; omega, by simp [scan, hb, e]⟩
  | torn _ _ => exact fun f => ⟨0, by omega, by simp [scan]⟩
  | lost _ _ => exact fun f => ⟨0, by omega, by simp [scan, take_zeros]⟩
theorem scan_behind {B : List (List UInt8)} {C : List Sec} (h : Left B C) : ∀ (A : List Sec) (f : Fnd), ∃ k, k ≤ B.length ∧ scan f (A ++ C) = scan f (A ++ (B.take k).map some)
  | [], f => scan_left h f
  | none :: A, f => ⟨0, by omega, by simp [scan]⟩
  | some s :: A, f => by
    simp only [List.cons_append, scan]
    cases hs : takeF f s with
    | none => exact ⟨0, by omega, rfl⟩
    | some g => exact scan_behind h A g

end Jo
end Go.Proofs.YtgmbiiocjhkpdaaGreat

/-
  A disk with the files "data" and "journal" alone, plainly: what each operation does to the two.
-/
namespace Go.Proofs.YtgmbiiocjhkpdaaGreat
open Go.RowKit
namespace Jo
open Disk (Mod Fil Plc Sec Nam Dir Ctl)

def jn : Nam := [106, 111, 117, 114, 110, 97, 108]
def dn : Nam := [100, 97, 116, 97]
def dir2 (D J : Option Fil) : Dir := (match D with | none => [] | some F => [(dn, F)]) ++ (match J with | none => [] | some F => [(jn, F)])
theorem get_d (D J : Option Fil) : Disk.get? (dir2 D J) dn = D := by
  cases D <;> cases J <;> simp [dir2, Disk.get?, dn, jn]
theorem get_j (D J : Option Fil) : Disk.get? (dir2 D J) jn = J := by
  cases D <;> cases J <;> simp [dir2, Disk.get?, dn, jn]
theorem before_dj : bytesBefore dn jn = true := by decide +kernel
theorem before_jd : bytesBefore jn dn = false := by decide +kernel
theorem ins_d (D J : Option Fil) (F : Fil) : Disk.ins (dir2 D J) dn F = dir2 (some F) J := by
  have h := before_dj
  have e1 : (jn == dn) = false := by decide
  have e2 : (dn == dn) = true := by decide
  cases D <;> cases J <;> simp [dir2, Disk.ins, Disk.del, Disk.insB, e1, h]
theorem ins_j (D J : Option Fil) (F : Fil) : Disk.ins (dir2 D J) jn F = dir2 D (some F) := by
  have h := before_jd
  have e1 : (dn == jn) = false := by decide
  have e2 : (jn == jn) = true := by decide
  cases D <;> cases J <;> simp [dir2, Disk.ins, Disk.del, Disk.insB, e1, h]
theorem del_j (D J : Option Fil) : Disk.del (dir2 D J) jn = dir2 D none := by
  have e1 : (dn == jn) = false := by decide
  cases D <;> cases J <;> simp [dir2, Disk.del, e1]
/-- How many sectors a file has. -/
def lenO (F : Option Fil) : Nat := match F with | none => 0 | some F => F.ps.length
def psO (F : Option Fil) : List Plc := match F with | none => [] | some F => F.ps
theorem lens_mk (D J : Option Fil) : Disk.lensD (dir2 D J) = lenO D + lenO J := by
  cases D <;> cases J <;> simp [dir2, Disk.lensD, lenO]
theorem holds_mk (D J : Option Fil) (n : Nam) : Disk.holdsB (dir2 D J) n = true := by
  unfold Disk.holdsB
  have : (dir2 D J).length < 8 := by cases D <;> cases J <;> simp [dir2]
  simp [this]
theorem fit_j : Disk.nameFit jn = true := by decide
theorem fit_d : Disk.nameFit dn = true := by decide
/-- A file's size, as a disk says it. -/
def szO (F : Option Fil) : Int := match F with | none => -1 | some F => (F.ps.length : Int)
theorem size_j {M : Mod} {D J : Option Fil} (h : M.fs = dir2 D J) : M.size jn = szO J := by
  unfold Disk.Mod.size
  rw [h, get_j]
  cases J <;> rfl
theorem size_d {M : Mod} {D J : Option Fil} (h : M.fs = dir2 D J) : M.size dn = szO D := by
  unfold Disk.Mod.size
  rw [h, get_d]
  cases D <;> rfl
theorem sz_len (F : Option Fil) : max (szO F) 0 = ((lenO F : Nat) : Int) := by
  cases F with
  | none => rfl
  | some F => simp [szO, lenO]

/-- Up, nothing armed. -/
def Calm (c : Ctl) : Prop := c.down = false ∧ c.at_ = 0
theorem calm_ref {c : Ctl} (h : Calm c) : c.refusal true = 0 := by
  have hf : c.fault = 0 := by unfold Ctl.fault; rw [h.2]; rfl
  simp [Ctl.refusal, h.1, hf]
theorem calm_beg {c : Ctl} (h : Calm c) : Calm (c.begun true) ∧ (c.begun true).room = c.room := by
  have hf : c.fault = 0 := by unfold Ctl.fault; rw [h.2]; rfl
  have e : c.begun true = { c with ops := Disk.inc c.ops } := by simp [Ctl.begun, h.1, hf, Ctl.counted, Ctl.stepped, h.2]
  rw [e]
  exact ⟨h, rfl⟩
/-- What an operation may do: it is refused, or it is done. -/
theorem run_ways (M : Mod) (f : Dir → Int × Dir) : (∃ c, M.run true f = ⟨M.c.refusal true, c, M.fs⟩ ∧ M.c.refusal true ≠ 0 ∧ ¬ Calm M.c) ∨ ∃ c, M.run true f = ⟨(f M.fs).1, c, (f M.fs).2⟩ ∧ (Calm M.c → Calm c ∧ c.room = M.c.room) := by
  unfold Disk.Mod.run
  split
  · rename_i h
    exact Or.inl ⟨_, rfl, h, fun hc => h (calm_ref hc)⟩
  · exact Or.inr ⟨_, rfl, fun hc => calm_beg hc⟩
theorem ref_vals (c : Ctl) : c.refusal true = 0 ∨ c.refusal true = 10 ∨ c.refusal true = 11 := by
  unfold Ctl.refusal
  simp only [Bool.not_true, Bool.false_eq_true, if_false]
  repeat' split
  all_goals simp

/-- What an operation leaves: the same files, and an error; or other ones, and none. What is asked of calm disks besides. -/
def Does (c : Ctl) (D J : Option Fil) (x : Int × Mod) (D' J' : Option Fil) (ok : Prop) : Prop :=
  (x.1 ≠ 0 ∧ x.1 ≠ 13 ∧ x.2.fs = dir2 D J ∨ x.1 = 0 ∧ x.2.fs = dir2 D' J') ∧ (Calm c → ok → x.1 = 0 ∧ Calm x.2.c ∧ x.2.c.room = c.room)

theorem does_write_j {M : Mod} {D J : Option Fil} (h : M.fs = dir2 D J) {k : Nat} {l : List UInt8} (hl : l.length = 256) :
    Does M.c D J (M.write jn k l) D (some ((J.getD Disk.emptyFil).write k l)) (k ≤ lenO J ∧ ((lenO D + lenO J : Nat) : Int) < M.c.room) := by
  have hfit : (Disk.nameFit jn && decide (0 ≤ (k : Int)) && decide (l.length = 256)) = true := by simp [fit_j, hl]
  unfold Disk.Mod.write
  rw [hfit]
  rcases run_ways M (Disk.writeD M.c.room jn k l) with ⟨c, e, hne, hc⟩ | ⟨c, e, hc⟩
  · rw [e]
    have := ref_vals M.c
    exact ⟨Or.inl ⟨hne, by omega, h⟩, fun hc' => absurd hc' hc⟩
  · rw [e]
    unfold Disk.writeD
    simp only [h, get_j, holds_mk, lens_mk, ins_j, Int.toNat_natCast]
    have hk : ((J.getD Disk.emptyFil).ps.length : Int) = (lenO J : Nat) := by cases J <;> simp [lenO, Disk.emptyFil]
    simp only [hk]
    refine ⟨?_, fun hcalm ⟨h1, h2⟩ => ?_⟩
    · split
      · exact Or.inl ⟨by simp, by simp, rfl⟩
      · split
        · exact Or.inl ⟨by simp, by simp, rfl⟩
        · exact Or.inr ⟨rfl, by simp⟩
    · rw [if_neg (by omega), if_neg (by rintro ⟨_, h3 | h3⟩; · cases h3
                                        · omega)]
      exact ⟨rfl, hc hcalm⟩
theorem does_write_d {M : Mod} {D J : Option Fil} (h : M.fs = dir2 D J) {k : Nat} {l : List UInt8} (hl : l.length = 256) :
    Does M.c D J (M.write dn k l) (some ((D.getD Disk.emptyFil).write k l)) J (k ≤ lenO D ∧ (k < lenO D ∨ ((lenO D + lenO J : Nat) : Int) < M.c.room)) := by
  have hfit : (Disk.nameFit dn && decide (0 ≤ (k : Int)) && decide (l.length = 256)) = true := by simp [fit_d, hl]
  unfold Disk.Mod.write
  rw [hfit]
  rcases run_ways M (Disk.writeD M.c.room dn k l) with ⟨c, e, hne, hc⟩ | ⟨c, e, hc⟩
  · rw [e]
    have := ref_vals M.c
    exact ⟨Or.inl ⟨hne, by omega, h⟩, fun hc' => absurd hc' hc⟩
  · rw [e]
    unfold Disk.writeD
    simp only [h, get_d, holds_mk, lens_mk, ins_d, Int.toNat_natCast]
    have hk : ((D.getD Disk.emptyFil).ps.length : Int) = (lenO D : Nat) := by cases D <;> simp [lenO, Disk.emptyFil]
    simp only [hk]
    refine ⟨?_, fun hcalm ⟨h1, h2⟩ => ?_⟩
    · split
      · exact Or.inl ⟨by simp, by simp, rfl⟩
      · split
        · exact Or.inl ⟨by simp, by simp, rfl⟩
        · exact Or.inr ⟨rfl, by simp⟩
    · rw [if_neg (by omega), if_neg (by rintro ⟨h4, h3 | h3⟩; · cases h3
                                        · omega)]
      exact ⟨rfl, hc hcalm⟩
theorem does_sync_j {M : Mod} {D J : Option Fil} (h : M.fs = dir2 D J) : Does M.c D J (M.sync jn) D (J.map Fil.sync) (J ≠ none) := by
  unfold Disk.Mod.sync
  rw [fit_j]
  rcases run_ways M (Disk.syncD jn) with ⟨c, e, hne, hc⟩ | ⟨c, e, hc⟩
  · rw [e]
    have := ref_vals M.c
    exact ⟨Or.inl ⟨hne, by omega, h⟩, fun hc' => absurd hc' hc⟩
  · rw [e]
    unfold Disk.syncD Disk.onD
    rw [h, get_j]
    cases J with
    | none => exact ⟨Or.inl ⟨by simp, by simp, rfl⟩, fun _ h => absurd rfl h⟩
    | some F => simp only [ins_j]; exact ⟨Or.inr ⟨rfl, rfl⟩, fun hcalm _ => ⟨rfl, hc hcalm⟩⟩
theorem does_sync_d {M : Mod} {D J : Option Fil} (h : M.fs = dir2 D J) : Does M.c D J (M.sync dn) (D.map Fil.sync) J (D ≠ none) := by
  unfold Disk.Mod.sync
  rw [fit_d]
  rcases run_ways M (Disk.syncD dn) with ⟨c, e, hne, hc⟩ | ⟨c, e, hc⟩
  · rw [e]
    have := ref_vals M.c
    exact ⟨Or.inl ⟨hne, by omega, h⟩, fun hc' => absurd hc' hc⟩
  · rw [e]
    unfold Disk.syncD Disk.onD
    rw [h, get_d]
    cases D with
    | none => exact ⟨Or.inl ⟨by simp, by simp, rfl⟩, fun _ h => absurd rfl h⟩
    | some F => simp only [ins_d]; exact ⟨Or.inr ⟨rfl, rfl⟩, fun hcalm _ => ⟨rfl, hc hcalm⟩⟩
theorem does_drop_j {M : Mod} {D J : Option Fil} (h : M.fs = dir2 D J) : Does M.c D J (M.drop jn) D none (J ≠ none) := by
  unfold Disk.Mod.drop
  rw [fit_j]
  rcases run_ways M (Disk.dropD jn) with ⟨c, e, hne, hc⟩ | ⟨c, e, hc⟩
  · rw [e]
    have := ref_vals M.c
    exact ⟨Or.inl ⟨hne, by omega, h⟩, fun hc' => absurd hc' hc⟩
  · rw [e]
    unfold Disk.dropD Disk.onD
    rw [h, get_j]
    cases J with
    | none => exact ⟨Or.inl ⟨by simp, by simp, rfl⟩, fun _ h => absurd rfl h⟩
    | some F => simp only [del_j]; exact ⟨Or.inr ⟨rfl, rfl⟩, fun hcalm _ => ⟨rfl, hc hcalm⟩⟩
theorem does_cut_d {M : Mod} {D J : Option Fil} (h : M.fs = dir2 D J) (k : Nat) : Does M.c D J (M.cut dn k) (D.map fun F => F.cut k) J (∃ F, D = some F ∧ k ≤ F.ps.length) := by
  have hfit : (decide (0 ≤ (k : Int)) && Disk.nameFit dn) = true := by simp [fit_d]
  unfold Disk.Mod.cut
  rw [hfit]
  rcases run_ways M (Disk.cutD dn k) with ⟨c, e, hne, hc⟩ | ⟨c, e, hc⟩
  · rw [e]
    have := ref_vals M.c
    exact ⟨Or.inl ⟨hne, by omega, h⟩, fun hc' => absurd hc' hc⟩
  · rw [e]
    unfold Disk.cutD Disk.onD
    rw [h, get_d]
    cases D with
    | none => exact ⟨Or.inl ⟨by simp, by simp, rfl⟩, by rintro _ ⟨F, h, _⟩; cases h⟩
    | some F =>
      simp only [ins_d]
      split
      · exact ⟨Or.inl ⟨by simp, by simp, rfl⟩, by rintro _ ⟨F', h, hk⟩; cases h; omega⟩
      · exact ⟨Or.inr ⟨rfl, by simp⟩, fun hcalm _ => ⟨rfl, hc hcalm⟩⟩
/-- A read of a sector of the journal. -/
theorem read_ways (M : Mod) (i : Nat) : (M.read jn i).2.2.fs = M.fs ∧ (((M.read jn i).2.1 ≠ 0 ∧ (M.read jn i).2.1 ≠ 13 ∧ ¬ Calm M.c ∧ (M.read jn i).1 = []) ∨ ((M.read jn i).1 = (Disk.readD jn i M.fs).1 ∧ (M.read jn i).2.1 = (Disk.readD jn i M.fs).2 ∧ (Calm M.c → Calm (M.read jn i).2.2.c ∧ (M.read jn i).2.2.c.room = M.c.room))) := by
  unfold Disk.Mod.read
  rw [fit_j]
  split
  · rename_i hr
    have := ref_vals M.c
    exact ⟨rfl, Or.inl ⟨hr, by show M.c.refusal true ≠ 13; omega, fun hc => hr (calm_ref hc), rfl⟩⟩
  · exact ⟨rfl, Or.inr ⟨rfl, rfl, fun hc => calm_beg hc⟩⟩
theorem read_is {D J : Option Fil} {i : Nat} {p : Plc} (hp : (psO J)[i]? = some p) : Disk.readD jn i (dir2 D J) = Disk.readNow p.now := by
  unfold Disk.readD Disk.Fil.read
  rw [get_j]
  cases J with
  | none => simp [psO] at hp
  | some F =>
    simp only
    have hp' : F.ps[i]? = some p := hp
    rw [if_neg (by omega), Int.toNat_natCast, hp']

/-! ### the power -/
def wk (l : List Int) (k : Nat) (F : Option Fil) : Option Fil := match F with | none => none | some F => if F.lives l k then some (F.woken l k) else none
theorem wakes_mk (l : List Int) (k : Nat) (D J : Option Fil) : ∃ k', Disk.wakes l k (dir2 D J) = dir2 (wk l k D) (wk l k' J) := by
  cases D with
  | none =>
    refine ⟨k, ?_⟩
    cases J with
    | none => rfl
    | some F => simp only [dir2, wk, Disk.wakes, List.nil_append]; split <;> simp
  | some G =>
    refine ⟨Disk.counts k G.ps, ?_⟩
    cases J with
    | none => simp only [dir2, wk, Disk.wakes, List.append_nil]; split <;> simp
    | some F => simp only [dir2, wk, Disk.wakes, List.cons_append, List.nil_append]; split <;> split <;> simp
theorem off_on (M : Mod) (l : List Int) {D J : Option Fil} (h : M.fs = dir2 D J) : Calm (M.off.on l).c ∧ (M.off.on l).c.room = M.c.room ∧ ∃ k k', (M.off.on l).fs = dir2 (wk l k D) (wk l k' J) := by
  unfold Disk.Mod.off Disk.Mod.on
  rw [if_pos (show M.c.offed.down = true from rfl)]
  obtain ⟨k', e⟩ := wakes_mk l 0 D J
  refine ⟨⟨rfl, rfl⟩, rfl, 0, k', ?_⟩
  show Disk.wakes l 0 M.fs = _
  rw [h, e]

end Jo
end Go.Proofs.YtgmbiiocjhkpdaaGreat

/-
  What stands on the disk while a database is changed under a journal, plainly; and what a loss of power leaves of it.
-/
namespace Go.Proofs.YtgmbiiocjhkpdaaGreat
open Go.RowKit
namespace Jo
open Disk (Mod Fil Plc Sec Nam Dir Ctl)

/-- A sector that was synced; one that is new and waits. -/
def settled (s : Sec) : Plc := ⟨s, some s, false⟩
def fresh (s : List UInt8) : Plc := ⟨some s, none, true⟩
/-- A page of the database at the start: its bytes, its sector. -/
def od (n : Nat) : List UInt8 := List.replicate 232 (UInt8.ofNat n)
theorem od_len (n : Nat) : (od n).length = 232 := by unfold od; rw [List.length_replicate]
def orig (n : Nat) : List UInt8 := Seal.sealL 1 n 0 (od n)
theorem orig_len (n : Nat) : (orig n).length = 256 := by unfold orig; rw [Seal.seal_len, od_len]

/-- The file of the database: what it was at the start but for the pages L; str: in its safe states too. -/
structure DatF (str : Prop) (P : Nat) (L : Nat → Prop) (F : Fil) : Prop where
  len : P ≤ F.ps.length
  sure : str → P = 0 ∨ F.sure = true
  at_ : ∀ n, n < P → ∃ p, F.ps[n]? = some p ∧ (str → p.safe.isSome = true) ∧ (¬ L n → p.now = some (orig n) ∧ (str → p.safe = some (some (orig n)) ∧ p.waits = false))
def DatI (str : Prop) (P : Nat) (L : Nat → Prop) : Option Fil → Prop
  | none => P = 0
  | some F => DatF str P L F
theorem DatF.mono {str str' : Prop} {P : Nat} {L L' : Nat → Prop} {F : Fil} (h : DatF str P L F) (hs : str' → str) (hL : ∀ n, n < P → L n → L' n) : DatF str' P L' F :=
  ⟨h.len, fun s => h.sure (hs s), fun n hn => by
    obtain ⟨p, h1, h2, h3⟩ := h.at_ n hn
    exact ⟨p, h1, fun s => h2 (hs s), fun hnL => ⟨(h3 fun x => hnL (hL n hn x)).1, fun s => (h3 fun x => hnL (hL n hn x)).2 (hs s)⟩⟩⟩
theorem DatI.mono {str str' : Prop} {P : Nat} {L L' : Nat → Prop} {D : Option Fil} (h : DatI str P L D) (hs : str' → str) (hL : ∀ n, n < P → L n → L' n) : DatI str' P L' D := by
  cases D with
  | none => exact h
  | some F => exact DatF.mono h hs hL

/-- Of a journal: its records are of pages that were there, as they were. -/
structure Okf (P : Nat) (f : Fnd) : Prop where
  recs : ∀ r ∈ f.recs, r.1 < P ∧ r.2 = od r.1
  none : f.feet = 0 → f.counted = 0
  pages : f.feet ≠ 0 → f.pages = P
theorem okf0 (P : Nat) : Okf P f0 := ⟨by simp [f0], fun _ => rfl, fun h => absurd rfl h⟩
/-- The pages that it counts. -/
def cnt (f : Fnd) (n : Nat) : Prop := ∃ r ∈ f.recs.take f.counted, r.1 = n
structure Good (str : Prop) (P : Nat) (f : Fnd) (D : Option Fil) : Prop where
  ok : Okf P f
  dat : DatI str P (cnt f) D
  exact_ : f.feet = 0 → ∀ F, D = some F → F.ps.length = P
theorem Good.weak {str : Prop} {P : Nat} {f : Fnd} {D : Option Fil} (h : Good True P f D) : Good str P f D := ⟨h.ok, h.dat.mono (fun _ => trivial) (fun _ _ x => x), h.exact_⟩
def nows (F : Option Fil) : List Sec := (psO F).map (·.now)
/-- What Back can go on from. -/
def Sta (str : Prop) (P : Nat) (D J : Option Fil) : Prop := Good str P (scan f0 (nows J)) D ∧ (str → ∃ A : List Sec, psO J = A.map settled)
/-- What a loss of power can meet. -/
def CutI (P : Nat) (D J : Option Fil) : Prop := ∃ (A : List Sec) (B : List (List UInt8)), psO J = A.map settled ++ B.map fresh ∧ ∀ k, k ≤ B.length → Good True P (scan f0 (A ++ (B.take k).map some)) D
theorem Sta.cut {P : Nat} {D J : Option Fil} (h : Sta True P D J) : CutI P D J := by
  obtain ⟨hg, hA⟩ := h
  obtain ⟨A, e⟩ := hA trivial
  refine ⟨A, [], by simp [e], fun k _ => ?_⟩
  have e2 : nows J = A := by unfold nows; rw [e, List.map_map]; exact List.map_id A
  rw [e2] at hg
  simpa using hg
theorem CutI.sta {P : Nat} {D J : Option Fil} (h : CutI P D J) : Sta False P D J := by
  obtain ⟨A, B, e, hg⟩ := h
  refine ⟨?_, fun h => h.elim⟩
  have e2 : nows J = A ++ B.map some := by
    unfold nows
    rw [e, List.map_append, List.map_map, List.map_map]
    congr 1
    exact List.map_id A
  rw [e2]
  have := (hg B.length (Nat.le_refl _)).weak (str := False)
  rwa [List.take_length] at this

/-! ### the power -/
theorem mets_app (l : List Int) : ∀ (A : List Sec) (X : List Plc) (k : Nat), Disk.mets l k (A.map settled ++ X) = A.map settled ++ Disk.mets l k X
  | [], _, _ => rfl
  | a :: A, X, k => by
    simp only [List.map_cons, List.cons_append, Disk.mets]
    have e1 : Disk.met1 l k (settled a) = settled a := rfl
    have e2 : Disk.count1 k (settled a) = k := rfl
    rw [e1, e2, mets_app l A X k]
theorem end_ge : ∀ (m : Nat) (l : List Plc), l.length = m → ∀ i p, l[i]? = some p → p.safe.isSome = true → i < Disk.endOf l
  | 0, l, hm, i, p, h, _ => by have := List.eq_nil_of_length_eq_zero hm; subst this; simp at h
  | m + 1, l, hm, i, p, h, hs => by
    rcases List.eq_nil_or_concat l with rfl | ⟨r, x, rfl⟩
    · simp at h
    · rw [List.concat_eq_append] at h hm ⊢
      have hr : r.length = m := by simpa using hm
      rw [Disk.endOf_snoc]
      by_cases hi : i < r.length
      · rw [List.getElem?_append_left hi] at h
        have := end_ge m r hr i p h hs
        split
        · omega
        · exact this
      · have hi2 : i = r.length := by
          have := (List.getElem?_eq_some_iff.1 h).1
          simp at this
          omega
        subst hi2
        rw [List.getElem?_append_right (Nat.le_refl _), Nat.sub_self] at h
        have : x = p := by simpa using h
        subst this
        rw [if_pos hs]; omega
/-- What the fates leave of new sectors, risen. -/
theorem left_mets (l : List Int) : ∀ (B : List (List UInt8)) (k m : Nat), Left B (((Disk.mets l k (B.map fresh)).take m).map fun p => p.rise.now)
  | [], k, m => by simp [Disk.mets]; exact Left.nil
  | b :: B, k, 0 => Left.nil
  | b :: B, k, m + 1 => by
    simp only [List.map_cons, Disk.mets, List.take_succ_cons]
    have e2 : Disk.count1 k (fresh b) = k + 1 := rfl
    rw [e2]
    have ih := left_mets l B (k + 1) m
    unfold Disk.met1 Disk.Plc.meet
    have e3 : (fresh b).waits = true := rfl
    rw [if_pos e3]
    split
    · exact Left.kept ih
    · split
      · exact Left.torn ih
      · exact Left.lost ih
theorem rise_settled (p : Plc) : p.rise = settled p.rise.now := rfl
theorem woken_left {F : Fil} {A : List Sec} {B : List (List UInt8)} (h : F.ps = A.map settled ++ B.map fresh) (l : List Int) (k : Nat) : ∃ C, Left B C ∧ (F.woken l k).ps = (A ++ C).map settled := by
  have hm : Disk.mets l k F.ps = A.map settled ++ Disk.mets l k (B.map fresh) := by rw [h, mets_app]
  have hge : A.length ≤ Disk.endOf (Disk.mets l k F.ps) := by
    rcases Nat.eq_zero_or_pos A.length with h0 | h0
    · omega
    · have := end_ge _ (Disk.mets l k F.ps) rfl (A.length - 1) (settled A[A.length - 1]) (by
        rw [hm, List.getElem?_append_left (by rw [List.length_map]; omega), List.getElem?_map, List.getElem?_eq_getElem (by omega)]; rfl) rfl
      omega
  refine ⟨_, left_mets l B k (Disk.endOf (Disk.mets l k F.ps) - A.length), ?_⟩
  unfold Disk.Fil.woken
  simp only
  rw [hm] at hge ⊢
  rw [List.take_append, List.length_map, List.take_of_length_le (by rw [List.length_map]; exact hge), List.map_append, List.map_append]
  congr 1
  · rw [List.map_map]; exact List.map_congr_left fun a _ => rfl
  · rw [List.map_map]; exact List.map_congr_left fun p _ => rise_settled p
theorem met_keeps (l : List Int) (q : Nat) (p : Plc) (h : p.waits = false) : Disk.met1 l q p = p := by unfold Disk.met1; rw [h]; rfl
theorem met_some (l : List Int) (q : Nat) (p : Plc) (h : p.safe.isSome = true) : (Disk.met1 l q p).safe.isSome = true := by
  unfold Disk.met1 Disk.Plc.meet
  repeat' split
  all_goals first | rfl | exact h
theorem mets_get (l : List Int) : ∀ (ps : List Plc) (k i : Nat) {p : Plc}, ps[i]? = some p → ∃ q, (Disk.mets l k ps)[i]? = some (Disk.met1 l q p)
  | [], _, _, _, h => by simp at h
  | x :: r, k, 0, p, h => by
    have : x = p := by simpa using h
    subst this
    exact ⟨k, rfl⟩
  | x :: r, k, i + 1, p, h => by
    obtain ⟨q, hq⟩ := mets_get l r (Disk.count1 k x) i (by simpa using h)
    exact ⟨q, hq⟩
theorem woken_get {F : Fil} (l : List Int) (k : Nat) {n : Nat} {p : Plc} (h : F.ps[n]? = some p) (hs : p.safe.isSome = true) : ∃ q, (F.woken l k).ps[n]? = some (Disk.met1 l q p).rise := by
  obtain ⟨q, hq⟩ := mets_get l F.ps k n h
  refine ⟨q, ?_⟩
  have hlt := end_ge _ _ rfl n _ hq (met_some l q p hs)
  unfold Disk.Fil.woken
  simp only
  rw [List.getElem?_map, List.getElem?_take_of_lt hlt, hq]
  rfl
theorem DatF.woken {P : Nat} {L : Nat → Prop} {F : Fil} (h : DatF True P L F) (l : List Int) (k : Nat) : DatF True P L (F.woken l k) := by
  have hat : ∀ n, n < P → ∃ p, (F.woken l k).ps[n]? = some p ∧ p.safe.isSome = true ∧ (¬ L n → p.now = some (orig n) ∧ p.safe = some (some (orig n)) ∧ p.waits = false) := by
    intro n hn
    obtain ⟨p, h1, h2, h3⟩ := h.at_ n hn
    obtain ⟨q, hq⟩ := woken_get l k h1 (h2 trivial)
    refine ⟨_, hq, rfl, fun hL => ?_⟩
    obtain ⟨e1, e2⟩ := h3 hL
    obtain ⟨e3, e4⟩ := e2 trivial
    rw [met_keeps l q p e4]
    unfold Disk.Plc.rise
    rw [e3]
    exact ⟨rfl, rfl, rfl⟩
  refine ⟨?_, fun _ => Or.inr rfl, fun n hn => ?_⟩
  · rcases Nat.eq_zero_or_pos P with h0 | h0
    · omega
    · obtain ⟨p, hp, _⟩ := hat (P - 1) (by omega)
      have := (List.getElem?_eq_some_iff.1 hp).1
      omega
  · obtain ⟨p, h1, h2, h3⟩ := hat n hn
    exact ⟨p, h1, fun _ => h2, fun hL => ⟨(h3 hL).1, fun _ => (h3 hL).2⟩⟩
theorem woken_le (F : Fil) (l : List Int) (k : Nat) : (F.woken l k).ps.length ≤ F.ps.length := by
  unfold Disk.Fil.woken
  simp only [List.length_map, List.length_take, Disk.mets_len]
  omega
theorem DatI.wk {P : Nat} {L : Nat → Prop} {D : Option Fil} (h : DatI True P L D) (l : List Int) (k : Nat) : DatI True P L (wk l k D) := by
  cases D with
  | none => exact h
  | some F =>
    unfold Jo.wk
    simp only
    split
    · exact DatF.woken h l k
    · rename_i hl
      rcases (h : DatF True P L F).sure trivial with h0 | h0
      · exact h0
      · exact absurd (by unfold Disk.Fil.lives; rw [h0]; rfl) hl
theorem Good.wk {P : Nat} {f : Fnd} {D : Option Fil} (h : Good True P f D) (l : List Int) (k : Nat) : Good True P f (wk l k D) := by
  refine ⟨h.ok, h.dat.wk l k, fun h0 F hF => ?_⟩
  cases D with
  | none => cases hF
  | some G =>
    have hd := h.dat.wk l k
    rw [hF] at hd
    unfold Jo.wk at hF
    simp only at hF
    split at hF
    · cases hF
      have h1 := (hd : DatF True P _ _).len
      have h2 := woken_le G l k
      have h3 := h.exact_ h0 G rfl
      omega
    · cases hF
theorem CutI.wake {P : Nat} {D J : Option Fil} (h : CutI P D J) (l : List Int) (k k' : Nat) : Sta True P (wk l k D) (wk l k' J) := by
  obtain ⟨A, B, e, hg⟩ := h
  have hno : ∀ J', psO J' = [] → A = [] → Sta True P (Jo.wk l k D) J' := by
    intro J' h0 hA
    refine ⟨?_, fun _ => ⟨[], by simp [h0]⟩⟩
    have := (hg 0 (Nat.zero_le _)).wk l k
    rw [hA] at this
    simpa [nows, h0] using this
  cases J with
  | none =>
    have hA : A = [] := by
      have := congrArg List.length e
      simp [psO] at this
      exact List.eq_nil_of_length_eq_zero (by omega)
    exact hno none rfl hA
  | some F =>
    have eF : F.ps = A.map settled ++ B.map fresh := e
    obtain ⟨C, hC, hps⟩ := woken_left eF l k'
    have ew : Jo.wk l k' (some F) = if F.lives l k' then some (F.woken l k') else none := rfl
    rw [ew]
    split
    · refine ⟨?_, fun _ => ⟨A ++ C, hps⟩⟩
      have en : nows (some (F.woken l k')) = A ++ C := by
        unfold nows
        show (F.woken l k').ps.map _ = _
        rw [hps, List.map_map]
        exact List.map_id _
      rw [en]
      obtain ⟨q, hq, eq⟩ := scan_behind hC A f0
      rw [eq]
      exact (hg q hq).wk l k
    · rename_i hl
      refine hno none rfl ?_
      cases hA : A with
      | nil => rfl
      | cons a A' =>
        exfalso
        refine hl ?_
        have := end_ge _ (Disk.mets l k' F.ps) rfl 0 (settled a) (by rw [eF, mets_app, hA]; rfl) rfl
        unfold Disk.Fil.lives
        simp
        exact Or.inr (by omega)

end Jo
end Go.Proofs.YtgmbiiocjhkpdaaGreat

/-
  Log, plainly: what Open finds of a file's sectors, what each call answers and leaves. No program in sight.
-/
namespace Go.Proofs.YtgmbiiocjhkpdaaGreat
open Go.RowKit
namespace Lo
open Disk (Mod Fil Plc Sec Nam Dir Ctl)
open Jo (okB kK kN kS kD)
def ln : Nam := [108, 111, 103]
def lS : ByteArray := ⟨#[108, 111, 103]⟩
theorem lS_list : lS.data.toList = ln := rfl
def topL : List UInt8 := Seal.sealL 4 1 0 (List.replicate 232 0)
/-- The sum that a sector bears. -/
def sumL (s : List UInt8) : Nat := Seal.numAt s 248 8
/-- What Open has found: whether the top is right, numbers and sums, how many frames are committed. -/
structure LgS where
  right : Bool
  ns : List Nat
  ss : List Nat
  sure : Nat
def g0 : LgS := ⟨false, [], [], 0⟩
def takeL (i : Nat) (f : LgS) (s : List UInt8) : Option LgS :=
  if i = 0 then (if s = topL then some ⟨true, [], [sumL s], 0⟩ else none)
  else if okB s = false then none
  else if (kK s ≠ 5 ∧ kK s ≠ 6) ∨ 4096 ≤ kN s ∨ kS s ≠ f.ss.getD (i - 1) 0 then none
  else some ⟨f.right, f.ns ++ [kN s], f.ss ++ [sumL s], if kK s = 6 then f.ns.length + 1 else f.sure⟩
/-- The sectors from i on, k of them: the error, what was found, the disk. -/
def openN : Nat → Nat → LgS → Mod → Int × LgS × Mod
  | 0, _, f, M => (0, f, M)
  | k + 1, i, f, M =>
    if (M.read ln i).2.1 ≠ 0 ∧ (M.read ln i).2.1 ≠ 13 then ((M.read ln i).2.1, f, (M.read ln i).2.2)
    else if (M.read ln i).2.1 = 13 then (0, f, (M.read ln i).2.2)
    else match takeL i f (M.read ln i).1 with
      | none => (0, f, (M.read ln i).2.2)
      | some g => openN k (i + 1) g (M.read ln i).2.2
/-- A log: the numbers of its frames, the sums of its sectors. -/
structure Lg where
  ns : List Nat
  ss : List Nat
def lg0 : Lg := ⟨[], []⟩
def cutLg (f : LgS) : Lg := ⟨f.ns.take f.sure, f.ss.take (f.sure + 1)⟩
/-- Behind the reading, no error: the file of sz sectors is dropped, cut, or left. -/
def openE (sz : Int) (f : LgS) (M : Mod) : Int × Option Lg × Mod :=
  if f.right = false then ((M.drop ln).1, some lg0, (M.drop ln).2)
  else if (f.sure : Int) + 1 < sz then ((M.cut ln (f.sure + 1 : Nat)).1, some (cutLg f), (M.cut ln (f.sure + 1 : Nat)).2)
  else (0, some (cutLg f), M)
def openM (M : Mod) : Int × Option Lg × Mod :=
  if M.size ln < 0 then (0, some lg0, M)
  else if (openN (M.size ln).toNat 0 g0 M).1 ≠ 0 then ((openN (M.size ln).toNat 0 g0 M).1, none, (openN (M.size ln).toNat 0 g0 M).2.2)
  else openE (M.size ln) (openN (M.size ln).toNat 0 g0 M).2.1 (openN (M.size ln).toNat 0 g0 M).2.2
/-- A frame's bytes. -/
def frameL (l : Lg) (n : Nat) (d : List UInt8) (c : Bool) : List UInt8 := Seal.sealL (if c then 6 else 5) n (l.ss.getLastD 0) d
/-- Where there is no file: the top first. -/
def topM (l : Lg) (M : Mod) : Int × Lg × Mod :=
  if M.size ln < 0 then ((M.write ln 0 topL).1, (if (M.write ln 0 topL).1 = 0 then ⟨l.ns, [sumL topL]⟩ else l), (M.write ln 0 topL).2)
  else (0, l, M)
def frameM (l : Lg) (n : Nat) (d : List UInt8) (c : Bool) (M : Mod) : Int × Lg × Mod :=
  ((M.write ln (1 + l.ns.length : Nat) (frameL l n d c)).1, (if (M.write ln (1 + l.ns.length : Nat) (frameL l n d c)).1 = 0 then ⟨l.ns ++ [n], l.ss ++ [sumL (frameL l n d c)]⟩ else l), (M.write ln (1 + l.ns.length : Nat) (frameL l n d c)).2)
def addM (l : Lg) (n : Int) (d : List UInt8) (c : Bool) (M : Mod) : Int × Lg × Mod :=
  if n < 0 ∨ 4096 ≤ n ∨ d.length ≠ 232 then (1, l, M)
  else if (topM l M).1 ≠ 0 then topM l M
  else frameM (topM l M).2.1 n.toNat d c (topM l M).2.2
def syncM (M : Mod) : Int × Mod := if M.size ln < 0 then (0, M) else M.sync ln
/-- The last frame of a number, from k frames on downwards. -/
def lastI (ns : List Nat) (n : Int) : Nat → Option Nat
  | 0 => none
  | k + 1 => if (ns.getD k 0 : Int) = n then some k else lastI ns n k
def getM (l : Lg) (n : Int) (M : Mod) : List UInt8 × Bool × Int × Mod :=
  match lastI l.ns n l.ns.length with
  | none => ([], false, 0, M)
  | some i => if (M.read ln (i + 1 : Nat)).2.1 ≠ 0 then ([], false, (M.read ln (i + 1 : Nat)).2.1, (M.read ln (i + 1 : Nat)).2.2) else ((M.read ln (i + 1 : Nat)).1.take 232, true, 0, (M.read ln (i + 1 : Nat)).2.2)
def pagesM (ns : List Nat) : List Nat := (List.range 4096).filter fun n => ns.any fun x => x == n
def backM (l : Lg) (k : Int) (M : Mod) : Int × Lg × Mod :=
  if k < 0 ∨ (l.ns.length : Int) < k then (1, l, M)
  else if k = l.ns.length then (0, l, M)
  else ((M.cut ln (1 + k)).1, (if (M.cut ln (1 + k)).1 = 0 then ⟨l.ns.take k.toNat, l.ss.take (k.toNat + 1)⟩ else l), (M.cut ln (1 + k)).2)
def endM (l : Lg) (M : Mod) : Int × Lg × Mod :=
  if M.size ln < 0 then (0, lg0, M)
  else ((M.drop ln).1, (if (M.drop ln).1 = 0 then lg0 else l), (M.drop ln).2)
/-- What holds between the top and what was found. -/
structure LgK (i : Nat) (f : LgS) : Prop where
  len : f.ss.length = i
  ns : f.ns.length = i - 1
  sure : f.sure ≤ f.ns.length
  right : f.right = decide (0 < i)
  small : ∀ n ∈ f.ns, n < 4096
theorem k0 : LgK 0 g0 := ⟨rfl, rfl, Nat.le_refl _, rfl, fun n hn => by cases hn⟩
theorem LgK.take {i : Nat} {f g : LgS} {s : List UInt8} (h : LgK i f) (e : takeL i f s = some g) : LgK (i + 1) g := by
  obtain ⟨h1, h2, h3, h4, h5⟩ := h
  unfold takeL at e
  split at e
  · rename_i hi
    subst hi
    split at e
    · cases e
      exact ⟨rfl, rfl, Nat.le_refl _, rfl, fun n hn => by cases hn⟩
    · cases e
  · rename_i hi
    split at e
    · cases e
    · split at e
      · cases e
      · rename_i hn
        cases e
        refine ⟨by simp [h1], by simp [h2]; omega, ?_, ?_, fun n hm => ?_⟩
        · show (if kK s = 6 then f.ns.length + 1 else f.sure) ≤ (f.ns ++ [kN s]).length
          rw [List.length_append]
          show _ ≤ f.ns.length + 1
          split <;> omega
        · show f.right = _
          rw [h4]
          simp
          omega
        · rcases List.mem_append.1 hm with hm | hm
          · exact h5 n hm
          · rw [List.mem_singleton] at hm
            subst hm
            rcases Nat.lt_or_ge (kN s) 4096 with h6 | h6
            · exact h6
            · exact absurd (Or.inr (Or.inl h6)) hn
end Lo
end Go.Proofs.YtgmbiiocjhkpdaaGreat

/-
  The project's log, plainly: a list of frames (number, sum); what each call answers and leaves. No program in sight.
-/
namespace Go.Proofs.YtgmbiiocjhkpdaaGreat
open Go.RowKit
namespace Lo
open Disk (Mod Fil Plc Sec Nam Dir Ctl)
open Jo (okB kK kN kS kD)
/-- A frame: its page's number, its sector's sum. -/
abbrev Fr := Nat × Nat
def lgOf (fs : List Fr) : Lg := ⟨fs.map (·.1), sumL topL :: fs.map (·.2)⟩
def sumP (fs : List Fr) : Nat := (lgOf fs).ss.getLastD 0
theorem sumP_nil : sumP [] = sumL topL := rfl
theorem sumP_snoc (fs : List Fr) (x : Fr) : sumP (fs ++ [x]) = x.2 := by
  show (sumL topL :: (fs ++ [x]).map (·.2)).getLastD 0 = x.2
  have e : sumL topL :: (fs ++ [x]).map (·.2) = (sumL topL :: fs.map (·.2)) ++ [x.2] := by simp
  rw [e, List.getLastD_concat]
/-- What takeRight takes: the frames behind it, whether a transaction ends there. -/
def takeP (i : Nat) (fs : List Fr) (s : List UInt8) : Option (List Fr × Bool) :=
  if i = 0 then (if s = topL then some (fs, true) else none)
  else if okB s = false then none
  else if (kK s ≠ 5 ∧ kK s ≠ 6) ∨ 4096 ≤ kN s ∨ kS s ≠ sumP fs then none
  else some (fs ++ [(kN s, sumL s)], decide (kK s = 6))
/-- The sectors from i on, k of them: the error, the frames, how many sectors stay, the disk. -/
def readP : Nat → Nat → List Fr → Nat → Mod → Int × List Fr × Nat × Mod
  | 0, _, fs, st, M => (0, fs, st, M)
  | k + 1, i, fs, st, M =>
    if (M.read ln i).2.1 ≠ 0 ∧ (M.read ln i).2.1 ≠ 13 then ((M.read ln i).2.1, fs, 0, (M.read ln i).2.2)
    else match takeP i fs (M.read ln i).1 with
      | none => (0, fs, st, (M.read ln i).2.2)
      | some g => readP k (i + 1) g.1 (if g.2 then i + 1 else st) (M.read ln i).2.2
def trimP (st : Nat) (M : Mod) : Int × Mod :=
  if 0 ≤ M.size ln ∧ st = 0 then M.drop ln
  else if (st : Int) < M.size ln then M.cut ln st
  else (0, M)
def openP (M : Mod) : Int × Option (List Fr) × Mod :=
  if (readP (M.size ln).toNat 0 [] 0 M).1 ≠ 0 then ((readP (M.size ln).toNat 0 [] 0 M).1, none, (readP (M.size ln).toNat 0 [] 0 M).2.2.2)
  else if (trimP (readP (M.size ln).toNat 0 [] 0 M).2.2.1 (readP (M.size ln).toNat 0 [] 0 M).2.2.2).1 ≠ 0 then
    ((trimP (readP (M.size ln).toNat 0 [] 0 M).2.2.1 (readP (M.size ln).toNat 0 [] 0 M).2.2.2).1, none, (trimP (readP (M.size ln).toNat 0 [] 0 M).2.2.1 (readP (M.size ln).toNat 0 [] 0 M).2.2.2).2)
  else (0, some ((readP (M.size ln).toNat 0 [] 0 M).2.1.take ((readP (M.size ln).toNat 0 [] 0 M).2.2.1 - 1)), (trimP (readP (M.size ln).toNat 0 [] 0 M).2.2.1 (readP (M.size ln).toNat 0 [] 0 M).2.2.2).2)
/-- Where there is no file: the top first. -/
def topP (M : Mod) : Int × Mod := if M.size ln < 0 then M.write ln 0 topL else (0, M)
def frameP (fs : List Fr) (n : Nat) (d : List UInt8) (c : Bool) (M : Mod) : Int × List Fr × Mod :=
  ((M.write ln (1 + fs.length : Nat) (frameL (lgOf fs) n d c)).1, (if (M.write ln (1 + fs.length : Nat) (frameL (lgOf fs) n d c)).1 = 0 then fs ++ [(n, sumL (frameL (lgOf fs) n d c))] else fs), (M.write ln (1 + fs.length : Nat) (frameL (lgOf fs) n d c)).2)
def addP (fs : List Fr) (n : Int) (d : List UInt8) (c : Bool) (M : Mod) : Int × List Fr × Mod :=
  if n < 0 ∨ 4096 ≤ n ∨ d.length ≠ 232 then (1, fs, M)
  else if (topP M).1 ≠ 0 then ((topP M).1, fs, (topP M).2)
  else frameP fs n.toNat d c (topP M).2
/-- What the opening of bytes that are no sector answers. -/
def oErr (s : List UInt8) : Int := if s.length = 256 then 20 else 1
/-- Get: the last frame's sector is read and opened. -/
def getP (fs : List Fr) (n : Int) (M : Mod) : List UInt8 × Bool × Int × Mod :=
  match lastI (fs.map (·.1)) n fs.length with
  | none => ([], false, 0, M)
  | some i =>
    if (M.read ln (i + 1 : Nat)).2.1 ≠ 0 then ([], false, (M.read ln (i + 1 : Nat)).2.1, (M.read ln (i + 1 : Nat)).2.2)
    else if okB (M.read ln (i + 1 : Nat)).1 = false then ([], false, oErr (M.read ln (i + 1 : Nat)).1, (M.read ln (i + 1 : Nat)).2.2)
    else (kD (M.read ln (i + 1 : Nat)).1, true, 0, (M.read ln (i + 1 : Nat)).2.2)
def backP (fs : List Fr) (k : Int) (M : Mod) : Int × List Fr × Mod :=
  if k < 0 ∨ (fs.length : Int) < k then (1, fs, M)
  else if k = fs.length then (0, fs, M)
  else ((M.cut ln (1 + k)).1, (if (M.cut ln (1 + k)).1 = 0 then fs.take k.toNat else fs), (M.cut ln (1 + k)).2)
def endP (fs : List Fr) (M : Mod) : Int × List Fr × Mod :=
  if M.size ln < 0 then (0, [], M)
  else ((M.drop ln).1, (if (M.drop ln).1 = 0 then [] else fs), (M.drop ln).2)

/-! ### the last frame of a number -/
theorem lastI_some : ∀ {ns : List Nat} {n : Int} {k i : Nat}, lastI ns n k = some i → i < k ∧ (ns.getD i 0 : Int) = n
  | _, _, 0, _, h => by cases h
  | ns, n, k + 1, i, h => by
    unfold lastI at h
    split at h
    · rename_i hn
      cases h
      exact ⟨Nat.lt_succ_self _, hn⟩
    · have := lastI_some h
      exact ⟨by omega, this.2⟩
theorem lastI_none : ∀ {ns : List Nat} {n : Int} {k : Nat}, lastI ns n k = none → ∀ i, i < k → (ns.getD i 0 : Int) ≠ n
  | _, _, 0, _, i, hi => by omega
  | ns, n, k + 1, h, i, hi => by
    unfold lastI at h
    split at h
    · cases h
    · rename_i hn
      rcases Nat.lt_or_ge i k with h1 | h1
      · exact lastI_none h i h1
      · have : i = k := by omega
        subst this
        exact hn
theorem lastI_app (ns r : List Nat) (n : Int) : ∀ k, k ≤ ns.length → lastI (ns ++ r) n k = lastI ns n k
  | 0, _ => rfl
  | k + 1, h => by
    have e : (ns ++ r).getD k 0 = ns.getD k 0 := by
      rw [List.getD_eq_getElem?_getD, List.getD_eq_getElem?_getD, List.getElem?_append_left (by omega)]
    unfold lastI
    rw [e, lastI_app ns r n k (by omega)]
def lookL (fs : List Fr) : Nat → Option Nat := fun n => lastI (fs.map (·.1)) (n : Int) fs.length
theorem lastI_succ (ns : List Nat) (n : Int) (k : Nat) : lastI ns n (k + 1) = if (ns.getD k 0 : Int) = n then some k else lastI ns n k := rfl
theorem lookL_nil : lookL [] = fun _ => none := rfl
theorem lookL_snoc (fs : List Fr) (x : Fr) : lookL (fs ++ [x]) = fun m => if m = x.1 then some fs.length else lookL fs m := by
  funext m
  unfold lookL
  have e : ((fs ++ [x]).map (·.1)).getD fs.length 0 = x.1 := by
    rw [List.getD_eq_getElem?_getD]
    simp
  rw [List.length_append]
  show lastI _ _ (fs.length + 1) = _
  rw [lastI_succ, e, List.map_append, lastI_app _ _ _ _ (by simp)]
  by_cases h : m = x.1
  · rw [if_pos h, if_pos (by rw [h])]
  · rw [if_neg h, if_neg (by omega)]
theorem lastI_neg {ns : List Nat} {n : Int} (h : n < 0) : ∀ k, lastI ns n k = none
  | 0 => rfl
  | k + 1 => by
    unfold lastI
    rw [if_neg (by omega), lastI_neg h k]
theorem lookL_mem (fs : List Fr) (n : Nat) : (lookL fs n).isSome = true ↔ n ∈ fs.map (·.1) := by
  constructor
  · intro h
    obtain ⟨i, hi⟩ := Option.isSome_iff_exists.1 h
    obtain ⟨h1, h2⟩ := lastI_some hi
    rw [List.getD_eq_getElem?_getD, List.getElem?_eq_getElem (by simpa using h1)] at h2
    have e : (fs.map (·.1))[i]'(by simpa using h1) = n := by
      have : (((fs.map (·.1))[i]'(by simpa using h1) : Nat) : Int) = (n : Int) := h2
      omega
    exact e ▸ List.getElem_mem _
  · intro h
    rw [Option.isSome_iff_exists]
    cases hl : lookL fs n with
    | some i => exact ⟨i, rfl⟩
    | none =>
      obtain ⟨i, hi, e⟩ := List.mem_iff_getElem.1 h
      have hi2 : i < fs.length := by simpa using hi
      refine absurd ?_ (lastI_none hl i hi2)
      rw [List.getD_eq_getElem?_getD, List.getElem?_eq_getElem hi, e]
      rfl
theorem pages_sorted (ns : List Nat) : (pagesM ns).Pairwise (· < ·) := List.Pairwise.filter _ (by simpa using List.pairwise_lt_range (n := 4096))
theorem pages_mem {fs : List Fr} (hs : ∀ x ∈ fs, x.1 < 4096) (n : Nat) : n ∈ pagesM (fs.map (·.1)) ↔ (lookL fs n).isSome = true := by
  rw [lookL_mem]
  unfold pagesM
  rw [List.mem_filter, List.mem_range]
  constructor
  · rintro ⟨_, h⟩
    simp only [List.any_eq_true, beq_iff_eq] at h
    obtain ⟨x, hx, rfl⟩ := h
    exact hx
  · intro h
    refine ⟨?_, ?_⟩
    · obtain ⟨x, hx, rfl⟩ := List.mem_map.1 h
      exact hs x hx
    · simp only [List.any_eq_true, beq_iff_eq]
      exact ⟨n, h, rfl⟩
end Lo
end Go.Proofs.YtgmbiiocjhkpdaaGreat

/-
  A disk with the file "log" alone, plainly: what each operation does to it.
-/
namespace Go.Proofs.YtgmbiiocjhkpdaaGreat
open Go.RowKit
namespace Lo
open Disk (Mod Fil Plc Sec Nam Dir Ctl)
open Jo (lenO psO szO calm_ref calm_beg run_ways ref_vals wk nows settled fresh Left woken_left)

def dir1 (L : Option Fil) : Dir := match L with | none => [] | some F => [(ln, F)]
theorem get_l (L : Option Fil) : Disk.get? (dir1 L) ln = L := by cases L <;> simp [dir1, Disk.get?, ln]
theorem ins_l (L : Option Fil) (F : Fil) : Disk.ins (dir1 L) ln F = dir1 (some F) := by
  have e2 : (ln == ln) = true := by decide
  cases L <;> simp [dir1, Disk.ins, Disk.del, Disk.insB]
theorem del_l (L : Option Fil) : Disk.del (dir1 L) ln = dir1 none := by cases L <;> simp [dir1, Disk.del]
theorem lens_l (L : Option Fil) : Disk.lensD (dir1 L) = lenO L := by cases L <;> simp [dir1, Disk.lensD, lenO]
theorem holds_l (L : Option Fil) (n : Nam) : Disk.holdsB (dir1 L) n = true := by
  unfold Disk.holdsB
  have : (dir1 L).length < 8 := by cases L <;> simp [dir1]
  simp [this]
theorem fit_l : Disk.nameFit ln = true := by decide
theorem size_l {M : Mod} {L : Option Fil} (h : M.fs = dir1 L) : M.size ln = szO L := by
  unfold Disk.Mod.size
  rw [h, get_l]
  cases L <;> rfl
theorem bytes_l {M : Mod} {F : Fil} (h : M.fs = dir1 (some F)) : M.bytes ln = F.bytes := by
  unfold Disk.Mod.bytes
  rw [h, get_l]
/-- What an operation leaves: the same file, and an error; or another one, and none. What is asked of calm disks besides. -/
def Does (c : Ctl) (L : Option Fil) (x : Int × Mod) (L' : Option Fil) (ok : Prop) : Prop :=
  (x.1 ≠ 0 ∧ x.2.fs = dir1 L ∨ x.1 = 0 ∧ x.2.fs = dir1 L') ∧ (Jo.Calm c → ok → x.1 = 0 ∧ Jo.Calm x.2.c ∧ x.2.c.room = c.room)
theorem does_write {M : Mod} {L : Option Fil} (h : M.fs = dir1 L) {k : Nat} {l : List UInt8} (hl : l.length = 256) :
    Does M.c L (M.write ln k l) (some ((L.getD Disk.emptyFil).write k l)) (k ≤ lenO L ∧ (k < lenO L ∨ ((lenO L : Nat) : Int) < M.c.room)) := by
  have hfit : (Disk.nameFit ln && decide (0 ≤ (k : Int)) && decide (l.length = 256)) = true := by simp [fit_l, hl]
  unfold Disk.Mod.write
  rw [hfit]
  rcases run_ways M (Disk.writeD M.c.room ln k l) with ⟨c, e, hne, hc⟩ | ⟨c, e, hc⟩
  · rw [e]
    exact ⟨Or.inl ⟨hne, h⟩, fun hc' => absurd hc' hc⟩
  · rw [e]
    unfold Disk.writeD
    simp only [h, get_l, holds_l, lens_l, ins_l, Int.toNat_natCast]
    have hk : ((L.getD Disk.emptyFil).ps.length : Int) = (lenO L : Nat) := by cases L <;> simp [lenO, Disk.emptyFil]
    simp only [hk]
    refine ⟨?_, fun hcalm ⟨h1, h2⟩ => ?_⟩
    · split
      · exact Or.inl ⟨by simp, rfl⟩
      · split
        · exact Or.inl ⟨by simp, rfl⟩
        · exact Or.inr ⟨rfl, by simp⟩
    · rw [if_neg (by omega), if_neg (by rintro ⟨h4, h3 | h3⟩; · cases h3
                                        · omega)]
      exact ⟨rfl, hc hcalm⟩
theorem does_sync {M : Mod} {L : Option Fil} (h : M.fs = dir1 L) : Does M.c L (M.sync ln) (L.map Fil.sync) (L ≠ none) := by
  unfold Disk.Mod.sync
  rw [fit_l]
  rcases run_ways M (Disk.syncD ln) with ⟨c, e, hne, hc⟩ | ⟨c, e, hc⟩
  · rw [e]
    exact ⟨Or.inl ⟨hne, h⟩, fun hc' => absurd hc' hc⟩
  · rw [e]
    unfold Disk.syncD Disk.onD
    rw [h, get_l]
    cases L with
    | none => exact ⟨Or.inl ⟨by simp, rfl⟩, fun _ h => absurd rfl h⟩
    | some F => simp only [ins_l]; exact ⟨Or.inr ⟨rfl, rfl⟩, fun hcalm _ => ⟨rfl, hc hcalm⟩⟩
theorem does_drop {M : Mod} {L : Option Fil} (h : M.fs = dir1 L) : Does M.c L (M.drop ln) none (L ≠ none) := by
  unfold Disk.Mod.drop
  rw [fit_l]
  rcases run_ways M (Disk.dropD ln) with ⟨c, e, hne, hc⟩ | ⟨c, e, hc⟩
  · rw [e]
    exact ⟨Or.inl ⟨hne, h⟩, fun hc' => absurd hc' hc⟩
  · rw [e]
    unfold Disk.dropD Disk.onD
    rw [h, get_l]
    cases L with
    | none => exact ⟨Or.inl ⟨by simp, rfl⟩, fun _ h => absurd rfl h⟩
    | some F => simp only [del_l]; exact ⟨Or.inr ⟨rfl, rfl⟩, fun hcalm _ => ⟨rfl, hc hcalm⟩⟩
theorem does_cut {M : Mod} {L : Option Fil} (h : M.fs = dir1 L) (k : Nat) : Does M.c L (M.cut ln k) (L.map fun F => F.cut k) (∃ F, L = some F ∧ k ≤ F.ps.length) := by
  have hfit : (decide (0 ≤ (k : Int)) && Disk.nameFit ln) = true := by simp [fit_l]
  unfold Disk.Mod.cut
  rw [hfit]
  rcases run_ways M (Disk.cutD ln k) with ⟨c, e, hne, hc⟩ | ⟨c, e, hc⟩
  · rw [e]
    exact ⟨Or.inl ⟨hne, h⟩, fun hc' => absurd hc' hc⟩
  · rw [e]
    unfold Disk.cutD Disk.onD
    rw [h, get_l]
    cases L with
    | none => exact ⟨Or.inl ⟨by simp, rfl⟩, by rintro _ ⟨F, h, _⟩; cases h⟩
    | some F =>
      simp only [ins_l]
      split
      · exact ⟨Or.inl ⟨by simp, rfl⟩, by rintro _ ⟨F', h, hk⟩; cases h; omega⟩
      · exact ⟨Or.inr ⟨rfl, by simp⟩, fun hcalm _ => ⟨rfl, hc hcalm⟩⟩
/-- A read of a sector of a calm disk. -/
theorem read_calm {M : Mod} {L : Option Fil} (h : M.fs = dir1 L) (hc : Jo.Calm M.c) {i : Nat} {p : Plc} (hp : (psO L)[i]? = some p) :
    (M.read ln i).1 = (Disk.readNow p.now).1 ∧ (M.read ln i).2.1 = (Disk.readNow p.now).2 ∧ (M.read ln i).2.2.fs = dir1 L ∧ Jo.Calm (M.read ln i).2.2.c ∧ (M.read ln i).2.2.c.room = M.c.room := by
  unfold Disk.Mod.read
  rw [fit_l, if_neg (by rw [calm_ref hc]; decide)]
  have e : Disk.readD ln i M.fs = Disk.readNow p.now := by
    unfold Disk.readD Disk.Fil.read
    rw [h, get_l]
    cases L with
    | none => simp [psO] at hp
    | some F =>
      simp only
      have hp' : F.ps[i]? = some p := hp
      rw [if_neg (by omega), Int.toNat_natCast, hp']
  rw [e]
  exact ⟨rfl, rfl, h, calm_beg hc⟩
theorem wakes_l (l : List Int) (k : Nat) (L : Option Fil) : Disk.wakes l k (dir1 L) = dir1 (wk l k L) := by
  cases L with
  | none => rfl
  | some G => simp only [dir1, wk, Disk.wakes, List.append_nil]; split <;> simp
theorem off_on (M : Mod) (l : List Int) {L : Option Fil} (h : M.fs = dir1 L) : Jo.Calm (M.off.on l).c ∧ (M.off.on l).c.room = M.c.room ∧ (M.off.on l).fs = dir1 (wk l 0 L) := by
  unfold Disk.Mod.off Disk.Mod.on
  rw [if_pos (show M.c.offed.down = true from rfl)]
  refine ⟨⟨rfl, rfl⟩, rfl, ?_⟩
  show Disk.wakes l 0 M.fs = _
  rw [h, wakes_l]
end Lo
end Go.Proofs.YtgmbiiocjhkpdaaGreat

/-
  What stands in the file of a log, frame by frame, plainly; what a loss of power leaves of it, and what Open finds then.
-/
namespace Go.Proofs.YtgmbiiocjhkpdaaGreat
open Go.RowKit
namespace Lo
open Disk (Mod Fil Plc Sec Nam Dir Ctl)
open Jo (lenO psO szO calm_ref calm_beg wk nows settled fresh woken_left okB kK kN kS kD)
/-- A frame that is laid: its page's number, its page's byte, whether a transaction ends with it. -/
abbrev Fm := Nat × UInt8 × Bool
def pgL (b : UInt8) : List UInt8 := List.replicate 232 b
theorem pgL_len (b : UInt8) : (pgL b).length = 232 := by unfold pgL; rw [List.length_replicate]
def secOf (fs : List Fr) (x : Fm) : List UInt8 := frameL (lgOf fs) x.1 (pgL x.2.1) x.2.2
def stp (p : List Fr × List (List UInt8) × Nat) (x : Fm) : List Fr × List (List UInt8) × Nat :=
  (p.1 ++ [(x.1, sumL (secOf p.1 x))], p.2.1 ++ [secOf p.1 x], if x.2.2 then p.1.length + 1 else p.2.2)
def run3 (l : List Fm) : List Fr × List (List UInt8) × Nat := l.foldl stp ([], [topL], 0)
/-- The frames, the sectors, up to which frame it is committed. -/
def frs (l : List Fm) : List Fr := (run3 l).1
def secs (l : List Fm) : List (List UInt8) := (run3 l).2.1
def lastC (l : List Fm) : Nat := (run3 l).2.2
theorem run3_snoc (l : List Fm) (x : Fm) : run3 (l ++ [x]) = stp (run3 l) x := by unfold run3; rw [List.foldl_append]; rfl
theorem frs_snoc (l : List Fm) (x : Fm) : frs (l ++ [x]) = frs l ++ [(x.1, sumL (secOf (frs l) x))] := by unfold frs; rw [run3_snoc]; rfl
theorem secs_snoc (l : List Fm) (x : Fm) : secs (l ++ [x]) = secs l ++ [secOf (frs l) x] := by unfold secs frs; rw [run3_snoc]; rfl
theorem snoc_ind {α : Type} {P : List α → Prop} (h0 : P []) (h1 : ∀ l x, P l → P (l ++ [x])) : ∀ (n : Nat) (l : List α), l.length = n → P l
  | 0, l, h => by rw [List.eq_nil_of_length_eq_zero h]; exact h0
  | n + 1, l, h => by
    rcases List.eq_nil_or_concat l with rfl | ⟨r, x, rfl⟩
    · exact h0
    · rw [List.concat_eq_append] at h ⊢
      exact h1 r x (snoc_ind h0 h1 n r (by simpa using h))
theorem frs_len (l : List Fm) : (frs l).length = l.length := snoc_ind (P := fun l => (frs l).length = l.length) rfl (fun l x h => by rw [frs_snoc, List.length_append, List.length_append, h]; rfl) _ l rfl
theorem secs_len (l : List Fm) : (secs l).length = l.length + 1 := snoc_ind (P := fun l => (secs l).length = l.length + 1) rfl (fun l x h => by rw [secs_snoc, List.length_append, List.length_append, h]; rfl) _ l rfl
theorem lastC_snoc (l : List Fm) (x : Fm) : lastC (l ++ [x]) = if x.2.2 then l.length + 1 else lastC l := by
  have : lastC (l ++ [x]) = if x.2.2 then (frs l).length + 1 else lastC l := by unfold lastC frs; rw [run3_snoc]; rfl
  rw [this, frs_len]
theorem lastC_le (l : List Fm) : lastC l ≤ l.length := snoc_ind (P := fun l => lastC l ≤ l.length) (Nat.le_refl _) (fun l x h => by rw [lastC_snoc, List.length_append]; show _ ≤ l.length + 1; split <;> omega) _ l rfl
/-- A committed beginning ends with the end of a transaction. -/
theorem lastC_is (l : List Fm) : lastC l = 0 ∨ ∃ x, l[lastC l - 1]? = some x ∧ x.2.2 = true := snoc_ind (P := fun l => lastC l = 0 ∨ ∃ x, l[lastC l - 1]? = some x ∧ x.2.2 = true) (Or.inl rfl) (fun l x h => by
    rw [lastC_snoc]
    cases hc : x.2.2 with
    | true =>
      right
      rw [if_pos rfl]
      exact ⟨x, by simp, hc⟩
    | false =>
      rw [if_neg (by decide)]
      rcases h with h | ⟨y, hy, hc⟩
      · exact Or.inl h
      · refine Or.inr ⟨y, ?_, hc⟩
        rw [List.getElem?_append_left (List.getElem?_eq_some_iff.1 hy).1]
        exact hy) _ l rfl
theorem lastC_mono (l : List Fm) : ∀ (m : List Fm), lastC l ≤ lastC (l ++ m) := fun m => snoc_ind (P := fun m => lastC l ≤ lastC (l ++ m)) (by rw [List.append_nil]; exact Nat.le_refl _) (fun m x h => by
    rw [← List.append_assoc, lastC_snoc, List.length_append]
    have := lastC_le l
    split <;> omega) _ m rfl
theorem lastC_take {l : List Fm} {a b : Nat} (h : a ≤ b) : lastC (l.take a) ≤ lastC (l.take b) := by
  have e : l.take b = l.take a ++ (l.take b).drop a := by
    have := List.take_append_drop a (l.take b)
    rw [List.take_take, Nat.min_eq_left h] at this
    exact this.symm
  rw [e]
  exact lastC_mono _ _
theorem frs_app (l m : List Fm) : ∃ r, frs (l ++ m) = frs l ++ r := snoc_ind (P := fun m => ∃ r, frs (l ++ m) = frs l ++ r) ⟨[], by simp⟩ (fun m x h => by
    obtain ⟨r, h⟩ := h
    rw [← List.append_assoc, frs_snoc, h, List.append_assoc]
    exact ⟨_, rfl⟩) _ m rfl
theorem secs_app (l m : List Fm) : ∃ r, secs (l ++ m) = secs l ++ r := snoc_ind (P := fun m => ∃ r, secs (l ++ m) = secs l ++ r) ⟨[], by simp⟩ (fun m x h => by
    obtain ⟨r, h⟩ := h
    rw [← List.append_assoc, secs_snoc, h, List.append_assoc]
    exact ⟨_, rfl⟩) _ m rfl
theorem frs_take {l : List Fm} {k : Nat} (h : k ≤ l.length) : frs (l.take k) = (frs l).take k := by
  obtain ⟨r, hr⟩ := frs_app (l.take k) (l.drop k)
  rw [List.take_append_drop] at hr
  rw [hr, List.take_left' (by rw [frs_len, List.length_take]; omega)]
theorem secs_take {l : List Fm} {k : Nat} (h : k ≤ l.length) : secs (l.take k) = (secs l).take (k + 1) := by
  obtain ⟨r, hr⟩ := secs_app (l.take k) (l.drop k)
  rw [List.take_append_drop] at hr
  rw [hr, List.take_left' (by rw [secs_len, List.length_take]; omega)]
theorem secs_at {l : List Fm} {i : Nat} (h : i < l.length) : (secs l)[i + 1]? = some (secOf (frs (l.take i)) l[i]) := by
  have e : l.take (i + 1) = l.take i ++ [l[i]] := by rw [List.take_add_one, List.getElem?_eq_getElem h]; rfl
  have h1 := secs_take (l := l) (k := i + 1) (by omega)
  rw [e, secs_snoc] at h1
  have h2 : ((secs l).take (i + 1 + 1))[i + 1]? = (secs l)[i + 1]? := List.getElem?_take_of_lt (by omega)
  have hl : (secs (l.take i)).length = i + 1 := by rw [secs_len, List.length_take]; omega
  rw [← h2, ← h1, List.getElem?_append_right (by omega), hl, Nat.sub_self]
  rfl
theorem sum_lt64 (s : List UInt8) : sumL s < 18446744073709551616 := Seal.numAt_lt s 248 8
theorem sums_lt (l : List Fm) : ∀ x ∈ frs l, x.2 < 18446744073709551616 := snoc_ind (P := fun l => ∀ x ∈ frs l, x.2 < 18446744073709551616) (fun x hx => by cases hx) (fun l y h x hx => by
    rw [frs_snoc] at hx
    rcases List.mem_append.1 hx with hx | hx
    · exact h x hx
    · rw [List.mem_singleton] at hx
      subst hx
      exact sum_lt64 _) _ l rfl
theorem nums_lt {l : List Fm} (hl : ∀ x ∈ l, x.1 < 4096) : ∀ x ∈ frs l, x.1 < 4096 := snoc_ind (P := fun l => (∀ x ∈ l, x.1 < 4096) → ∀ x ∈ frs l, x.1 < 4096) (fun _ x hx => by cases hx) (fun l y h hl x hx => by
    rw [frs_snoc] at hx
    rcases List.mem_append.1 hx with hx | hx
    · exact h (fun x hx => hl x (List.mem_append_left _ hx)) x hx
    · rw [List.mem_singleton] at hx
      subst hx
      exact hl y (List.mem_append_right _ List.mem_cons_self)) _ l rfl hl
theorem sumP_lt {fs : List Fr} (h : ∀ x ∈ fs, x.2 < 18446744073709551616) : sumP fs < 18446744073709551616 := by
  rcases List.eq_nil_or_concat fs with rfl | ⟨r, x, rfl⟩
  · exact sum_lt64 topL
  · rw [List.concat_eq_append] at h ⊢
    rw [sumP_snoc]
    exact h x (List.mem_append_right _ List.mem_cons_self)
theorem frame_seal (fs : List Fr) (n : Nat) (d : List UInt8) (c : Bool) : frameL (lgOf fs) n d c = Seal.sealL (if c then 6 else 5) n (sumP fs) d := rfl
theorem frame_len (fs : List Fr) (n : Nat) {d : List UInt8} (hd : d.length = 232) (c : Bool) : (frameL (lgOf fs) n d c).length = 256 := by rw [frame_seal, Seal.seal_len, hd]
theorem sec_len (fs : List Fr) (x : Fm) : (secOf fs x).length = 256 := frame_len fs x.1 (pgL_len _) x.2.2
/-- What a frame's sector says. -/
theorem frame_says {fs : List Fr} (hs : ∀ x ∈ fs, x.2 < 18446744073709551616) {n : Nat} (hn : n < 4096) {d : List UInt8} (hd : d.length = 232) (c : Bool) :
    okB (frameL (lgOf fs) n d c) = true ∧ kK (frameL (lgOf fs) n d c) = (if c then 6 else 5) ∧ kN (frameL (lgOf fs) n d c) = n ∧ kS (frameL (lgOf fs) n d c) = sumP fs ∧ kD (frameL (lgOf fs) n d c) = d := by
  rw [frame_seal]
  refine ⟨Jo.okB_seal _ _ _ hd, Jo.kK_seal _ _ hd (by cases c <;> decide), Jo.kN_seal _ _ hd (by omega), Jo.kS_seal _ _ hd (sumP_lt hs), Jo.kD_seal _ _ _ hd⟩
theorem take_frame {fs : List Fr} (hs : ∀ x ∈ fs, x.2 < 18446744073709551616) (i : Nat) {x : Fm} (hx : x.1 < 4096) : takeP (i + 1) fs (secOf fs x) = some (fs ++ [(x.1, sumL (secOf fs x))], x.2.2) := by
  obtain ⟨h1, h2, h3, h4, h5⟩ := frame_says hs hx (pgL_len x.2.1) x.2.2
  unfold takeP
  rw [if_neg (by omega)]
  unfold secOf
  rw [h1, if_neg (by decide), h2, h3, h4, if_neg]
  · cases x.2.2 <;> rfl
  · rintro (⟨h, h'⟩ | h | h)
    · cases hc : x.2.2 <;> rw [hc] at h h'
      · exact h rfl
      · exact h' rfl
    · omega
    · exact h rfl
theorem take_nil (i : Nat) (fs : List Fr) : takeP i fs [] = none := by
  unfold takeP
  split
  · rw [if_neg (by intro h; have := congrArg List.length h; rw [show topL.length = 256 from by unfold topL; rw [Seal.seal_len, List.length_replicate]] at this; cases this)]
  · rw [if_pos (by rfl)]
theorem ok_topL : okB topL = true := Jo.okB_seal 4 1 0 (by rw [List.length_replicate])
theorem take_zeros (i : Nat) (fs : List Fr) : takeP i fs Disk.zeros = none := by
  have hz : okB Disk.zeros = false := Jo.ok_zeros
  unfold takeP
  split
  · rw [if_neg (by intro h; rw [h, ok_topL] at hz; cases hz)]
  · first | rfl | rw [if_pos hz]
/-- What is taken of sectors, one behind the other. -/
def scanP : Nat → List Fr → Nat → List Sec → List Fr × Nat
  | _, fs, st, [] => (fs, st)
  | i, fs, st, s :: r => match takeP i fs (Disk.readNow s).1 with
    | none => (fs, st)
    | some g => scanP (i + 1) g.1 (if g.2 then i + 1 else st) r
theorem scanP_some {i : Nat} {fs : List Fr} {st : Nat} {s : List UInt8} {r : List Sec} {g : List Fr × Bool} (h : takeP i fs s = some g) : scanP i fs st (some s :: r) = scanP (i + 1) g.1 (if g.2 then i + 1 else st) r := by
  simp only [scanP, Disk.readNow, h]
theorem take_top : takeP 0 [] topL = some ([], true) := by
  unfold takeP
  rw [if_pos rfl, if_pos rfl]
theorem secs_nil : secs [] = [topL] := rfl
theorem frs_nil : frs [] = [] := rfl
theorem lastC_nil : lastC [] = 0 := rfl
theorem scan_secs {l : List Fm} (hl : ∀ x ∈ l, x.1 < 4096) : ∀ C : List Sec, scanP 0 [] 0 ((secs l).map some ++ C) = scanP (l.length + 1) (frs l) (lastC l + 1) C :=
  snoc_ind (P := fun l => (∀ x ∈ l, x.1 < 4096) → ∀ C : List Sec, scanP 0 [] 0 ((secs l).map some ++ C) = scanP (l.length + 1) (frs l) (lastC l + 1) C)
    (fun _ C => by
      rw [secs_nil, frs_nil, lastC_nil, List.map_cons, List.map_nil, List.cons_append, List.nil_append, scanP_some take_top]
      rfl)
    (fun l x ih hl C => by
      rw [secs_snoc, List.map_append, List.append_assoc, ih (fun y hy => hl y (List.mem_append_left _ hy))]
      have e := take_frame (sums_lt l) l.length (hl x (List.mem_append_right _ List.mem_cons_self))
      rw [List.map_cons, List.map_nil, List.cons_append, List.nil_append, scanP_some e, frs_snoc, lastC_snoc, List.length_append]
      have e2 : (if x.2.2 = true then l.length + 1 + 1 else lastC l + 1) = (if x.2.2 = true then l.length + 1 else lastC l) + 1 := by split <;> rfl
      rw [← e2]
      rfl) _ l rfl hl
/-- Behind what was kept: nothing, or a sector that isn't right. -/
def Ends (r : List Sec) : Prop := r = [] ∨ ∃ s r', r = s :: r' ∧ (s = none ∨ s = some Disk.zeros)
theorem scan_ends {r : List Sec} (h : Ends r) (i : Nat) (fs : List Fr) (st : Nat) : scanP i fs st r = (fs, st) := by
  rcases h with rfl | ⟨s, r', rfl, rfl | rfl⟩
  · rfl
  · simp only [scanP, Disk.readNow, take_nil]
  · simp only [scanP, Disk.readNow, take_zeros]
theorem left_split {B : List (List UInt8)} {C : List Sec} (h : Jo.Left B C) : ∃ k r, k ≤ B.length ∧ C = (B.take k).map some ++ r ∧ Ends r := by
  induction h with
  | nil => exact ⟨0, [], by omega, rfl, Or.inl rfl⟩
  | @kept b B C _ ih =>
    obtain ⟨k, r, hk, e, hr⟩ := ih
    exact ⟨k + 1, r, by simp; omega, by rw [e]; rfl, hr⟩
  | @torn b B C _ _ => exact ⟨0, none :: C, by omega, rfl, Or.inr ⟨_, _, rfl, Or.inl rfl⟩⟩
  | @lost b B C _ _ => exact ⟨0, some Disk.zeros :: C, by omega, rfl, Or.inr ⟨_, _, rfl, Or.inr rfl⟩⟩
/-- What is found of sectors of which the first ones, A, are safe. -/
theorem scan_found {l : List Fm} (hl : ∀ x ∈ l, x.1 < 4096) {A B : List (List UInt8)} {C : List Sec} (h : secs l = A ++ B) (hC : Jo.Left B C) :
    (∃ q r, q ≤ l.length ∧ A.length ≤ q + 1 ∧ A.map some ++ C = (secs (l.take q)).map some ++ r ∧ scanP 0 [] 0 (A.map some ++ C) = (frs (l.take q), lastC (l.take q) + 1))
    ∨ (A = [] ∧ scanP 0 [] 0 (A.map some ++ C) = ([], 0)) := by
  obtain ⟨k, r, hk, e, hr⟩ := left_split hC
  have hlen : l.length + 1 = A.length + B.length := by rw [← secs_len, h, List.length_append]
  have e2 : A.map some ++ C = ((secs l).take (A.length + k)).map some ++ r := by
    have e0 : (A ++ B).take (A.length + k) = A ++ B.take k := by rw [List.take_append, List.take_of_length_le (l := A) (by omega), Nat.add_sub_cancel_left]
    rw [e, h, e0, List.map_append, List.append_assoc]
  rcases Nat.eq_zero_or_pos (A.length + k) with h0 | h0
  · right
    have hA : A = [] := List.eq_nil_of_length_eq_zero (by omega)
    refine ⟨hA, ?_⟩
    rw [e2, h0]
    exact scan_ends hr 0 [] 0
  · left
    have e3 := secs_take (l := l) (k := A.length + k - 1) (by omega)
    rw [show A.length + k - 1 + 1 = A.length + k by omega] at e3
    rw [← e3] at e2
    refine ⟨A.length + k - 1, r, by omega, by omega, e2, ?_⟩
    rw [e2, scan_secs (fun x hx => hl x (List.mem_of_mem_take hx)), scan_ends hr]
/-- The reading of a calm disk. -/
theorem read_calmP : ∀ (k i : Nat) (fs : List Fr) (st : Nat) {M : Mod} {L : Option Fil}, M.fs = dir1 L → Jo.Calm M.c → i + k = lenO L →
    ∃ M', readP k i fs st M = (0, (scanP i fs st ((nows L).drop i)).1, (scanP i fs st ((nows L).drop i)).2, M') ∧ M'.fs = dir1 L ∧ Jo.Calm M'.c ∧ M'.c.room = M.c.room
  | 0, i, fs, st, M, L, h, hc, hi => by
    have : (nows L).drop i = [] := List.drop_eq_nil_of_le (by unfold nows; rw [List.length_map]; cases L <;> simp [psO, lenO] at hi ⊢ <;> omega)
    rw [this]
    exact ⟨M, rfl, h, hc, rfl⟩
  | k + 1, i, fs, st, M, L, h, hc, hi => by
    have hlt : i < (psO L).length := by cases L <;> simp [psO, lenO] at hi ⊢ <;> omega
    obtain ⟨h1, h2, h3, h4, h5⟩ := read_calm h hc (i := i) (p := (psO L)[i]) (List.getElem?_eq_getElem hlt)
    have hd : (nows L).drop i = (psO L)[i].now :: (nows L).drop (i + 1) := by
      unfold nows
      rw [List.drop_eq_getElem_cons (by rw [List.length_map]; exact hlt), List.getElem_map]
    unfold readP
    rw [hd, if_neg (by rw [h2]; cases (psO L)[i].now <;> simp [Disk.readNow]), h1]
    simp only [scanP]
    cases takeP i fs (Disk.readNow (psO L)[i].now).1 with
    | none => exact ⟨_, rfl, h3, h4, h5⟩
    | some g =>
      obtain ⟨M', e, e2, e3, e4⟩ := read_calmP k (i + 1) g.1 (if g.2 then i + 1 else st) h3 h4 (by omega)
      exact ⟨M', e, e2, e3, e4.trans h5⟩

/-- The disk of a log of these frames: what its file's sectors are now; A of them are safe, the others new. -/
def Stands (l : List Fm) (A : Nat) (L : Option Fil) : Prop :=
  (l = [] ∧ L = none ∧ A = 0) ∨ ∃ F, L = some F ∧ A ≤ l.length + 1 ∧ F.ps = ((secs l).take A).map (fun s => settled (some s)) ++ ((secs l).drop A).map fresh
/-- All of it can be read. -/
def Holds (l : List Fm) (M : Mod) : Prop := Jo.Calm M.c ∧ ∃ L, M.fs = dir1 L ∧ (l = [] ∧ L = none ∨ ∃ F, L = some F ∧ F.ps.map (·.now) = (secs l).map some)
theorem Stands.holds {l : List Fm} {A : Nat} {L : Option Fil} {M : Mod} (h : Stands l A L) (hf : M.fs = dir1 L) (hc : Jo.Calm M.c) : Holds l M := by
  refine ⟨hc, L, hf, ?_⟩
  rcases h with ⟨h1, h2, _⟩ | ⟨F, h1, h2, h3⟩
  · exact Or.inl ⟨h1, h2⟩
  · refine Or.inr ⟨F, h1, ?_⟩
    rw [h3, List.map_append, List.map_map, List.map_map]
    have e : (secs l).map some = ((secs l).take A).map some ++ ((secs l).drop A).map some := by rw [← List.map_append, List.take_append_drop]
    rw [e]
    rfl
/-- What Open leaves behind a loss of power. -/
structure Found (l : List Fm) (A n : Nat) (M : Mod) : Prop where
  le : n ≤ l.length
  last : n = 0 ∨ ∃ x, l[n - 1]? = some x ∧ x.2.2 = true
  ge : lastC (l.take (A - 1)) ≤ n
  holds : Holds (l.take n) M
theorem open_none {l : List Fm} {M : Mod} (hf : M.fs = dir1 none) (hc : Jo.Calm M.c) {A : Nat} (hA : A = 0) : openP M = (0, some [], M) ∧ Found l A 0 M := by
  have hsz : M.size ln = -1 := size_l hf
  refine ⟨?_, ⟨Nat.zero_le _, Or.inl rfl, ?_, ⟨hc, none, hf, Or.inl ⟨rfl, rfl⟩⟩⟩⟩
  · have e1 : readP (M.size ln).toNat 0 [] 0 M = (0, [], 0, M) := by rw [hsz]; rfl
    have e2 : trimP 0 M = (0, M) := by unfold trimP; rw [hsz, if_neg (by omega), if_neg (by omega)]
    unfold openP
    rw [e1]
    simp only [e2]
    rfl
  · rw [hA]
    exact Nat.le_of_eq rfl
theorem open_file {l : List Fm} (hl : ∀ x ∈ l, x.1 < 4096) {A : Nat} (hA : A ≤ l.length + 1) {M : Mod} {G : Fil} {C : List Sec} (hf : M.fs = dir1 (some G)) (hc : Jo.Calm M.c) (hC : Jo.Left ((secs l).drop A) C) (hG : G.ps.map (·.now) = ((secs l).take A).map some ++ C) :
    ∃ n M', openP M = (0, some (frs (l.take n)), M') ∧ Found l A n M' := by
  have hsz : M.size ln = (G.ps.length : Int) := size_l hf
  obtain ⟨X, hX⟩ : ∃ X, ((secs l).take A).map some ++ C = X := ⟨_, rfl⟩
  rw [hX] at hG
  have hnow : nows (some G) = X := hG
  obtain ⟨M1, e1, f1, c1, r1⟩ := read_calmP G.ps.length 0 [] 0 hf hc (Nat.zero_add _)
  rw [List.drop_zero, hnow] at e1
  have hs : secs l = (secs l).take A ++ (secs l).drop A := (List.take_append_drop _ _).symm
  have hlenA : ((secs l).take A).length = A := by rw [List.length_take, secs_len]; omega
  have hXl : G.ps.length = X.length := by rw [← hG, List.length_map]
  have hsz1 : M1.size ln = (G.ps.length : Int) := size_l f1
  rcases scan_found hl hs hC with ⟨q, r, hq, hqA, he, hsc⟩ | ⟨hA0, hsc⟩
  · rw [hX] at he hsc
    rw [hlenA] at hqA
    rw [hsc] at e1
    have hn : lastC (l.take q) ≤ q := by have := lastC_le (l.take q); rw [List.length_take] at this; omega
    obtain ⟨n, hnn⟩ : ∃ n, lastC (l.take q) = n := ⟨_, rfl⟩
    rw [hnn] at hn e1
    have hql : (secs (l.take q)).length = q + 1 := by rw [secs_len, List.length_take]; omega
    have hXlen : n + 1 ≤ X.length := by rw [he, List.length_append, List.length_map, hql]; omega
    have htake : X.take (n + 1) = (secs (l.take n)).map some := by
      rw [he, List.take_append_of_le_length (by rw [List.length_map, hql]; omega), ← List.map_take, ← secs_take (by rw [List.length_take]; omega), List.take_take, Nat.min_eq_left hn]
    have hfr : (frs (l.take q)).take n = frs (l.take n) := by
      rw [← frs_take (by rw [List.length_take]; omega), List.take_take, Nat.min_eq_left hn]
    have hlast : n = 0 ∨ ∃ x, l[n - 1]? = some x ∧ x.2.2 = true := by
      rcases lastC_is (l.take q) with h | ⟨x, hx, hxc⟩
      · exact Or.inl (hnn ▸ h)
      · rw [hnn] at hx
        rcases Nat.eq_zero_or_pos n with h0 | h0
        · exact Or.inl h0
        · rw [List.getElem?_take_of_lt (by omega)] at hx
          exact Or.inr ⟨x, hx, hxc⟩
    have hge : lastC (l.take (A - 1)) ≤ n := hnn ▸ lastC_take (by omega)
    have hopen : ∀ M2, trimP (n + 1) M1 = (0, M2) → openP M = (0, some (frs (l.take n)), M2) := by
      intro M2 e2
      unfold openP
      rw [hsz, Int.toNat_natCast, e1]
      simp only [e2]
      rw [if_neg (by decide), if_neg (by decide), Nat.add_sub_cancel, hfr]
    by_cases hcut : n + 1 < X.length
    · obtain ⟨hd1, hd2⟩ := does_cut f1 (n + 1)
      obtain ⟨o1, o2, o3⟩ := hd2 c1 ⟨G, rfl, by omega⟩
      rcases hd1 with ⟨h, _⟩ | ⟨_, o4⟩
      · exact absurd o1 h
      · have e2 : trimP (n + 1) M1 = (0, (M1.cut ln (n + 1 : Nat)).2) := by
          unfold trimP
          rw [if_neg (by omega), if_pos (by rw [hsz1]; omega)]
          exact Prod.ext o1 rfl
        refine ⟨n, _, hopen _ e2, ⟨by omega, hlast, hge, ⟨o2, _, o4, Or.inr ⟨G.cut (n + 1), rfl, ?_⟩⟩⟩⟩
        show (G.ps.take (n + 1)).map _ = _
        rw [List.map_take, hG, htake]
    · have e2 : trimP (n + 1) M1 = (0, M1) := by
        unfold trimP
        rw [if_neg (by omega), if_neg (by rw [hsz1]; omega)]
      refine ⟨n, _, hopen _ e2, ⟨by omega, hlast, hge, ⟨c1, _, f1, Or.inr ⟨G, rfl, ?_⟩⟩⟩⟩
      rw [hG, ← htake, List.take_of_length_le (by omega)]
  · rw [hX] at hsc
    rw [hsc] at e1
    have hA1 : A = 0 := by rw [← hlenA, hA0]; rfl
    obtain ⟨hd1, hd2⟩ := does_drop f1
    obtain ⟨o1, o2, o3⟩ := hd2 c1 (by simp)
    rcases hd1 with ⟨h, _⟩ | ⟨_, o4⟩
    · exact absurd o1 h
    · have e2 : trimP 0 M1 = (0, (M1.drop ln).2) := by
        unfold trimP
        rw [if_pos ⟨by rw [hsz1]; omega, rfl⟩]
        exact Prod.ext o1 rfl
      have e : openP M = (0, some [], (M1.drop ln).2) := by
        unfold openP
        rw [hsz, Int.toNat_natCast, e1]
        simp only [e2]
        rfl
      refine ⟨0, _, e, ⟨Nat.zero_le _, Or.inl rfl, ?_, ⟨o2, none, o4, Or.inl ⟨rfl, rfl⟩⟩⟩⟩
      rw [hA1]
      exact Nat.le_of_eq rfl
/-- Behind a loss of power. -/
theorem open_found {l : List Fm} (hl : ∀ x ∈ l, x.1 < 4096) {A : Nat} {L : Option Fil} (h : Stands l A L) (fates : List Int) {M : Mod} (hf : M.fs = dir1 (wk fates 0 L)) (hc : Jo.Calm M.c) :
    ∃ n M', openP M = (0, some (frs (l.take n)), M') ∧ Found l A n M' := by
  rcases h with ⟨rfl, rfl, hA⟩ | ⟨F, rfl, hA, hF⟩
  · exact ⟨0, M, open_none hf hc hA⟩
  · have hF2 : F.ps = (((secs l).take A).map some).map settled ++ ((secs l).drop A).map fresh := by rw [hF, List.map_map]; rfl
    obtain ⟨C, hC, hps⟩ := woken_left hF2 fates 0
    by_cases hlv : F.lives fates 0
    · have e : wk fates 0 (some F) = some (F.woken fates 0) := by unfold wk; simp only; rw [if_pos hlv]
      rw [e] at hf
      exact open_file hl hA hf hc hC (by rw [hps, List.map_map]; exact List.map_id _)
    · have e : wk fates 0 (some F) = none := by unfold wk; simp only; rw [if_neg hlv]
      rw [e] at hf
      have hA0 : A = 0 := by
        rcases Nat.eq_zero_or_pos A with h0 | h0
        · exact h0
        · exfalso
          refine hlv ?_
          have hl0 : 0 < (secs l).length := by rw [secs_len]; omega
          obtain ⟨a, T, ea⟩ : ∃ a T, (secs l).take A = a :: T := by
            cases hs : (secs l).take A with
            | nil => rw [List.take_eq_nil_iff] at hs; rcases hs with hs | hs; omega; rw [hs] at hl0; cases hl0
            | cons a T => exact ⟨a, T, rfl⟩
          have := Jo.end_ge _ (Disk.mets fates 0 F.ps) rfl 0 (settled (some a)) (by rw [hF2, Jo.mets_app, ea]; rfl) rfl
          unfold Disk.Fil.lives
          simp
          exact Or.inr (by omega)
      exact ⟨0, M, open_none hf hc hA0⟩
/-- Without one. -/
theorem open_holds {l : List Fm} (hl : ∀ x ∈ l, x.1 < 4096) {M : Mod} (h : Holds l M) : ∃ n M', openP M = (0, some (frs (l.take n)), M') ∧ Found l (l.length + 1) n M' := by
  obtain ⟨hc, L, hf, ⟨rfl, rfl⟩ | ⟨F, rfl, hF⟩⟩ := h
  · obtain ⟨h1, h2⟩ := open_none (l := []) hf hc rfl
    exact ⟨0, M, h1, ⟨h2.le, h2.last, h2.ge, h2.holds⟩⟩
  · refine open_file hl (Nat.le_refl _) (C := []) hf hc Jo.Left.nil ?_
    rw [hF, List.take_of_length_le (by rw [secs_len]; exact Nat.le_refl _), List.append_nil]
/-! ### laying -/
theorem Stands.le {l : List Fm} {A : Nat} {L : Option Fil} (h : Stands l A L) : A ≤ l.length + 1 := by
  rcases h with ⟨_, _, h⟩ | ⟨_, _, h, _⟩
  · omega
  · exact h
theorem Stands.len {l : List Fm} {A : Nat} {F : Fil} (h : Stands l A (some F)) : F.ps.length = l.length + 1 := by
  rcases h with ⟨_, h, _⟩ | ⟨G, h, hA, hF⟩
  · cases h
  · cases h
    rw [hF, List.length_append, List.length_map, List.length_map, ← List.length_append, List.take_append_drop, secs_len]
theorem drop_snoc {α : Type} {l : List α} {A : Nat} (h : A ≤ l.length) (x : α) : (l ++ [x]).take A = l.take A ∧ (l ++ [x]).drop A = l.drop A ++ [x] := ⟨List.take_append_of_le_length h, List.drop_append_of_le_length h⟩
theorem write_end {F : Fil} (s : List UInt8) : (F.write F.ps.length s).ps = F.ps ++ [fresh s] := by unfold Disk.Fil.write; rw [if_pos rfl]; rfl
/-- The top that is written where there is no file. -/
theorem stands_top : Stands [] 0 (some (((none : Option Fil).getD Disk.emptyFil).write 0 topL)) := by
  refine Or.inr ⟨_, rfl, Nat.zero_le _, ?_⟩
  have := write_end (F := Disk.emptyFil) topL
  exact this
/-- The next frame. -/
theorem Stands.lay {l : List Fm} {A : Nat} {F : Fil} (h : Stands l A (some F)) (x : Fm) : Stands (l ++ [x]) A (some (F.write (1 + l.length) (secOf (frs l) x))) := by
  have hlen := h.len
  rcases h with ⟨_, h, _⟩ | ⟨G, h, hA, hF⟩
  · cases h
  · cases h
    refine Or.inr ⟨_, rfl, by rw [List.length_append]; show A ≤ l.length + 1 + 1; omega, ?_⟩
    rw [show 1 + l.length = F.ps.length by omega, write_end, secs_snoc]
    obtain ⟨e1, e2⟩ := drop_snoc (l := secs l) (A := A) (by rw [secs_len]; exact hA) (secOf (frs l) x)
    rw [e1, e2, List.map_append, ← List.append_assoc, hF]
    rfl
theorem Stands.sync {l : List Fm} {A : Nat} {F : Fil} (h : Stands l A (some F)) : Stands l (l.length + 1) (some F.sync) := by
  rcases h with ⟨_, h, _⟩ | ⟨G, h, hA, hF⟩
  · cases h
  · cases h
    refine Or.inr ⟨_, rfl, Nat.le_refl _, ?_⟩
    rw [List.take_of_length_le (by rw [secs_len]; omega), List.drop_eq_nil_of_le (by rw [secs_len]; omega)]
    show F.ps.map _ = _
    rw [hF, List.map_append, List.map_map, List.map_map, List.map_nil, List.append_nil]
    have e : secs l = (secs l).take A ++ (secs l).drop A := (List.take_append_drop _ _).symm
    conv => rhs; rw [e, List.map_append]
    rfl
/-- Fewer frames, nothing safe. -/
theorem Stands.cut {l : List Fm} {F : Fil} (h : Stands l 0 (some F)) {k : Nat} (hk : k ≤ l.length) : Stands (l.take k) 0 (some (F.cut (1 + k))) := by
  rcases h with ⟨_, h, _⟩ | ⟨G, h, hA, hF⟩
  · cases h
  · cases h
    refine Or.inr ⟨_, rfl, Nat.zero_le _, ?_⟩
    rw [List.take_zero, List.drop_zero, List.map_nil, List.nil_append] at hF ⊢
    show F.ps.take (1 + k) = _
    rw [hF, ← List.map_take, secs_take hk, Nat.add_comm]
/-! ### the calls -/
/-- What Add leaves, whatever the disk answers. -/
def AddW (l : List Fm) (A : Nat) (x : Fm) (M : Mod) (X : Int × List Fr × Mod) : Prop :=
  (X.1 = 0 ∧ X.2.1 = frs (l ++ [x]) ∧ (∃ L', X.2.2.fs = dir1 L' ∧ Stands (l ++ [x]) A L' ∧ L' ≠ none) ∧ (Jo.Calm M.c ∧ ((l.length + 1 : Nat) : Int) < M.c.room → Jo.Calm X.2.2.c ∧ X.2.2.c.room = M.c.room))
  ∨ (X.1 ≠ 0 ∧ ¬ (Jo.Calm M.c ∧ ((l.length + 1 : Nat) : Int) < M.c.room) ∧ ∃ L', X.2.2.fs = dir1 L' ∧ Stands l A L')
/-- Add, whatever the disk answers. -/
theorem add_way {l : List Fm} {A : Nat} {L : Option Fil} (h : Stands l A L) {M : Mod} (hf : M.fs = dir1 L) (x : Fm) (hx : x.1 < 4096) :
    AddW l A x M (addP (frs l) x.1 (pgL x.2.1) x.2.2 M) := by
  have hfr : ∀ {M1 : Mod} {F : Fil}, Stands l A (some F) → M1.fs = dir1 (some F) →
      AddW l A x M1 (frameP (frs l) x.1 (pgL x.2.1) x.2.2 M1) := by
    intro M1 F hS hf1
    have hlen := hS.len
    obtain ⟨hd1, hd2⟩ := does_write hf1 (k := 1 + (frs l).length) (sec_len (frs l) x)
    unfold frameP AddW
    have e0 : frameL (lgOf (frs l)) x.1 (pgL x.2.1) x.2.2 = secOf (frs l) x := rfl
    rw [e0, frs_snoc]
    have hlay := hS.lay x
    rw [← frs_len l] at hlay
    generalize M1.write ln ((1 + (frs l).length : Nat) : Int) (secOf (frs l) x) = Y at *
    simp only [Option.getD_some] at hd1 hd2
    simp only
    generalize F.write (1 + (frs l).length) (secOf (frs l) x) = G at *
    have hok : Jo.Calm M1.c ∧ ((l.length + 1 : Nat) : Int) < M1.c.room → Y.1 = 0 ∧ Jo.Calm Y.2.c ∧ Y.2.c.room = M1.c.room := fun hcr => hd2 hcr.1 ⟨by
        show 1 + (frs l).length ≤ F.ps.length
        rw [frs_len]; omega, Or.inr (by
        show ((F.ps.length : Nat) : Int) < _
        rw [hlen]; exact hcr.2)⟩
    rcases hd1 with ⟨h1, h2⟩ | ⟨h1, h2⟩
    · exact Or.inr ⟨h1, fun hcr => h1 (hok hcr).1, _, h2, hS⟩
    · exact Or.inl ⟨h1, if_pos h1, ⟨_, h2, hlay, by simp⟩, fun hcr => (hok hcr).2⟩
  have hadd : addP (frs l) x.1 (pgL x.2.1) x.2.2 M = if (topP M).1 ≠ 0 then ((topP M).1, frs l, (topP M).2) else frameP (frs l) x.1 (pgL x.2.1) x.2.2 (topP M).2 := by
    unfold addP
    rw [if_neg (by rw [pgL_len]; omega), Int.toNat_natCast]
  rw [hadd]
  have hsz : M.size ln = szO L := size_l hf
  cases hL : L with
  | some F =>
    subst hL
    have e : topP M = (0, M) := by
      unfold topP
      rw [hsz, if_neg (by show ¬ ((F.ps.length : Nat) : Int) < 0; omega)]
    rw [e, if_neg (fun h => h rfl)]
    exact hfr h hf
  | none =>
    subst hL
    have e : topP M = M.write ln 0 topL := by
      unfold topP
      rw [hsz, if_pos (by decide)]
    rw [e]
    have hl0 : l = [] ∧ A = 0 := by
      rcases h with ⟨h1, _, h2⟩ | ⟨F, h1, _⟩
      · exact ⟨h1, h2⟩
      · cases h1
    obtain ⟨rfl, rfl⟩ := hl0
    have ht : topL.length = 256 := by unfold topL; rw [Seal.seal_len, List.length_replicate]
    have hdo := does_write hf (k := 0) ht
    rw [show ((0 : Nat) : Int) = 0 from rfl] at hdo
    obtain ⟨hd1, hd2⟩ := hdo
    have hst := stands_top
    generalize M.write ln 0 topL = Y at *
    generalize ((none : Option Fil).getD Disk.emptyFil).write 0 topL = T at *
    have hok : Jo.Calm M.c ∧ ((([] : List Fm).length + 1 : Nat) : Int) < M.c.room → Y.1 = 0 ∧ Jo.Calm Y.2.c ∧ Y.2.c.room = M.c.room := fun hcr => hd2 hcr.1 ⟨Nat.zero_le _, Or.inr (by
      have h2 : (1 : Int) < M.c.room := hcr.2
      show ((0 : Nat) : Int) < _
      omega)⟩
    rcases hd1 with ⟨h1, h2⟩ | ⟨h1, h2⟩
    · rw [if_pos h1]
      exact Or.inr ⟨h1, fun hcr => h1 (hok hcr).1, none, h2, h⟩
    · rw [if_neg (by rw [h1]; exact fun h => h rfl)]
      rcases hfr (M1 := Y.2) hst h2 with ⟨h3, h4, h5, h6⟩ | ⟨h3, h4, h5⟩
      · refine Or.inl ⟨h3, h4, h5, fun hcr => ?_⟩
        obtain ⟨o1, o2, o3⟩ := hok hcr
        obtain ⟨p1, p2⟩ := h6 ⟨o2, by rw [o3]; exact hcr.2⟩
        exact ⟨p1, p2.trans o3⟩
      · refine Or.inr ⟨h3, fun hcr => h4 ?_, h5⟩
        obtain ⟨o1, o2, o3⟩ := hok hcr
        exact ⟨o2, by rw [o3]; exact hcr.2⟩
/-- Sync, of a log that has frames. -/
theorem sync_way {l : List Fm} {A : Nat} {L : Option Fil} (h : Stands l A L) {M : Mod} (hf : M.fs = dir1 L) (hL : L ≠ none) :
    ((syncM M).1 = 0 ∧ ∃ L', (syncM M).2.fs = dir1 L' ∧ Stands l (l.length + 1) L' ∧ L' ≠ none) ∨ ((syncM M).1 ≠ 0 ∧ ∃ L', (syncM M).2.fs = dir1 L' ∧ Stands l A L' ∧ L' ≠ none) := by
  cases L with
  | none => exact absurd rfl hL
  | some F =>
    have e : syncM M = M.sync ln := by
      unfold syncM
      rw [size_l hf, if_neg (by show ¬ ((F.ps.length : Nat) : Int) < 0; omega)]
    rw [e]
    obtain ⟨hd1, hd2⟩ := does_sync hf
    generalize M.sync ln = Y at *
    rcases hd1 with ⟨h1, h2⟩ | ⟨h1, h2⟩
    · exact Or.inr ⟨h1, _, h2, h, hL⟩
    · exact Or.inl ⟨h1, _, h2, h.sync, by simp⟩
/-- Of a calm disk. -/
theorem sync_ok {l : List Fm} {A : Nat} {L : Option Fil} (h : Stands l A L) {M : Mod} (hf : M.fs = dir1 L) (hc : Jo.Calm M.c) :
    (syncM M).1 = 0 ∧ Jo.Calm (syncM M).2.c ∧ (syncM M).2.c.room = M.c.room ∧ ∃ L' A', (syncM M).2.fs = dir1 L' ∧ Stands l A' L' ∧ (l ≠ [] → A' = l.length + 1) := by
  cases L with
  | none =>
    have e : syncM M = (0, M) := by
      unfold syncM
      rw [size_l hf]
      exact if_pos (by decide)
    rw [e]
    refine ⟨rfl, hc, rfl, none, A, hf, h, fun hl => ?_⟩
    rcases h with ⟨h1, _⟩ | ⟨F, h1, _⟩
    · exact absurd h1 hl
    · cases h1
  | some F =>
    have e : syncM M = M.sync ln := by
      unfold syncM
      rw [size_l hf, if_neg (by show ¬ ((F.ps.length : Nat) : Int) < 0; omega)]
    rw [e]
    obtain ⟨hd1, hd2⟩ := does_sync hf
    obtain ⟨o1, o2, o3⟩ := hd2 hc (by simp)
    generalize M.sync ln = Y at *
    rcases hd1 with ⟨h1, h2⟩ | ⟨h1, h2⟩
    · exact absurd o1 h1
    · exact ⟨o1, o2, o3, _, _, h2, h.sync, fun _ => rfl⟩
/-- Back, of a calm disk on which nothing is safe. -/
theorem back_ok {l : List Fm} {L : Option Fil} (h : Stands l 0 L) {M : Mod} (hf : M.fs = dir1 L) (hc : Jo.Calm M.c) {k : Nat} (hk : k ≤ l.length) :
    (backP (frs l) k M).1 = 0 ∧ (backP (frs l) k M).2.1 = frs (l.take k) ∧ Jo.Calm (backP (frs l) k M).2.2.c ∧ (backP (frs l) k M).2.2.c.room = M.c.room ∧ ∃ L', (backP (frs l) k M).2.2.fs = dir1 L' ∧ Stands (l.take k) 0 L' := by
  have hfl := frs_len l
  by_cases hkl : k = l.length
  · have e : backP (frs l) k M = (0, frs l, M) := by
      unfold backP
      rw [if_neg (by omega), if_pos (by rw [hfl, hkl])]
    rw [e, hkl, List.take_length]
    exact ⟨rfl, rfl, hc, rfl, L, hf, h⟩
  · have e : backP (frs l) k M = ((M.cut ln (1 + k : Nat)).1, (if (M.cut ln (1 + k : Nat)).1 = 0 then (frs l).take k else frs l), (M.cut ln (1 + k : Nat)).2) := by
      unfold backP
      rw [if_neg (by omega), if_neg (by omega)]
      rfl
    cases L with
    | none =>
      rcases h with ⟨h1, _⟩ | ⟨F, h1, _⟩
      · rw [h1] at hk hkl; simp at hk hkl; omega
      · cases h1
    | some F =>
      have hlen := h.len
      obtain ⟨hd1, hd2⟩ := does_cut hf (1 + k)
      obtain ⟨o1, o2, o3⟩ := hd2 hc ⟨F, rfl, by omega⟩
      have hcut := h.cut hk
      rw [e]
      generalize M.cut ln ((1 + k : Nat) : Int) = Y at *
      rcases hd1 with ⟨h1, h2⟩ | ⟨h1, h2⟩
      · exact absurd o1 h1
      · exact ⟨o1, by simp only [o1, if_true]; exact (frs_take hk).symm, o2, o3, _, h2, hcut⟩
theorem back_arg {l : List Fm} {M : Mod} {k : Int} (h : k < 0 ∨ (l.length : Int) < k) : backP (frs l) k M = (1, frs l, M) := by
  unfold backP
  rw [frs_len, if_pos h]
/-- End, of a calm disk: no frames, no file. -/
theorem end_ok {fs : List Fr} {L : Option Fil} {M : Mod} (hf : M.fs = dir1 L) (hc : Jo.Calm M.c) : (endP fs M).1 = 0 ∧ (endP fs M).2.1 = [] ∧ (endP fs M).2.2.fs = dir1 none := by
  unfold endP
  rw [size_l hf]
  cases L with
  | none =>
    rw [if_pos (by decide)]
    exact ⟨rfl, rfl, hf⟩
  | some F =>
    rw [if_neg (by show ¬ ((F.ps.length : Nat) : Int) < 0; omega)]
    obtain ⟨hd1, hd2⟩ := does_drop hf
    obtain ⟨o1, o2, o3⟩ := hd2 hc (by simp)
    rcases hd1 with ⟨h1, h2⟩ | ⟨h1, h2⟩
    · exact absurd o1 h1
    · exact ⟨o1, if_pos o1, h2⟩
theorem new_dir (r : Int) : (Disk.Mod.new r).fs = dir1 none := rfl
theorem new_calm (r : Int) : Jo.Calm (Disk.Mod.new r).c := ⟨rfl, rfl⟩
theorem stands_none : Stands [] 0 none := Or.inl ⟨rfl, rfl, rfl⟩
end Lo
end Go.Proofs.YtgmbiiocjhkpdaaGreat

/-
  The project's log and the reference's, plainly: their calls answer and leave the same.
-/
namespace Go.Proofs.YtgmbiiocjhkpdaaGreat
open Go.RowKit
namespace Lo
open Disk (Mod Fil Plc Sec Nam Dir Ctl)
open Jo (lenO psO szO okB kK kN kS kD)
/-- What Open of the one and of the other have found of the first i sectors. -/
structure Rel (i : Nat) (fs : List Fr) (st : Nat) (f : LgS) : Prop where
  ns : f.ns = fs.map (·.1)
  len : fs.length = i - 1
  ss : f.ss = if i = 0 then [] else sumL topL :: fs.map (·.2)
  st : st = if i = 0 then 0 else f.sure + 1
  right : f.right = decide (0 < i)
  sure : f.sure ≤ fs.length
theorem rel0 : Rel 0 [] 0 g0 := ⟨rfl, rfl, rfl, rfl, rfl, Nat.le_refl _⟩
theorem getD_last (x : Nat) (l : List Nat) : (x :: l).getD l.length 0 = (x :: l).getLastD 0 := by
  rw [List.getD_eq_getElem?_getD, List.getLastD_eq_getLast?, List.getLast?_eq_getElem?]
  simp
/-- A torn sector is read as nothing. -/
theorem read_torn {M : Mod} {i : Int} (h : (M.read ln i).2.1 = 13) : (M.read ln i).1 = [] := by
  unfold Disk.Mod.read at h ⊢
  split
  · rfl
  · rename_i h1
    rw [if_neg h1] at h
    simp only at h ⊢
    unfold Disk.readD at h ⊢
    cases hF : Disk.get? M.fs ln with
    | none => rfl
    | some F =>
      rw [hF] at h
      simp only at h ⊢
      unfold Disk.Fil.read at h ⊢
      split
      · rfl
      · rename_i h2
        rw [if_neg h2] at h
        cases hp : F.ps[i.toNat]? with
        | none => rfl
        | some p =>
          rw [hp] at h
          simp only at h ⊢
          cases hn : p.now with
          | none => rfl
          | some s => rw [hn] at h; cases h
theorem takeP_nil (i : Nat) (fs : List Fr) : takeP i fs [] = none := by
  unfold takeP
  split
  · rw [if_neg (by intro h; have := congrArg List.length h; rw [show topL.length = 256 from by unfold topL; rw [Seal.seal_len, List.length_replicate]] at this; cases this)]
  · rw [if_pos (by rfl)]
theorem take_same {i : Nat} {fs : List Fr} {st : Nat} {f : LgS} (h : Rel i fs st f) (s : List UInt8) :
    (takeP i fs s = none ∧ takeL i f s = none) ∨ ∃ gs c g, takeP i fs s = some (gs, c) ∧ takeL i f s = some g ∧ Rel (i + 1) gs (if c then i + 1 else st) g ∧ (i ≠ 0 → okB s = true) := by
  unfold takeP takeL
  by_cases hi : i = 0
  · subst hi
    rw [if_pos rfl, if_pos rfl]
    by_cases hs : s = topL
    · rw [if_pos hs, if_pos hs]
      have hfs : fs = [] := List.eq_nil_of_length_eq_zero h.len
      subst hfs
      subst hs
      exact Or.inr ⟨[], true, _, rfl, rfl, ⟨rfl, rfl, rfl, rfl, rfl, Nat.le_refl _⟩, fun e => absurd rfl e⟩
    · rw [if_neg hs, if_neg hs]
      exact Or.inl ⟨rfl, rfl⟩
  · rw [if_neg hi, if_neg hi]
    by_cases hok : okB s = false
    · rw [if_pos hok, if_pos hok]
      exact Or.inl ⟨rfl, rfl⟩
    · rw [if_neg hok, if_neg hok]
      have hss : f.ss = sumL topL :: fs.map (·.2) := by rw [h.ss, if_neg hi]
      have hsum : f.ss.getD (i - 1) 0 = sumP fs := by
        rw [hss, ← h.len]
        have := getD_last (sumL topL) (fs.map (·.2))
        rw [List.length_map] at this
        exact this
      rw [hsum]
      by_cases hb : (kK s ≠ 5 ∧ kK s ≠ 6) ∨ 4096 ≤ kN s ∨ kS s ≠ sumP fs
      · rw [if_pos hb, if_pos hb]
        exact Or.inl ⟨rfl, rfl⟩
      · rw [if_neg hb, if_neg hb]
        have hst : st = f.sure + 1 := by rw [h.st, if_neg hi]
        have hl := h.len
        have hln : f.ns.length = fs.length := by rw [h.ns, List.length_map]
        refine Or.inr ⟨_, _, _, rfl, rfl, ⟨?_, ?_, ?_, ?_, ?_, ?_⟩, fun _ => by simpa using hok⟩
        · rw [h.ns, List.map_append]; rfl
        · rw [List.length_append]; show fs.length + 1 = i + 1 - 1; omega
        · rw [if_neg (Nat.succ_ne_zero i), hss, List.map_append]; rfl
        · rw [if_neg (Nat.succ_ne_zero i)]
          by_cases h6 : kK s = 6
          · simp only [h6, decide_true, if_true]
            omega
          · simp only [h6, decide_false, if_false]
            exact hst
        · show f.right = _
          rw [h.right]
          simp
          omega
        · show (if kK s = 6 then f.ns.length + 1 else f.sure) ≤ (fs ++ [(kN s, sumL s)]).length
          rw [List.length_append, hln]
          show _ ≤ fs.length + 1
          have := h.sure
          split <;> omega
/-- The frames that stand in the file: each can be read. -/
def OkAt (n : Nat) (L : Option Fil) : Prop := ∀ i, i < n → ∃ p s, (psO L)[i + 1]? = some p ∧ p.now = some s ∧ okB s = true
theorem read_fs (M : Mod) (i : Int) : (M.read ln i).2.2.fs = M.fs := by
  unfold Disk.Mod.read
  split <;> rfl
theorem size_fs {M M' : Mod} (h : M'.fs = M.fs) : M'.size ln = M.size ln := by
  unfold Disk.Mod.size
  rw [h]
/-- What a read gave stands there. -/
theorem read_at {M : Mod} {L : Option Fil} (hf : M.fs = dir1 L) {i : Nat} (h0 : (M.read ln i).2.1 = 0) : ∃ p, (psO L)[i]? = some p ∧ p.now = some (M.read ln i).1 := by
  unfold Disk.Mod.read at h0 ⊢
  split
  · rename_i h1
    rw [if_pos h1] at h0
    exact absurd h0 h1
  · rename_i h1
    rw [if_neg h1] at h0
    simp only at h0 ⊢
    unfold Disk.readD at h0 ⊢
    rw [hf, get_l] at h0 ⊢
    cases L with
    | none => cases h0
    | some F =>
      simp only at h0 ⊢
      unfold Disk.Fil.read at h0 ⊢
      rw [if_neg (by omega), Int.toNat_natCast] at h0 ⊢
      cases hp : F.ps[i]? with
      | none => rw [hp] at h0; cases h0
      | some p =>
        rw [hp] at h0
        simp only at h0 ⊢
        refine ⟨p, hp, ?_⟩
        cases hn : p.now with
        | none => rw [hn] at h0; cases h0
        | some s => rfl
theorem read_same : ∀ (k i : Nat) (fs : List Fr) (st : Nat) (f : LgS) (M : Mod) (L : Option Fil), M.fs = dir1 L → Rel i fs st f → OkAt fs.length L →
    (readP k i fs st M).1 = (openN k i f M).1 ∧ (readP k i fs st M).2.2.2 = (openN k i f M).2.2 ∧ (readP k i fs st M).2.2.2.fs = dir1 L ∧
      ((readP k i fs st M).1 = 0 → OkAt (readP k i fs st M).2.1.length L ∧ ∃ j, Rel j (readP k i fs st M).2.1 (readP k i fs st M).2.2.1 (openN k i f M).2.1 ∧ j ≤ i + k)
  | 0, i, fs, st, f, M, L, hf, h, hk => ⟨rfl, rfl, hf, fun _ => ⟨hk, i, h, Nat.le_refl _⟩⟩
  | k + 1, i, fs, st, f, M, L, hf, h, hk => by
    have hf2 : (M.read ln i).2.2.fs = dir1 L := (read_fs M i).trans hf
    unfold readP openN
    by_cases h1 : (M.read ln i).2.1 ≠ 0 ∧ (M.read ln i).2.1 ≠ 13
    · rw [if_pos h1, if_pos h1]
      exact ⟨rfl, rfl, hf2, fun e => absurd e h1.1⟩
    · rw [if_neg h1, if_neg h1]
      by_cases h13 : (M.read ln i).2.1 = 13
      · rw [if_pos h13, read_torn h13, takeP_nil]
        exact ⟨rfl, rfl, hf2, fun _ => ⟨hk, i, h, by omega⟩⟩
      · rw [if_neg h13]
        have h0 : (M.read ln i).2.1 = 0 := by
          by_cases h0 : (M.read ln i).2.1 = 0
          · exact h0
          · exact absurd ⟨h0, h13⟩ h1
        rcases take_same h (M.read ln i).1 with ⟨e1, e2⟩ | ⟨gs, c, g, e1, e2, hr, hok⟩
        · rw [e1, e2]
          exact ⟨rfl, rfl, hf2, fun _ => ⟨hk, i, h, by omega⟩⟩
        · rw [e1, e2]
          have hk2 : OkAt gs.length L := by
            intro j hj
            have hl1 := hr.len
            have hl0 := h.len
            by_cases hjf : j < fs.length
            · exact hk j hjf
            · have hji : j + 1 = i := by omega
              obtain ⟨p, hp, hpn⟩ := read_at hf h0
              exact ⟨p, _, by rw [hji]; exact hp, hpn, hok (by omega)⟩
          obtain ⟨k1, k2, k3, k4⟩ := read_same k (i + 1) gs _ g _ L hf2 hr hk2
          refine ⟨k1, k2, k3, fun e => ?_⟩
          obtain ⟨k5, j, k6, k7⟩ := k4 e
          exact ⟨k5, j, k6, by omega⟩
/-- Both logs hold the same frames, and the file has them. -/
structure SL (fs : List Fr) (l : Lg) (M : Mod) : Prop where
  ns : l.ns = fs.map (·.1)
  dir : ∃ L, M.fs = dir1 L ∧ OkAt fs.length L ∧ (L = none → fs = []) ∧ (∀ F, L = some F → l.ss = sumL topL :: fs.map (·.2) ∧ F.ps.length = fs.length + 1)
theorem okAt_take {n k : Nat} {F : Fil} (h : OkAt n (some F)) (hk : k ≤ n) : OkAt k (some (F.cut (k + 1))) := by
  intro i hi
  obtain ⟨p, s, h1, h2, h3⟩ := h i (by omega)
  refine ⟨p, s, ?_, h2, h3⟩
  show (F.ps.take (k + 1))[i + 1]? = some p
  rw [List.getElem?_take_of_lt (by omega)]
  exact h1
theorem okAt_ps {n : Nat} {F : Fil} (h : OkAt n (some F)) (hn : 0 < n) : n + 1 ≤ F.ps.length := by
  obtain ⟨p, s, h1, _⟩ := h (n - 1) (by omega)
  have := (List.getElem?_eq_some_iff.1 h1).1
  have e : n - 1 + 1 = n := by omega
  rw [e] at this
  exact this
/-- What Open leaves: the same error, the same disk; where there is none, the same frames. -/
theorem open_same {M : Mod} {L : Option Fil} (hf : M.fs = dir1 L) :
    (openP M).1 = (openM M).1 ∧ (openP M).2.2 = (openM M).2.2 ∧ ((openP M).1 = 0 → ∃ fs l, (openP M).2.1 = some fs ∧ (openM M).2.1 = some l ∧ SL fs l (openP M).2.2) ∧ ((openP M).1 ≠ 0 → (openP M).2.1 = none ∧ ∃ L', (openP M).2.2.fs = dir1 L') := by
  have hsz := size_l hf
  cases L with
  | none =>
    have h1 : M.size ln = -1 := hsz
    have e1 : openP M = (0, some [], M) := by
      have r1 : readP (M.size ln).toNat 0 [] 0 M = (0, [], 0, M) := by rw [h1]; rfl
      have r2 : trimP 0 M = (0, M) := by unfold trimP; rw [h1, if_neg (by omega), if_neg (by omega)]
      unfold openP
      rw [r1]
      simp only [r2]
      rfl
    have e2 : openM M = (0, some lg0, M) := by
      unfold openM
      rw [h1, if_pos (by omega)]
    rw [e1, e2]
    exact ⟨rfl, rfl, fun _ => ⟨[], lg0, rfl, rfl, rfl, none, hf, fun i hi => absurd hi (Nat.not_lt_zero _), fun _ => rfl, fun F e => (by cases e)⟩, fun e => absurd rfl e⟩
  | some G =>
    have h1 : M.size ln = (G.ps.length : Int) := hsz
    have hn : (M.size ln).toNat = G.ps.length := by rw [h1, Int.toNat_natCast]
    obtain ⟨r1, r2, r3, r4⟩ := read_same G.ps.length 0 [] 0 g0 M (some G) hf rel0 (fun i hi => absurd hi (Nat.not_lt_zero _))
    have hP : openP M = (let R := readP G.ps.length 0 [] 0 M
        let T := trimP R.2.2.1 R.2.2.2
        if R.1 ≠ 0 then (R.1, none, R.2.2.2) else if T.1 ≠ 0 then (T.1, none, T.2) else (0, some (R.2.1.take (R.2.2.1 - 1)), T.2)) := by
      unfold openP
      rw [hn]
    have hM : openM M = if (openN G.ps.length 0 g0 M).1 ≠ 0 then ((openN G.ps.length 0 g0 M).1, none, (openN G.ps.length 0 g0 M).2.2) else openE (M.size ln) (openN G.ps.length 0 g0 M).2.1 (openN G.ps.length 0 g0 M).2.2 := by
      unfold openM
      rw [hn, if_neg (by omega)]
    rw [hP, hM]
    generalize openN G.ps.length 0 g0 M = N at *
    generalize readP G.ps.length 0 [] 0 M = R at *
    obtain ⟨e, fs, st, M1⟩ := R
    obtain ⟨e', f, M1'⟩ := N
    simp only at r1 r2 r3 r4 ⊢
    subst r1
    subst r2
    by_cases he : e = 0
    · subst he
      have hz : ¬ ((0 : Int) ≠ 0) := fun h => h rfl
      rw [if_neg hz, if_neg hz]
      obtain ⟨hok, i, hr, hile⟩ := r4 rfl
      have hsz1 : M1.size ln = (G.ps.length : Int) := size_l r3
      rw [h1]
      by_cases hi : i = 0
      · subst hi
        have hst : st = 0 := hr.st
        have hfs : fs = [] := List.eq_nil_of_length_eq_zero hr.len
        subst hst
        subst hfs
        have hright : f.right = false := hr.right
        have eT : trimP 0 M1 = M1.drop ln := by unfold trimP; rw [hsz1, if_pos ⟨by omega, rfl⟩]
        have eE : openE (G.ps.length : Int) f M1 = ((M1.drop ln).1, some lg0, (M1.drop ln).2) := if_pos hright
        rw [eT, eE]
        obtain ⟨hd1, -⟩ := does_drop r3
        generalize M1.drop ln = Y at *
        rcases hd1 with ⟨h2, h3⟩ | ⟨h2, h3⟩
        · rw [if_pos h2]
          exact ⟨rfl, rfl, fun e => absurd e h2, fun _ => ⟨rfl, _, h3⟩⟩
        · rw [if_neg (by rw [h2]; exact fun h => h rfl)]
          exact ⟨h2.symm, rfl, fun _ => ⟨[], lg0, rfl, rfl, rfl, none, h3, fun i hi => absurd hi (Nat.not_lt_zero _), fun _ => rfl, fun F e => (by cases e)⟩, fun e => absurd rfl e⟩
      · have hst : st = f.sure + 1 := by rw [hr.st, if_neg hi]
        have hright : f.right = true := by rw [hr.right]; exact decide_eq_true (by omega)
        have hsu := hr.sure
        have hss : f.ss = sumL topL :: fs.map (·.2) := by rw [hr.ss, if_neg hi]
        have hns : (cutLg f).ns = (fs.take f.sure).map (·.1) := by show f.ns.take f.sure = _; rw [hr.ns, List.map_take]
        have hsl : (cutLg f).ss = sumL topL :: (fs.take f.sure).map (·.2) := by show f.ss.take (f.sure + 1) = _; rw [hss, List.take_succ_cons, List.map_take]
        have htl : (fs.take f.sure).length = f.sure := by rw [List.length_take]; omega
        subst hst
        have ecast : ((f.sure + 1 : Nat) : Int) = (f.sure : Int) + 1 := rfl
        have hrn : ¬ f.right = false := by rw [hright]; decide
        have hbool : ¬ (0 ≤ (G.ps.length : Int) ∧ f.sure + 1 = 0) := by omega
        rw [Nat.add_sub_cancel]
        by_cases hc : (f.sure : Int) + 1 < (G.ps.length : Int)
        · have eT : trimP (f.sure + 1) M1 = M1.cut ln ((f.sure + 1 : Nat) : Int) := by unfold trimP; rw [hsz1, if_neg hbool, if_pos (by omega)]
          have eE : openE (G.ps.length : Int) f M1 = ((M1.cut ln ((f.sure + 1 : Nat) : Int)).1, some (cutLg f), (M1.cut ln ((f.sure + 1 : Nat) : Int)).2) := by unfold openE; rw [if_neg hrn, if_pos hc]
          rw [eT, eE]
          obtain ⟨hd1, -⟩ := does_cut r3 (f.sure + 1)
          generalize M1.cut ln ((f.sure + 1 : Nat) : Int) = Y at *
          rcases hd1 with ⟨h2, h3⟩ | ⟨h2, h3⟩
          · rw [if_pos h2]
            exact ⟨rfl, rfl, fun e => absurd e h2, fun _ => ⟨rfl, _, h3⟩⟩
          · rw [if_neg (by rw [h2]; exact fun h => h rfl)]
            refine ⟨h2.symm, rfl, fun _ => ⟨_, _, rfl, rfl, hns, some (G.cut (f.sure + 1)), h3, ?_, fun e => (by cases e), ?_⟩, fun e => absurd rfl e⟩
            · rw [htl]
              exact okAt_take hok hsu
            · intro F eF
              cases eF
              refine ⟨hsl, ?_⟩
              show (G.ps.take (f.sure + 1)).length = _
              rw [List.length_take, htl]
              omega
        · have eT : trimP (f.sure + 1) M1 = (0, M1) := by unfold trimP; rw [hsz1, if_neg hbool, if_neg (by omega)]
          have eE : openE (G.ps.length : Int) f M1 = (0, some (cutLg f), M1) := by unfold openE; rw [if_neg hrn, if_neg hc]
          rw [eT, eE, if_neg hz]
          refine ⟨rfl, rfl, fun _ => ⟨_, _, rfl, rfl, hns, some G, r3, ?_, fun e => (by cases e), ?_⟩, fun e => absurd rfl e⟩
          · rw [htl]
            intro i hi
            exact hok i (by omega)
          · intro F eF
            cases eF
            refine ⟨hsl, ?_⟩
            rw [htl]
            have := hr.len
            omega
    · rw [if_pos he, if_pos he]
      exact ⟨rfl, rfl, fun h => absurd h he, fun _ => ⟨rfl, _, r3⟩⟩
/-- Get of both. -/
theorem get_same {fs : List Fr} {l : Lg} {M : Mod} (h : SL fs l M) (n : Int) : getP fs n M = getM l n M := by
  obtain ⟨hns, L, hf, hok, -, -⟩ := h
  unfold getP getM
  have hl : l.ns.length = fs.length := by rw [hns, List.length_map]
  rw [hl, hns]
  cases hla : lastI (fs.map (·.1)) n fs.length with
  | none => rfl
  | some i =>
    simp only
    by_cases h0 : (M.read ln (i + 1 : Nat)).2.1 ≠ 0
    · rw [if_pos h0, if_pos h0]
    · have h1 : (M.read ln (i + 1 : Nat)).2.1 = 0 := Decidable.of_not_not h0
      obtain ⟨p, hp, hpn⟩ := read_at hf h1
      obtain ⟨p', s, hp', hs, hok⟩ := hok i (lastI_some hla).1
      rw [hp] at hp'
      cases hp'
      rw [hpn] at hs
      injection hs with hs
      rw [if_neg h0, if_neg h0, hs, hok, if_neg (by decide)]
      rfl
end Lo
end Go.Proofs.YtgmbiiocjhkpdaaGreat
