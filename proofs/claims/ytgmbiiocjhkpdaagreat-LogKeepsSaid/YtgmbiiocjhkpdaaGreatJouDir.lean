/-
  A disk with the files "data" and "journal" alone, plainly: what each operation does to the two.
-/
import Derived.Test.YtgmbiiocjhkpdaaGreatJouMath
namespace Go.Proofs.YtgmbiiocjhkpdaaGreat
open Go.RowKit
namespace Jo
open Disk (Mod Fil Plc Sec Nam Dir Ctl)

def jn : Nam := [106, 111, 117, 114, 110, 97, 108]
def dn : Nam := [100, 97, 116, 97]
def dir2 (D J : Option Fil) : Dir := (match D with | none => [] | some F => [(dn, F)]) ++ (match J with | none => [] | some F => [(jn, F)])
theorem get_d (D J : Option Fil) : Disk.get? (dir2 D J) dn = D := by
  cases D <;> cases J <;> simp [dir2, Disk.get?, dn, jn]
theorem get_j (D J : Option Fil) : Disk.get? (dir2 D J) jn = J := by
  cases D <;> cases J <;> simp [dir2, Disk.get?, dn, jn]
theorem before_dj : bytesBefore dn jn = true := by decide +kernel
theorem before_jd : bytesBefore jn dn = false := by decide +kernel
theorem ins_d (D J : Option Fil) (F : Fil) : Disk.ins (dir2 D J) dn F = dir2 (some F) J := by
  have h := before_dj
  have e1 : (jn == dn) = false := by decide
  have e2 : (dn == dn) = true := by decide
  cases D <;> cases J <;> simp [dir2, Disk.ins, Disk.del, Disk.insB, e1, h]
theorem ins_j (D J : Option Fil) (F : Fil) : Disk.ins (dir2 D J) jn F = dir2 D (some F) := by
  have h := before_jd
  have e1 : (dn == jn) = false := by decide
  have e2 : (jn == jn) = true := by decide
  cases D <;> cases J <;> simp [dir2, Disk.ins, Disk.del, Disk.insB, e1, h]
theorem del_j (D J : Option Fil) : Disk.del (dir2 D J) jn = dir2 D none := by
  have e1 : (dn == jn) = false := by decide
  cases D <;> cases J <;> simp [dir2, Disk.del, e1]
/-- How many sectors a file has. -/
def lenO (F : Option Fil) : Nat := match F with | none => 0 | some F => F.ps.length
def psO (F : Option Fil) : List Plc := match F with | none => [] | some F => F.ps
theorem lens_mk (D J : Option Fil) : Disk.lensD (dir2 D J) = lenO D + lenO J := by
  cases D <;> cases J <;> simp [dir2, Disk.lensD, lenO]
theorem holds_mk (D J : Option Fil) (n : Nam) : Disk.holdsB (dir2 D J) n = true := by
  unfold Disk.holdsB
  have : (dir2 D J).length < 8 := by cases D <;> cases J <;> simp [dir2]
  simp [this]
theorem fit_j : Disk.nameFit jn = true := by decide
theorem fit_d : Disk.nameFit dn = true := by decide
/-- A file's size, as a disk says it. -/
def szO (F : Option Fil) : Int := match F with | none => -1 | some F => (F.ps.length : Int)
theorem size_j {M : Mod} {D J : Option Fil} (h : M.fs = dir2 D J) : M.size jn = szO J := by
  unfold Disk.Mod.size
  rw [h, get_j]
  cases J <;> rfl
theorem size_d {M : Mod} {D J : Option Fil} (h : M.fs = dir2 D J) : M.size dn = szO D := by
  unfold Disk.Mod.size
  rw [h, get_d]
  cases D <;> rfl
theorem sz_len (F : Option Fil) : max (szO F) 0 = ((lenO F : Nat) : Int) := by
  cases F with
  | none => rfl
  | some F => simp [szO, lenO]

/-- Up, nothing armed. -/
def Calm (c : Ctl) : Prop := c.down = false ∧ c.at_ = 0
theorem calm_ref {c : Ctl} (h : Calm c) : c.refusal true = 0 := by
  have hf : c.fault = 0 := by unfold Ctl.fault; rw [h.2]; rfl
  simp [Ctl.refusal, h.1, hf]
theorem calm_beg {c : Ctl} (h : Calm c) : Calm (c.begun true) ∧ (c.begun true).room = c.room := by
  have hf : c.fault = 0 := by unfold Ctl.fault; rw [h.2]; rfl
  have e : c.begun true = { c with ops := Disk.inc c.ops } := by simp [Ctl.begun, h.1, hf, Ctl.counted, Ctl.stepped, h.2]
  rw [e]
  exact ⟨h, rfl⟩
/-- What an operation may do: it is refused, or it is done. -/
theorem run_ways (M : Mod) (f : Dir → Int × Dir) : (∃ c, M.run true f = ⟨M.c.refusal true, c, M.fs⟩ ∧ M.c.refusal true ≠ 0 ∧ ¬ Calm M.c) ∨ ∃ c, M.run true f = ⟨(f M.fs).1, c, (f M.fs).2⟩ ∧ (Calm M.c → Calm c ∧ c.room = M.c.room) := by
  unfold Disk.Mod.run
  split
  · rename_i h
    exact Or.inl ⟨_, rfl, h, fun hc => h (calm_ref hc)⟩
  · exact Or.inr ⟨_, rfl, fun hc => calm_beg hc⟩
theorem ref_vals (c : Ctl) : c.refusal true = 0 ∨ c.refusal true = 10 ∨ c.refusal true = 11 := by
  unfold Ctl.refusal
  simp only [Bool.not_true, Bool.false_eq_true, if_false]
  repeat' split
  all_goals simp

/-- What an operation leaves: the same files, and an error; or other ones, and none. What is asked of calm disks besides. -/
def Does (c : Ctl) (D J : Option Fil) (x : Int × Mod) (D' J' : Option Fil) (ok : Prop) : Prop :=
  (x.1 ≠ 0 ∧ x.1 ≠ 13 ∧ x.2.fs = dir2 D J ∨ x.1 = 0 ∧ x.2.fs = dir2 D' J') ∧ (Calm c → ok → x.1 = 0 ∧ Calm x.2.c ∧ x.2.c.room = c.room)

theorem does_write_j {M : Mod} {D J : Option Fil} (h : M.fs = dir2 D J) {k : Nat} {l : List UInt8} (hl : l.length = 256) :
    Does M.c D J (M.write jn k l) D (some ((J.getD Disk.emptyFil).write k l)) (k ≤ lenO J ∧ ((lenO D + lenO J : Nat) : Int) < M.c.room) := by
  have hfit : (Disk.nameFit jn && decide (0 ≤ (k : Int)) && decide (l.length = 256)) = true := by simp [fit_j, hl]
  unfold Disk.Mod.write
  rw [hfit]
  rcases run_ways M (Disk.writeD M.c.room jn k l) with ⟨c, e, hne, hc⟩ | ⟨c, e, hc⟩
  · rw [e]
    have := ref_vals M.c
    exact ⟨Or.inl ⟨hne, by omega, h⟩, fun hc' => absurd hc' hc⟩
  · rw [e]
    unfold Disk.writeD
    simp only [h, get_j, holds_mk, lens_mk, ins_j, Int.toNat_natCast]
    have hk : ((J.getD Disk.emptyFil).ps.length : Int) = (lenO J : Nat) := by cases J <;> simp [lenO, Disk.emptyFil]
    simp only [hk]
    refine ⟨?_, fun hcalm ⟨h1, h2⟩ => ?_⟩
    · split
      · exact Or.inl ⟨by simp, by simp, rfl⟩
      · split
        · exact Or.inl ⟨by simp, by simp, rfl⟩
        · exact Or.inr ⟨rfl, by simp⟩
    · rw [if_neg (by omega), if_neg (by rintro ⟨_, h3 | h3⟩; · cases h3
                                        · omega)]
      exact ⟨rfl, hc hcalm⟩
theorem does_write_d {M : Mod} {D J : Option Fil} (h : M.fs = dir2 D J) {k : Nat} {l : List UInt8} (hl : l.length = 256) :
    Does M.c D J (M.write dn k l) (some ((D.getD Disk.emptyFil).write k l)) J (k ≤ lenO D ∧ (k < lenO D ∨ ((lenO D + lenO J : Nat) : Int) < M.c.room)) := by
  have hfit : (Disk.nameFit dn && decide (0 ≤ (k : Int)) && decide (l.length = 256)) = true := by simp [fit_d, hl]
  unfold Disk.Mod.write
  rw [hfit]
  rcases run_ways M (Disk.writeD M.c.room dn k l) with ⟨c, e, hne, hc⟩ | ⟨c, e, hc⟩
  · rw [e]
    have := ref_vals M.c
    exact ⟨Or.inl ⟨hne, by omega, h⟩, fun hc' => absurd hc' hc⟩
  · rw [e]
    unfold Disk.writeD
    simp only [h, get_d, holds_mk, lens_mk, ins_d, Int.toNat_natCast]
    have hk : ((D.getD Disk.emptyFil).ps.length : Int) = (lenO D : Nat) := by cases D <;> simp [lenO, Disk.emptyFil]
    simp only [hk]
    refine ⟨?_, fun hcalm ⟨h1, h2⟩ => ?_⟩
    · split
      · exact Or.inl ⟨by simp, by simp, rfl⟩
      · split
        · exact Or.inl ⟨by simp, by simp, rfl⟩
        · exact Or.inr ⟨rfl, by simp⟩
    · rw [if_neg (by omega), if_neg (by rintro ⟨h4, h3 | h3⟩; · cases h3
                                        · omega)]
      exact ⟨rfl, hc hcalm⟩
theorem does_sync_j {M : Mod} {D J : Option Fil} (h : M.fs = dir2 D J) : Does M.c D J (M.sync jn) D (J.map Fil.sync) (J ≠ none) := by
  unfold Disk.Mod.sync
  rw [fit_j]
  rcases run_ways M (Disk.syncD jn) with ⟨c, e, hne, hc⟩ | ⟨c, e, hc⟩
  · rw [e]
    have := ref_vals M.c
    exact ⟨Or.inl ⟨hne, by omega, h⟩, fun hc' => absurd hc' hc⟩
  · rw [e]
    unfold Disk.syncD Disk.onD
    rw [h, get_j]
    cases J with
    | none => exact ⟨Or.inl ⟨by simp, by simp, rfl⟩, fun _ h => absurd rfl h⟩
    | some F => simp only [ins_j]; exact ⟨Or.inr ⟨rfl, rfl⟩, fun hcalm _ => ⟨rfl, hc hcalm⟩⟩
theorem does_sync_d {M : Mod} {D J : Option Fil} (h : M.fs = dir2 D J) : Does M.c D J (M.sync dn) (D.map Fil.sync) J (D ≠ none) := by
  unfold Disk.Mod.sync
  rw [fit_d]
  rcases run_ways M (Disk.syncD dn) with ⟨c, e, hne, hc⟩ | ⟨c, e, hc⟩
  · rw [e]
    have := ref_vals M.c
    exact ⟨Or.inl ⟨hne, by omega, h⟩, fun hc' => absurd hc' hc⟩
  · rw [e]
    unfold Disk.syncD Disk.onD
    rw [h, get_d]
    cases D with
    | none => exact ⟨Or.inl ⟨by simp, by simp, rfl⟩, fun _ h => absurd rfl h⟩
    | some F => simp only [ins_d]; exact ⟨Or.inr ⟨rfl, rfl⟩, fun hcalm _ => ⟨rfl, hc hcalm⟩⟩
theorem does_drop_j {M : Mod} {D J : Option Fil} (h : M.fs = dir2 D J) : Does M.c D J (M.drop jn) D none (J ≠ none) := by
  unfold Disk.Mod.drop
  rw [fit_j]
  rcases run_ways M (Disk.dropD jn) with ⟨c, e, hne, hc⟩ | ⟨c, e, hc⟩
  · rw [e]
    have := ref_vals M.c
    exact ⟨Or.inl ⟨hne, by omega, h⟩, fun hc' => absurd hc' hc⟩
  · rw [e]
    unfold Disk.dropD Disk.onD
    rw [h, get_j]
    cases J with
    | none => exact ⟨Or.inl ⟨by simp, by simp, rfl⟩, fun _ h => absurd rfl h⟩
    | some F => simp only [del_j]; exact ⟨Or.inr ⟨rfl, rfl⟩, fun hcalm _ => ⟨rfl, hc hcalm⟩⟩
theorem does_cut_d {M : Mod} {D J : Option Fil} (h : M.fs = dir2 D J) (k : Nat) : Does M.c D J (M.cut dn k) (D.map fun F => F.cut k) J (∃ F, D = some F ∧ k ≤ F.ps.length) := by
  have hfit : (decide (0 ≤ (k : Int)) && Disk.nameFit dn) = true := by simp [fit_d]
  unfold Disk.Mod.cut
  rw [hfit]
  rcases run_ways M (Disk.cutD dn k) with ⟨c, e, hne, hc⟩ | ⟨c, e, hc⟩
  · rw [e]
    have := ref_vals M.c
    exact ⟨Or.inl ⟨hne, by omega, h⟩, fun hc' => absurd hc' hc⟩
  · rw [e]
    unfold Disk.cutD Disk.onD
    rw [h, get_d]
    cases D with
    | none => exact ⟨Or.inl ⟨by simp, by simp, rfl⟩, by rintro _ ⟨F, h, _⟩; cases h⟩
    | some F =>
      simp only [ins_d]
      split
      · exact ⟨Or.inl ⟨by simp, by simp, rfl⟩, by rintro _ ⟨F', h, hk⟩; cases h; omega⟩
      · exact ⟨Or.inr ⟨rfl, by simp⟩, fun hcalm _ => ⟨rfl, hc hcalm⟩⟩
/-- A read of a sector of the journal. -/
theorem read_ways (M : Mod) (i : Nat) : (M.read jn i).2.2.fs = M.fs ∧ (((M.read jn i).2.1 ≠ 0 ∧ (M.read jn i).2.1 ≠ 13 ∧ ¬ Calm M.c ∧ (M.read jn i).1 = []) ∨ ((M.read jn i).1 = (Disk.readD jn i M.fs).1 ∧ (M.read jn i).2.1 = (Disk.readD jn i M.fs).2 ∧ (Calm M.c → Calm (M.read jn i).2.2.c ∧ (M.read jn i).2.2.c.room = M.c.room))) := by
  unfold Disk.Mod.read
  rw [fit_j]
  split
  · rename_i hr
    have := ref_vals M.c
    exact ⟨rfl, Or.inl ⟨hr, by show M.c.refusal true ≠ 13; omega, fun hc => hr (calm_ref hc), rfl⟩⟩
  · exact ⟨rfl, Or.inr ⟨rfl, rfl, fun hc => calm_beg hc⟩⟩
theorem read_is {D J : Option Fil} {i : Nat} {p : Plc} (hp : (psO J)[i]? = some p) : Disk.readD jn i (dir2 D J) = Disk.readNow p.now := by
  unfold Disk.readD Disk.Fil.read
  rw [get_j]
  cases J with
  | none => simp [psO] at hp
  | some F =>
    simp only
    have hp' : F.ps[i]? = some p := hp
    rw [if_neg (by omega), Int.toNat_natCast, hp']

/-! ### the power -/
def wk (l : List Int) (k : Nat) (F : Option Fil) : Option Fil := match F with | none => none | some F => if F.lives l k then some (F.woken l k) else none
theorem wakes_mk (l : List Int) (k : Nat) (D J : Option Fil) : ∃ k', Disk.wakes l k (dir2 D J) = dir2 (wk l k D) (wk l k' J) := by
  cases D with
  | none =>
    refine ⟨k, ?_⟩
    cases J with
    | none => rfl
    | some F => simp only [dir2, wk, Disk.wakes, List.nil_append]; split <;> simp
  | some G =>
    refine ⟨Disk.counts k G.ps, ?_⟩
    cases J with
    | none => simp only [dir2, wk, Disk.wakes, List.append_nil]; split <;> simp
    | some F => simp only [dir2, wk, Disk.wakes, List.cons_append, List.nil_append]; split <;> split <;> simp
theorem off_on (M : Mod) (l : List Int) {D J : Option Fil} (h : M.fs = dir2 D J) : Calm (M.off.on l).c ∧ (M.off.on l).c.room = M.c.room ∧ ∃ k k', (M.off.on l).fs = dir2 (wk l k D) (wk l k' J) := by
  unfold Disk.Mod.off Disk.Mod.on
  rw [if_pos (show M.c.offed.down = true from rfl)]
  obtain ⟨k', e⟩ := wakes_mk l 0 D J
  refine ⟨⟨rfl, rfl⟩, rfl, 0, k', ?_⟩
  show Disk.wakes l 0 M.fs = _
  rw [h, e]

end Jo
end Go.Proofs.YtgmbiiocjhkpdaaGreat
