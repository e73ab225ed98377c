/-
  A disk with the file "log" alone, plainly: what each operation does to it.
-/
import Derived.Test.YtgmbiiocjhkpdaaGreatLogM
import Derived.Test.YtgmbiiocjhkpdaaGreatJouCut
namespace Go.Proofs.YtgmbiiocjhkpdaaGreat
open Go.RowKit
namespace Lo
open Disk (Mod Fil Plc Sec Nam Dir Ctl)
open Jo (lenO psO szO calm_ref calm_beg run_ways ref_vals wk nows settled fresh Left woken_left)

def dir1 (L : Option Fil) : Dir := match L with | none => [] | some F => [(ln, F)]
theorem get_l (L : Option Fil) : Disk.get? (dir1 L) ln = L := by cases L <;> simp [dir1, Disk.get?, ln]
theorem ins_l (L : Option Fil) (F : Fil) : Disk.ins (dir1 L) ln F = dir1 (some F) := by
  have e2 : (ln == ln) = true := by decide
  cases L <;> simp [dir1, Disk.ins, Disk.del, Disk.insB]
theorem del_l (L : Option Fil) : Disk.del (dir1 L) ln = dir1 none := by cases L <;> simp [dir1, Disk.del]
theorem lens_l (L : Option Fil) : Disk.lensD (dir1 L) = lenO L := by cases L <;> simp [dir1, Disk.lensD, lenO]
theorem holds_l (L : Option Fil) (n : Nam) : Disk.holdsB (dir1 L) n = true := by
  unfold Disk.holdsB
  have : (dir1 L).length < 8 := by cases L <;> simp [dir1]
  simp [this]
theorem fit_l : Disk.nameFit ln = true := by decide
theorem size_l {M : Mod} {L : Option Fil} (h : M.fs = dir1 L) : M.size ln = szO L := by
  unfold Disk.Mod.size
  rw [h, get_l]
  cases L <;> rfl
theorem bytes_l {M : Mod} {F : Fil} (h : M.fs = dir1 (some F)) : M.bytes ln = F.bytes := by
  unfold Disk.Mod.bytes
  rw [h, get_l]
/-- What an operation leaves: the same file, and an error; or another one, and none. What is asked of calm disks besides. -/
def Does (c : Ctl) (L : Option Fil) (x : Int × Mod) (L' : Option Fil) (ok : Prop) : Prop :=
  (x.1 ≠ 0 ∧ x.2.fs = dir1 L ∨ x.1 = 0 ∧ x.2.fs = dir1 L') ∧ (Jo.Calm c → ok → x.1 = 0 ∧ Jo.Calm x.2.c ∧ x.2.c.room = c.room)
theorem does_write {M : Mod} {L : Option Fil} (h : M.fs = dir1 L) {k : Nat} {l : List UInt8} (hl : l.length = 256) :
    Does M.c L (M.write ln k l) (some ((L.getD Disk.emptyFil).write k l)) (k ≤ lenO L ∧ (k < lenO L ∨ ((lenO L : Nat) : Int) < M.c.room)) := by
  have hfit : (Disk.nameFit ln && decide (0 ≤ (k : Int)) && decide (l.length = 256)) = true := by simp [fit_l, hl]
  unfold Disk.Mod.write
  rw [hfit]
  rcases run_ways M (Disk.writeD M.c.room ln k l) with ⟨c, e, hne, hc⟩ | ⟨c, e, hc⟩
  · rw [e]
    exact ⟨Or.inl ⟨hne, h⟩, fun hc' => absurd hc' hc⟩
  · rw [e]
    unfold Disk.writeD
    simp only [h, get_l, holds_l, lens_l, ins_l, Int.toNat_natCast]
    have hk : ((L.getD Disk.emptyFil).ps.length : Int) = (lenO L : Nat) := by cases L <;> simp [lenO, Disk.emptyFil]
    simp only [hk]
    refine ⟨?_, fun hcalm ⟨h1, h2⟩ => ?_⟩
    · split
      · exact Or.inl ⟨by simp, rfl⟩
      · split
        · exact Or.inl ⟨by simp, rfl⟩
        · exact Or.inr ⟨rfl, by simp⟩
    · rw [if_neg (by omega), if_neg (by rintro ⟨h4, h3 | h3⟩; · cases h3
                                        · omega)]
      exact ⟨rfl, hc hcalm⟩
theorem does_sync {M : Mod} {L : Option Fil} (h : M.fs = dir1 L) : Does M.c L (M.sync ln) (L.map Fil.sync) (L ≠ none) := by
  unfold Disk.Mod.sync
  rw [fit_l]
  rcases run_ways M (Disk.syncD ln) with ⟨c, e, hne, hc⟩ | ⟨c, e, hc⟩
  · rw [e]
    exact ⟨Or.inl ⟨hne, h⟩, fun hc' => absurd hc' hc⟩
  · rw [e]
    unfold Disk.syncD Disk.onD
    rw [h, get_l]
    cases L with
    | none => exact ⟨Or.inl ⟨by simp, rfl⟩, fun _ h => absurd rfl h⟩
    | some F => simp only [ins_l]; exact ⟨Or.inr ⟨rfl, rfl⟩, fun hcalm _ => ⟨rfl, hc hcalm⟩⟩
theorem does_drop {M : Mod} {L : Option Fil} (h : M.fs = dir1 L) : Does M.c L (M.drop ln) none (L ≠ none) := by
  unfold Disk.Mod.drop
  rw [fit_l]
  rcases run_ways M (Disk.dropD ln) with ⟨c, e, hne, hc⟩ | ⟨c, e, hc⟩
  · rw [e]
    exact ⟨Or.inl ⟨hne, h⟩, fun hc' => absurd hc' hc⟩
  · rw [e]
    unfold Disk.dropD Disk.onD
    rw [h, get_l]
    cases L with
    | none => exact ⟨Or.inl ⟨by simp, rfl⟩, fun _ h => absurd rfl h⟩
    | some F => simp only [del_l]; exact ⟨Or.inr ⟨rfl, rfl⟩, fun hcalm _ => ⟨rfl, hc hcalm⟩⟩
theorem does_cut {M : Mod} {L : Option Fil} (h : M.fs = dir1 L) (k : Nat) : Does M.c L (M.cut ln k) (L.map fun F => F.cut k) (∃ F, L = some F ∧ k ≤ F.ps.length) := by
  have hfit : (decide (0 ≤ (k : Int)) && Disk.nameFit ln) = true := by simp [fit_l]
  unfold Disk.Mod.cut
  rw [hfit]
  rcases run_ways M (Disk.cutD ln k) with ⟨c, e, hne, hc⟩ | ⟨c, e, hc⟩
  · rw [e]
    exact ⟨Or.inl ⟨hne, h⟩, fun hc' => absurd hc' hc⟩
  · rw [e]
    unfold Disk.cutD Disk.onD
    rw [h, get_l]
    cases L with
    | none => exact ⟨Or.inl ⟨by simp, rfl⟩, by rintro _ ⟨F, h, _⟩; cases h⟩
    | some F =>
      simp only [ins_l]
      split
      · exact ⟨Or.inl ⟨by simp, rfl⟩, by rintro _ ⟨F', h, hk⟩; cases h; omega⟩
      · exact ⟨Or.inr ⟨rfl, by simp⟩, fun hcalm _ => ⟨rfl, hc hcalm⟩⟩
/-- A read of a sector of a calm disk. -/
theorem read_calm {M : Mod} {L : Option Fil} (h : M.fs = dir1 L) (hc : Jo.Calm M.c) {i : Nat} {p : Plc} (hp : (psO L)[i]? = some p) :
    (M.read ln i).1 = (Disk.readNow p.now).1 ∧ (M.read ln i).2.1 = (Disk.readNow p.now).2 ∧ (M.read ln i).2.2.fs = dir1 L ∧ Jo.Calm (M.read ln i).2.2.c ∧ (M.read ln i).2.2.c.room = M.c.room := by
  unfold Disk.Mod.read
  rw [fit_l, if_neg (by rw [calm_ref hc]; decide)]
  have e : Disk.readD ln i M.fs = Disk.readNow p.now := by
    unfold Disk.readD Disk.Fil.read
    rw [h, get_l]
    cases L with
    | none => simp [psO] at hp
    | some F =>
      simp only
      have hp' : F.ps[i]? = some p := hp
      rw [if_neg (by omega), Int.toNat_natCast, hp']
  rw [e]
  exact ⟨rfl, rfl, h, calm_beg hc⟩
theorem wakes_l (l : List Int) (k : Nat) (L : Option Fil) : Disk.wakes l k (dir1 L) = dir1 (wk l k L) := by
  cases L with
  | none => rfl
  | some G => simp only [dir1, wk, Disk.wakes, List.append_nil]; split <;> simp
theorem off_on (M : Mod) (l : List Int) {L : Option Fil} (h : M.fs = dir1 L) : Jo.Calm (M.off.on l).c ∧ (M.off.on l).c.room = M.c.room ∧ (M.off.on l).fs = dir1 (wk l 0 L) := by
  unfold Disk.Mod.off Disk.Mod.on
  rw [if_pos (show M.c.offed.down = true from rfl)]
  refine ⟨⟨rfl, rfl⟩, rfl, ?_⟩
  show Disk.wakes l 0 M.fs = _
  rw [h, wakes_l]
end Lo
end Go.Proofs.YtgmbiiocjhkpdaaGreat
