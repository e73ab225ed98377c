/-
  What the statements' own awake meets, plainly.
-/
import Derived.Test.YtpdpjgeoclilhaaGreatGrpJD
import Derived.Test.YtpdpjgeoclilhaaGreatJouSeal
namespace Go.Proofs.YtpdpjgeoclilhaaGreat
open Go.RowKit Go.Shelf
namespace Jo
open Num (hid)
open Disk (Mod Fil Plc Sees Stays Ctl)
open Seal (full full_size full_any)
open Mem (Bs bs tS Chg ptr blk_cell blk_free blk_new blk_set blk_other blk_alloc row_kept row_shape row_type)

def jA : Bs := 97 :: List.replicate 231 0
theorem full_a : full ⟨#[97]⟩ = bs jA := by decide +kernel
def y1 : Int × Jou × Mod := noteM 7 j0 1 jA (Mod.new 100)
def y3 : Int × Jou × Mod := noteM 7 y1.2.1 2 jA y1.2.2
def y4 : Int × Jou × Mod := sealM 3 7 y3.2.1 y3.2.2
def y5 : Int × Fnd × Mod := findM y4.2.2
def y6 : Int × Mod := dropM y5.2.2
theorem y1_ok : y1.1 = 0 ∧ y1.2.1 = ⟨[1], 0, 1⟩ := by
  have h : y1.1 = 0 ∧ y1.2.1.noted = [1] ∧ y1.2.1.feet = 0 ∧ y1.2.1.loose = 1 := by decide +kernel
  refine ⟨h.1, ?_⟩
  generalize y1.2.1 = j at h
  obtain ⟨a, b, c⟩ := j
  obtain ⟨_, rfl, rfl, rfl⟩ := h
  rfl
theorem y3_ok : y3.1 = 0 ∧ y3.2.1 = ⟨[1, 2], 0, 2⟩ := by
  have h : y3.1 = 0 ∧ y3.2.1.noted = [1, 2] ∧ y3.2.1.feet = 0 ∧ y3.2.1.loose = 2 := by decide +kernel
  refine ⟨h.1, ?_⟩
  generalize y3.2.1 = j at h
  obtain ⟨a, b, c⟩ := j
  obtain ⟨_, rfl, rfl, rfl⟩ := h
  rfl
theorem y4_ok : y4.1 = 0 ∧ y4.2.1 = ⟨[1, 2], 1, 0⟩ := by
  have h : y4.1 = 0 ∧ y4.2.1.noted = [1, 2] ∧ y4.2.1.feet = 1 ∧ y4.2.1.loose = 0 := by decide +kernel
  refine ⟨h.1, ?_⟩
  generalize y4.2.1 = j at h
  obtain ⟨a, b, c⟩ := j
  obtain ⟨_, rfl, rfl, rfl⟩ := h
  rfl
theorem y5_ok : y5.1 = 0 ∧ ansP y5 = 3 ∧ ansN y5 = true ∧ ansL y5 = [(1, jA), (2, jA)] ∧ y5.2.2.size jn = 3 := by decide +kernel
theorem y6_ok : y6.1 = 0 ∧ y6.2.size jn = -1 := by decide +kernel
theorem new_size : (Mod.new 100).size jn < 0 := by decide +kernel
end Jo
end Go.Proofs.YtpdpjgeoclilhaaGreat
