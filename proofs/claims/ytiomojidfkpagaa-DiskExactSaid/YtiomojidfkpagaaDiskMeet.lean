/-
  Contracts of the project's On: what becomes of a place; the fates.
-/
import Derived.Test.YtiomojidfkpagaaDiskSync
import Derived.RegionTactic
namespace Go.Proofs.Ytiomojidfkpagaa
open Go.RowKit
namespace Disk
open Num (hid bcells)

/-- A slice of ints, as it is read. -/
def IntsAt (w : World) (v : Value) (l : List Int) : Prop :=
  (∃ ao cap, v = .slice ao 0 cap ∧ l = []) ∨ ∃ b o cap, v = .slice (some ⟨b, o, none⟩) l.length cap ∧ b < w.heap.size ∧ ∀ j (h : j < l.length), w.cell? ⟨b, o + j, none⟩ = some (.int .i64 l[j])
theorem IntsAt.kept {w w' : World} {v : Value} {l : List Int} {F : Nat → Prop} (h : IntsAt w v l) (hc : Chg F w w') (hF : ∀ b o n cap, v = .slice (some ⟨b, o, none⟩) n cap → n ≠ 0 → ¬ F b) : IntsAt w' v l := by
  rcases h with h | ⟨b, o, cap, hv, hb, hl⟩
  · exact Or.inl h
  · exact Or.inr ⟨b, o, cap, hv, Nat.lt_of_lt_of_le hb hc.size, fun j hj => (hc.cell hb (hF b o _ cap hv (by omega))).trans (hl j hj)⟩

abbrev tInts : TypeId := 31
abbrev tInt : TypeId := 3

/-- What the closure of 'On' has captured: the fates; how many were met. -/
structure Fates (w : World) (A B : Nat) (v : Value) (l : List Int) (k : Nat) : Prop where
  ha : w.heap[A]? = some (.cells #[v] tInts (0, 0))
  hb : ∃ k' : Nat, w.heap[B]? = some (.cells #[.int .i64 k'] tInt (0, 0)) ∧ (l.length ≠ 0 → k' = k)
  ints : IntsAt w v l
  ne : A ≠ B
  nb : ∀ b o n cap, v = .slice (some ⟨b, o, none⟩) n cap → n ≠ 0 → b ≠ B

theorem Fates.kept {w w' : World} {A B : Nat} {v : Value} {l : List Int} {k : Nat} {F : Nat → Prop} (h : Fates w A B v l k) (hc : Chg F w w') (hA : ¬ F A) (hB : ¬ F B) (hF : ∀ b o n cap, v = .slice (some ⟨b, o, none⟩) n cap → n ≠ 0 → ¬ F b) : Fates w' A B v l k := by
  obtain ⟨h1, ⟨k', h2, h3⟩, h4, h5, h6⟩ := h
  exact ⟨hc.at h1 hA, ⟨k', hc.at h2 hB, h3⟩, h4.kept hc hF, h5, h6⟩

set_option maxRecDepth 100000 in
theorem fate_any (A B : Nat) (v : Value) (l : List Int) (k : Nat) (w : World) (h : Fates w A B v l k) (hk : k ≤ 1000000000) (hl : l.length ≤ maxLen) :
    Calls Try.prog 94 #[ptr A, ptr B] w fun e w' => e = .returned (.int .i64 (fateAt l k)) ∧ Fates w' A B v l (k + 1) ∧ Chg (· = B) w w' := by
  obtain ⟨h1, ⟨k', h2, h3⟩, h4, h5, h6⟩ := h
  unfold maxLen at hl
  have cA := cell_of_one h1
  have cB := cell_of_one h2
  have fB := free_of_one h2
  by_cases hz : l.length = 0
  · obtain rfl : l = [] := List.eq_nil_of_length_eq_zero hz
    have hv : ∃ ao cap, v = .slice ao 0 cap := by
      rcases h4 with ⟨ao, cap, hv, _⟩ | ⟨b, o, cap, hv, _⟩
      · exact ⟨ao, cap, hv⟩
      · exact ⟨_, cap, hv⟩
    have H : Fates w A B v [] (k + 1) := ⟨h1, ⟨k', h2, fun h => absurd rfl h⟩, h4, h5, h6⟩
    have HH := hid H
    clear H h1 h2 h3 h4 h5 h6 hz
    obtain ⟨ao, cap, rfl⟩ := hv
    go_enter Try.func94, Try.ntmps94
    go_wp2
    go_ret
    exact ⟨rfl, HH.out, Chg.refl _ _⟩
  · obtain rfl : k' = k := h3 hz
    rcases h4 with ⟨_, _, _, h⟩ | ⟨b, o, cap, hv, hb, hj⟩
    · exact absurd (by rw [h]; rfl) hz
    · have hm : k' % l.length < l.length := Nat.mod_lt _ (by omega)
      have hbB : b ≠ B := h6 b o _ cap hv hz
      have hh := (hj _ hm)
      have hset : (w.setCell ⟨B, 0, none⟩ (.int .i64 (k' + 1 : Nat))).heap[B]? = some (.cells #[.int .i64 (k' + 1 : Nat)] tInt (0, 0)) := one_setCell h2
      have hc : ∀ q, Chg (· = B) w ((w.setCell ⟨B, 0, none⟩ (.int .i64 (k' + 1 : Nat))).drewN q) := fun q => ((Chg.refl _ w).root 0 _).drewN q
      have HF : ∀ q, Fates ((w.setCell ⟨B, 0, none⟩ (.int .i64 (k' + 1 : Nat))).drewN q) A B v l (k' + 1) := fun q =>
        ⟨(hc q).at h1 h5, ⟨k' + 1, hset, fun _ => rfl⟩, (IntsAt.kept (Or.inr ⟨b, o, cap, hv, hb, hj⟩) (hc q) h6), h5, h6⟩
      have HI := hid HF
      have e : fateAt l k' = l[k' % l.length] := by
        unfold fateAt
        rw [if_neg hz, List.getD_eq_getElem?_getD, List.getElem?_eq_getElem hm]; rfl
      have HE := hid e
      have HC := hid hc
      have i1 : ((k' : Int) + 1 - 1).tmod (l.length : Int) = ((k' % l.length : Nat) : Int) := by
        rw [show (k' : Int) + 1 - 1 = (k' : Int) by omega, Int.ofNat_tmod]
      subst hv
      clear h1 h2 h3 hj h6 HF hc e hset
      go_enter Try.func94, Try.ntmps94
      go_wp2
      go_quiet (fail)
      go_wp2
      go_ret
      exact ⟨ret_i HE.out.symm, HI.out _, HC.out _⟩

/-- A place's safe state behind its fate, in memory. -/
def Met (g o nb : Nat) (fate : Int) (w w' : World) : Prop :=
  (fate = 1 ∧ w' = w.setCell ⟨g, o + 1, none⟩ (ptr nb)) ∨ (fate = 2 ∧ w' = (w.setCell ⟨g, o + 1, none⟩ (ptr w.heap.size)).alloc (.cells (secCells none) tSector)) ∨ (fate ≠ 1 ∧ fate ≠ 2 ∧ w' = w)
theorem tornSector : (Try.zeroCells142).setIfInBounds 256 (.bool true) = secCells none := by kernel_rfl

set_option maxRecDepth 100000 in
theorem meet_any (g o nb : Nat) (y : Value) (fate : Int) (w : World) (hg : g < w.heap.size) (c0 : w.cell? ⟨g, o, none⟩ = some (ptr nb)) (c1 : w.cell? ⟨g, o + 1, none⟩ = some y) (z1 : w.frozen? ⟨g, o + 1, none⟩ = false) :
    Calls Try.prog 119 #[.pointer (some ⟨g, o, none⟩), .int .i64 fate] w fun e w' => e = .returned (.tuple #[]) ∧ Met g o nb fate w w' := by
  by_cases h1 : fate = 1
  · subst h1
    go_enter Try.func119, Try.ntmps119
    go_wp2
    go_end0
    exact ⟨rfl, Or.inl ⟨rfl, rfl⟩⟩
  · by_cases h2 : fate = 2
    · subst h2
      go_enter Try.func119, Try.ntmps119
      go_wp2
      go_end0
      exact ⟨rfl, Or.inr (Or.inl ⟨rfl, by rw [← tornSector]⟩)⟩
    · have H1 := hid h1
      have H2 := hid h2
      have b1 : (fate == 1) = false := by simp [h1]
      have b2 : (fate == 2) = false := by simp [h2]
      clear h1 h2
      go_enter Try.func119, Try.ntmps119
      go_wp2
      go_end0
      exact ⟨rfl, Or.inr (Or.inr ⟨H1.out, H2.out, rfl⟩)⟩

end Disk
end Go.Proofs.Ytiomojidfkpagaa
