/-
  Plain mathematics: a row of numbers that is sorted and freed of repeats is as long as before just if no number stood there twice.
-/
import Derived.Test.YtiellodbkanciaaGreatDoorNodeMath
import Derived.Shelf.SlSortCmp.Insertion
import Derived.Lib.SlicesCompact
import Derived.Lib.Small
namespace Go.Proofs.YtiellodbkanciaaGreatDoor
open Go.RowKit Go.Sort
namespace No
theorem unlike_nodup : ∀ l : List Int, unlike l = true ↔ l.Nodup
  | [] => by simp [unlike]
  | a :: l => by
    unfold unlike
    rw [Bool.and_eq_true, unlike_nodup l, List.nodup_cons]
    simp
theorem lt_cmp (x y : Int) : ltOf Lib.compareInt x y = decide (x < y) := by
  unfold ltOf Lib.compareInt
  by_cases h : x < y
  · simp [h]
  · by_cases h2 : x > y <;> simp [h, h2]
theorem swo_cmp : SWO (ltOf Lib.compareInt) := by
  refine ⟨fun x => ?_, fun x y z h1 h2 => ?_, fun x y z h1 h2 => ?_⟩
  · rw [lt_cmp]; simp
  · rw [lt_cmp, decide_eq_true_eq] at *; omega
  · rw [lt_cmp, decide_eq_false_iff_not] at *; omega
theorem len_filter_all {l : List Nat} {p : Nat → Bool} (h : (l.filter p).length = l.length) : ∀ x ∈ l, p x = true := by
  intro x hx
  exact (List.filter_eq_self.1 (List.Sublist.eq_of_length (List.filter_sublist) h)) x hx
theorem compact_len (l : List Int) (d : Array Int) (hP : PermIn 0 l.toArray.size l.toArray d) (hS : SortedIn (ltOf Lib.compareInt) 0 l.toArray.size d) : decide ((Lib.compact d.toList).length = l.length) = unlike l := by
  obtain ⟨hsz, -, hp⟩ := hP
  have hsz' : d.size = l.length := by simpa using hsz
  have hperm : d.toList.Perm l := by
    have e1 : (d.extract 0 l.toArray.size).toList = d.toList := by
      rw [← hsz]; simp
    have e2 : (l.toArray.extract 0 l.toArray.size).toList = l := by simp
    rw [e1, e2] at hp
    exact hp
  have hle : ∀ i j, i < j → j < d.size → d[i]! ≤ d[j]! := by
    intro i j h1 h2
    have := hS i j (Nat.zero_le _) h1 (by rw [← hsz]; exact h2)
    rw [lt_cmp, decide_eq_false_iff_not] at this
    omega
  have hget : ∀ i (h : i < d.size), d[i]! = d[i] := fun i h => getElem!_pos d i h
  have hlen : (Lib.compact d.toList).length = ((List.range d.size).filter (Lib.keeps d)).length := by
    unfold Lib.compact Lib.compactUpTo
    simp only [List.length_map, Array.length_toList]
  rw [Bool.eq_iff_iff, decide_eq_true_eq, unlike_nodup, ← hperm.nodup_iff, hlen, ← hsz']
  constructor
  · intro h
    have hk := len_filter_all (h.trans List.length_range.symm)
    have hlt : ∀ i j, i < j → j < d.size → d[i]! < d[j]! := by
      intro i j h1 h2
      have hkj := hk j (List.mem_range.2 h2)
      unfold Lib.keeps at hkj
      rw [decide_eq_true_eq] at hkj
      rcases hkj with hkj | hkj
      · omega
      · have h3 := hle (j - 1) j (by omega) h2
        by_cases e : i = j - 1
        · subst e; omega
        · have h4 := hle i (j - 1) (by omega) (by omega)
          omega
    refine (List.pairwise_iff_getElem.2 ?_ : d.toList.Pairwise (· ≠ ·))
    intro i j hi hj hij
    have h2 : j < d.size := by simpa using hj
    have h1 := hlt i j hij h2
    rw [hget i (by omega), hget j h2] at h1
    simp only [Array.getElem_toList]
    omega
  · intro h
    have hk : ∀ x ∈ List.range d.size, Lib.keeps d x = true := by
      intro x hx
      have hx' := List.mem_range.1 hx
      unfold Lib.keeps
      rw [decide_eq_true_eq]
      by_cases h0 : x = 0
      · exact Or.inl h0
      · refine Or.inr fun e => ?_
        have := List.pairwise_iff_getElem.1 h (x - 1) x (by simp; omega) (by simpa using hx') (by omega)
        rw [hget x hx', hget (x - 1) (by omega)] at e
        simp only [Array.getElem_toList] at this
        exact this e.symm
    rw [List.filter_eq_self.2 hk, List.length_range]
end No
end Go.Proofs.YtiellodbkanciaaGreatDoor
