/-
  Rows cut: a[:k] and a[k:] of a row that came in.
-/
import Derived.Test.YtgajhipkknpicaaGreatDoorGrpRowA
namespace Go.Proofs.YtgajhipkknpicaaGreatDoor
open Go.RowKit
namespace Ro
open Va
theorem RowAt.room {w : World} {ao : Option Addr} {n cap : Nat} {l : Vs} (h : RowAt w (.slice ao n cap) l) : n = l.length ∧ n ≤ cap := by
  rcases h.1 with ⟨ao', cap', hv, rfl⟩ | ⟨b, o, cap', hv, hc, _, _⟩
  · cases hv; exact ⟨rfl, Nat.zero_le _⟩
  · cases hv; exact ⟨rfl, hc⟩
theorem RowAt.take {w : World} {ao : Option Addr} {n cap : Nat} {l : Vs} (h : RowAt w (.slice ao n cap) l) {k : Nat} (hk : k ≤ n) : RowAt w (.slice ao k cap) (l.take k) := by
  obtain ⟨h1, h2⟩ := h
  have hl : (l.take k).length ≤ maxLen := by rw [List.length_take]; omega
  refine ⟨?_, hl⟩
  rcases h1 with ⟨ao', cap', hv, rfl⟩ | ⟨b, o, cap', hv, hc, hlt, hj⟩
  · cases hv
    have : k = 0 := by omega
    subst this
    exact Or.inl ⟨ao, cap, rfl, rfl⟩
  · cases hv
    have hkl : (l.take k).length = k := by rw [List.length_take]; omega
    refine Or.inr ⟨b, o, cap, by rw [hkl], by rw [hkl]; omega, hlt, fun j hj' => ?_⟩
    have e : (l.take k)[j] = l[j]'(by omega) := by simp
    rw [e]
    exact hj j (by omega)
/-- a[k:]. -/
def dropS (ao : Option Addr) (n cap k : Nat) : Value := .slice (if cap = k then ao else ao.map (·.add (k * 3))) (n - k) (cap - k)
theorem RowAt.drop {w : World} {ao : Option Addr} {n cap : Nat} {l : Vs} (h : RowAt w (.slice ao n cap) l) {k : Nat} (hk : k ≤ n) : RowAt w (dropS ao n cap k) (l.drop k) := by
  obtain ⟨h1, h2⟩ := h
  have hl : (l.drop k).length ≤ maxLen := by rw [List.length_drop]; omega
  refine ⟨?_, hl⟩
  unfold dropS
  rcases h1 with ⟨ao', cap', hv, rfl⟩ | ⟨b, o, cap', hv, hc, hlt, hj⟩
  · cases hv
    have : k = 0 := by omega
    subst this
    exact Or.inl ⟨_, _, rfl, rfl⟩
  · cases hv
    by_cases hck : cap = k
    · have e : l.drop k = [] := List.drop_of_length_le (by omega)
      rw [if_pos hck, e]
      exact Or.inl ⟨some ⟨b, o, none⟩, cap - k, by rw [show l.length - k = 0 by omega], rfl⟩
    · rw [if_neg hck]
      refine Or.inr ⟨b, o + k * 3, cap - k, by rw [List.length_drop]; simp [Addr.add], by rw [List.length_drop]; omega, hlt, fun j hj' => ?_⟩
      have hjl : k + j < l.length := by rw [List.length_drop] at hj'; omega
      have e : (l.drop k)[j] = l[k + j] := by simp
      rw [e]
      have h3 := hj (k + j) hjl
      rw [show o + (k + j) * 3 = o + k * 3 + j * 3 by omega] at h3
      exact h3
end Ro
end Go.Proofs.YtgajhipkknpicaaGreatDoor
