/-
  Plain mathematics of NodeSums: a leaf less one of its keys is a leaf, and so is that key alone; their sizes.
-/
import Derived.Test.YtiellodbkanciaaDoorNodeEnc
namespace Go.Proofs.YtiellodbkanciaaDoor
namespace No
open Num (fixF_length)
theorem rise_pair (l : List Bs) : rise l = true ↔ l.Pairwise (fun a b => less a b = true) := by
  constructor
  · intro h
    refine List.pairwise_iff_getElem.2 fun i j hi hj hij => rise_lt h j i hj hij
  · intro h
    rw [rise_iff]
    intro i hi
    exact List.pairwise_iff_getElem.1 h i (i + 1) (by omega) hi (by omega)
def lessN (n : N) (k : Nat) : N := ⟨true, n.ks.take k ++ n.ks.drop (k + 1), n.cs.take k ++ n.cs.drop (k + 1), []⟩
def loneN (n : N) (k : Nat) : N := ⟨true, (n.ks.drop k).take 1, (n.cs.drop k).take 1, []⟩
theorem all_sub {α : Type} {p : α → Bool} {l m : List α} (h : l.all p = true) (hs : m.Sublist l) : m.all p = true := by
  rw [List.all_eq_true] at h ⊢
  exact fun x hx => h x (hs.subset hx)
theorem sub_less {α : Type} (l : List α) (k : Nat) : (l.take k ++ l.drop (k + 1)).Sublist l := by
  rw [← List.eraseIdx_eq_take_drop_succ]
  exact List.eraseIdx_sublist l k
theorem sub_lone {α : Type} (l : List α) (k : Nat) : ((l.drop k).take 1).Sublist l := (List.take_sublist _ _).trans (List.drop_sublist _ _)
theorem ok_sub {n : N} (ho : okN n = true) (hf : n.f = true) {ks : List Bs} {cs : List C} (h1 : ks.Sublist n.ks) (h2 : cs.Sublist n.cs) (h3 : cs.length = ks.length) : okN ⟨true, ks, cs, []⟩ = true := by
  obtain ⟨a1, a2, a3⟩ := okN_ways ho
  have a4 : n.cs.all okC = true := by
    rcases a3 with ⟨-, -, -, h⟩ | ⟨h, _⟩
    · exact h
    · rw [hf] at h; cases h
  unfold okN
  rw [all_sub a1 h1, (rise_pair ks).2 (((rise_pair n.ks).1 a2).sublist h1)]
  unfold okL
  rw [decide_eq_true h3, all_sub a4 h2]
  rfl
theorem leaf_len (ks : List Bs) (cs : List C) : (encN ⟨true, ks, cs, []⟩).length = 3 + ((itsL ks cs).map List.length).sum := by
  show (([1] ++ (Num.fixF 2 ks.length ++ [])) ++ (itsL ks cs).flatten).length = _
  simp only [List.length_append, List.length_flatten, fixF_length, List.length_cons, List.length_nil]
theorem its_app (a b : List Bs) (c d : List C) (h : a.length = c.length) : itsL (a ++ b) (c ++ d) = itsL a c ++ itsL b d := by
  unfold itsL
  exact List.zipWith_append h
/-- The sizes. -/
theorem sums {n : N} (ho : okN n = true) (hf : n.f = true) {k : Nat} (hk : k < n.ks.length) : sizeN (lessN n k) + sizeN (loneN n k) = sizeN n + 3 := by
  obtain ⟨-, -, a3⟩ := okN_ways ho
  have hl : n.cs.length = n.ks.length ∧ n.ps = [] := by
    rcases a3 with ⟨-, h, hp, -⟩ | ⟨h, _⟩
    · exact ⟨h, hp⟩
    · rw [hf] at h; cases h
  obtain ⟨hl, hp⟩ := hl
  have o1 : okN (lessN n k) = true := ok_sub ho hf (sub_less n.ks k) (sub_less n.cs k) (by simp only [List.length_append, List.length_take, List.length_drop]; omega)
  have o2 : okN (loneN n k) = true := ok_sub ho hf (sub_lone n.ks k) (sub_lone n.cs k) (by simp only [List.length_take, List.length_drop]; omega)
  unfold sizeN
  rw [if_pos o1, if_pos o2, if_pos ho]
  obtain ⟨f, ks, cs, ps⟩ := n
  simp only at hf hk hl hp
  subst hf hp
  unfold lessN loneN
  simp only
  rw [leaf_len, leaf_len, leaf_len]
  have e1 : ks = ks.take k ++ ((ks.drop k).take 1 ++ ks.drop (k + 1)) := by
    rw [← List.drop_drop, List.take_append_drop, List.take_append_drop]
  have e2 : cs = cs.take k ++ ((cs.drop k).take 1 ++ cs.drop (k + 1)) := by
    rw [← List.drop_drop, List.take_append_drop, List.take_append_drop]
  have l1 : (ks.take k).length = (cs.take k).length := by simp only [List.length_take]; omega
  have l2 : ((ks.drop k).take 1).length = ((cs.drop k).take 1).length := by simp only [List.length_take, List.length_drop]; omega
  have e3 : itsL ks cs = itsL (ks.take k) (cs.take k) ++ (itsL ((ks.drop k).take 1) ((cs.drop k).take 1) ++ itsL (ks.drop (k + 1)) (cs.drop (k + 1))) := by
    conv => lhs; rw [e1, e2]
    rw [its_app _ _ _ _ l1, its_app _ _ _ _ l2]
  rw [e3, its_app _ _ _ _ l1]
  simp only [List.map_append, List.sum_append]
  omega
end No
end Go.Proofs.YtiellodbkanciaaDoor
