/-
  CacheLast, its plain part: the numbers in the order in which they were used last. No program in sight.
-/
import Derived.Test.YthciofgkdfideaaCacheMath
namespace Go.Proofs.Ythciofgkdfideaa
namespace Ca
open Mem (Bs bs)
/-- Numbers, each where it stands first. -/
def nd : List Int → List Int
  | [] => []
  | x :: r => x :: (nd r).filter (· != x)
theorem mem_nd {x : Int} {l : List Int} : x ∈ nd l ↔ x ∈ l := by
  induction l with
  | nil => simp [nd]
  | cons y l ih =>
    unfold nd
    rw [List.mem_cons, List.mem_cons, List.mem_filter, ih]
    by_cases e : x = y
    · simp [e]
    · simp [e]
theorem nd_nodup (l : List Int) : (nd l).Nodup := by
  induction l with
  | nil => exact List.nodup_nil
  | cons y l ih =>
    unfold nd
    rw [List.nodup_cons]
    exact ⟨by simp, ih.filter _⟩
theorem filter_none {x : Int} {l : List Int} (h : x ∉ l) : l.filter (· != x) = l := by
  rw [List.filter_eq_self]
  intro y hy
  have : y ≠ x := fun e => h (e ▸ hy)
  simpa using this
theorem nd_snoc (l : List Int) (x : Int) : nd (l ++ [x]) = if x ∈ l then nd l else nd l ++ [x] := by
  induction l with
  | nil => simp [nd]
  | cons y l ih =>
    rw [List.cons_append]
    unfold nd
    rw [ih]
    by_cases h1 : x ∈ l
    · rw [if_pos h1, if_pos (List.mem_cons_of_mem _ h1)]
    · rw [if_neg h1, List.filter_append]
      by_cases h2 : x = y
      · subst h2
        simp
      · simp [h1, h2]
theorem nd_append (l m : List Int) : ∃ t, nd (l ++ m) = nd l ++ t := by
  induction m generalizing l with
  | nil => exact ⟨[], by simp⟩
  | cons x m ih =>
    obtain ⟨t, e⟩ := ih (l ++ [x])
    rw [List.append_assoc, List.singleton_append, nd_snoc] at e
    split at e
    · exact ⟨t, e⟩
    · exact ⟨x :: t, by rw [e]; simp⟩
/-- Gone back far enough. -/
theorem nd_take {l m : List Int} {s : Nat} (h : (nd l).length = s) : (nd (l ++ m)).take s = nd l := by
  obtain ⟨t, e⟩ := nd_append l m
  rw [e, ← h, List.take_left]
theorem filter_take {x : Int} {l : List Int} (hl : l.Nodup) (s : Nat) : ((l.take (s + 1)).filter (· != x)).take s = (l.filter (· != x)).take s := by
  induction s generalizing l with
  | zero => simp
  | succ s ih =>
    cases l with
    | nil => rfl
    | cons y l =>
      rw [List.nodup_cons] at hl
      rw [List.take_succ_cons]
      by_cases e : y = x
      · subst e
        rw [List.filter_cons_of_neg (by simp), List.filter_cons_of_neg (by simp), filter_none hl.1, filter_none (fun h => hl.1 (List.mem_of_mem_take h)), List.take_take, Nat.min_self]
      · rw [List.filter_cons_of_pos (by simp [e]), List.filter_cons_of_pos (by simp [e]), List.take_succ_cons, List.take_succ_cons, ih hl.2]
/-- One more number used: what is kept of them. -/
theorem nd_step {x : Int} {l : List Int} {s : Nat} (h1 : 1 ≤ s) : (nd (x :: l)).take s = (x :: ((nd l).take s).filter (· != x)).take s := by
  obtain ⟨t, rfl⟩ : ∃ t, s = t + 1 := ⟨s - 1, by omega⟩
  rw [show nd (x :: l) = x :: (nd l).filter (· != x) from rfl, List.take_succ_cons, List.take_succ_cons, filter_take (nd_nodup l)]
/-- The pages at hand are the numbers used last (the one used last at the end). -/
def Lasts (size : Nat) (l : Row) (ps : List Int) : Prop := nos l = ((nd ps).take size).reverse
theorem Lasts.nil (size : Nat) : Lasts size [] [] := by simp [Lasts, nos, nd]
theorem Lasts.put {size : Nat} {l : Row} {ps : List Int} (k : Lasts size l ps) (h1 : 1 ≤ size) (n : Int) (d : Bs) (w : Bool) : Lasts size (putM size n d w l) (n :: ps) := by
  unfold Lasts at k ⊢
  rw [nd_step h1]
  have e1 : nos (onto n d w l) = (n :: ((nd ps).take size).filter (· != n)).reverse := by
    have e2 : nos (onto n d w l) = nos (wo n l) ++ [n] := by
      unfold onto nos
      rw [List.map_append]
      rfl
    rw [e2, nos_wo, k, List.reverse_cons, List.filter_reverse]
  have e3 : (onto n d w l).length = (n :: ((nd ps).take size).filter (· != n)).length := by
    have := congrArg List.length e1
    rwa [List.length_reverse, show nos (onto n d w l) = (onto n d w l).map One.n from rfl, List.length_map] at this
  unfold putM
  rw [show nos ((onto n d w l).drop ((onto n d w l).length - size)) = (nos (onto n d w l)).drop ((onto n d w l).length - size) from List.map_drop (f := One.n), e1, e3, List.drop_reverse]
  congr 1
  by_cases h : (n :: ((nd ps).take size).filter (· != n)).length ≤ size
  · rw [List.take_of_length_le (i := size) h, List.take_of_length_le (by omega)]
  · congr 1
    omega
theorem Lasts.len {size : Nat} {l : Row} {ps : List Int} (k : Lasts size l ps) : l.length = min size (nd ps).length := by
  have := congrArg List.length k
  rwa [List.length_reverse, List.length_take, show nos l = l.map One.n from rfl, List.length_map] at this
end Ca
end Go.Proofs.Ythciofgkdfideaa
