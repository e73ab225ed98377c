/-
  Plain mathematics of layer 11 (chain): parts of a value, their pages, a chain on pages by their numbers, and how it is gone through. No program in sight.
-/
import Derived.Test.YtkoglikaaehhjaaGreatDoorShelfMath
import Derived.Test.YtkoglikaaehhjaaGreatDoorGrpNoA
import Derived.Test.YtkoglikaaehhjaaGreatDoorGrpNumC
namespace Go.Proofs.YtkoglikaaehhjaaGreatDoor
namespace Ch
open Num (hid fixF fixF_length)
open Part (numAt mid)
open Mem (Bs bs)
open Sp (zeros zeros_len)
open No (okC)
/-- Pages by their numbers. -/
abbrev Pf := Int → Option Bs
/-- The page of a part, and of the next part's page. -/
def pageB (p : Bs) (nx : Int) : Bs := [3] ++ (fixF 4 nx.toNat ++ (p ++ zeros (227 - p.length)))
theorem page_len {p : Bs} (h : p.length ≤ 227) (nx : Int) : (pageB p nx).length = 232 := by
  unfold pageB
  simp [fixF_length, zeros_len]
  omega
/-- The part on a page where so many bytes are left, and the next part's page. -/
def good (x : Bs) (left : Nat) : Bool := decide (x.length = 232) && (([3] : Bs).isPrefixOf x && (decide (left ≤ 227) == decide (numAt x 1 4 = 0) && No.blank (x.drop (5 + min left 227))))
def partM (x : Bs) (left : Nat) : Option (Bs × Int) := if good x left then some ((x.drop 5).take (min left 227), (numAt x 1 4 : Nat)) else none
theorem blank_zeros (n : Nat) : No.blank (zeros n) = true := by unfold No.blank Sp.zeros; simp
theorem page_drop (p : Bs) (nx : Int) : (pageB p nx).drop 5 = p ++ zeros (227 - p.length) := by
  unfold pageB
  rw [← List.append_assoc, List.drop_append_of_le_length (by simp [fixF_length]), List.drop_of_length_le (by simp [fixF_length]), List.nil_append]
theorem page_num (p : Bs) (nx : Int) (h0 : 0 ≤ nx) (h1 : nx < 4294967296) : numAt (pageB p nx) 1 4 = nx.toNat := by
  have hm : ((pageB p nx).drop 1).take 4 = fixF 4 nx.toNat := mid [3] (fixF 4 nx.toNat) (p ++ zeros (227 - p.length)) 1 4 rfl (fixF_length _ _)
  unfold Part.numAt
  rw [hm, Num.unf_fix]
  exact Nat.mod_eq_of_lt (by omega)
theorem part_page {v : Bs} (_hv : v ≠ []) {nx : Int} (h0 : 0 ≤ nx) (h1 : nx < 4294967296) (h : v.length ≤ 227 ↔ nx = 0) : partM (pageB (v.take 227) nx) v.length = some (v.take 227, nx) := by
  have hl : (v.take 227).length = min v.length 227 := by rw [List.length_take, Nat.min_comm]
  have hn := page_num (v.take 227) nx h0 h1
  have hd := page_drop (v.take 227) nx
  have hz : (pageB (v.take 227) nx).drop (5 + min v.length 227) = zeros (227 - (v.take 227).length) := by
    rw [← List.drop_drop, hd, ← hl, List.drop_left]
  have hg : good (pageB (v.take 227) nx) v.length = true := by
    unfold good
    rw [hz, blank_zeros, page_len (by rw [hl]; omega), hn]
    have hp : ([3] : Bs).isPrefixOf (pageB (v.take 227) nx) = true := by unfold pageB; rfl
    rw [hp]
    have : decide (v.length ≤ 227) = decide (nx.toNat = 0) := by
      by_cases hq : v.length ≤ 227
      · rw [decide_eq_true hq, decide_eq_true (by have := h.1 hq; omega)]
      · rw [decide_eq_false hq, decide_eq_false (fun e => hq (h.2 (by omega)))]
    rw [this]
    simp
  unfold partM
  rw [if_pos hg, hd, hn, ← hl, List.take_left]
  congr 2
  omega
theorem part_len {x : Bs} {left : Nat} {p : Bs} {nx : Int} (h : partM x left = some (p, nx)) : p.length = min left 227 ∧ 0 ≤ nx ∧ nx < 4294967296 := by
  unfold partM at h
  split at h
  · rename_i hg
    unfold good at hg
    simp only [Bool.and_eq_true, decide_eq_true_eq] at hg
    have h2 := Part.numAt_lt x 1 4
    have h5 : (256 : Nat) ^ 4 = 4294967296 := by decide
    simp only [Option.some.injEq, Prod.mk.injEq] at h
    obtain ⟨rfl, rfl⟩ := h
    refine ⟨?_, by omega, by omega⟩
    rw [List.length_take, List.length_drop, hg.1]
    omega
  · cases h
/-- A chain of a value: its pages, from the first on. -/
def Chn (f : Pf) : List Int → Int → Bs → Prop
  | [], n, v => n = 0 ∧ v = []
  | p :: ps, n, v => n = p ∧ (1 ≤ p ∧ p ≤ 4095) ∧ v ≠ [] ∧ f p = some (pageB (v.take 227) (ps.headD 0)) ∧ (v.length ≤ 227 ↔ ps = []) ∧ Chn f ps (ps.headD 0) (v.drop 227)
theorem Chn.head {f : Pf} {ps : List Int} {n : Int} {v : Bs} (h : Chn f ps n v) : n = ps.headD 0 ∧ (0 ≤ n ∧ n ≤ 4095) ∧ (ps = [] ↔ n = 0) ∧ (ps = [] ↔ v = []) := by
  cases ps with
  | nil => exact ⟨h.1, by have := h.1; omega, by simp [h.1], by simp [h.2]⟩
  | cons p ps =>
    have h2 := h.2.1
    have h1 := h.1
    refine ⟨h1, by omega, ?_, ?_⟩
    · constructor
      · intro e; cases e
      · intro e; omega
    · constructor
      · intro e; cases e
      · intro e; exact absurd e h.2.2.1
theorem Chn.mem {f : Pf} : ∀ {ps : List Int} {n : Int} {v : Bs}, Chn f ps n v → ∀ x ∈ ps, 1 ≤ x ∧ x ≤ 4095
  | [], _, _, _, x, hx => by simp at hx
  | p :: ps, _, _, h, x, hx => by
    rcases List.mem_cons.1 hx with rfl | hx
    · exact h.2.1
    · exact Chn.mem h.2.2.2.2.2 x hx
theorem Chn.same {f g : Pf} : ∀ {ps : List Int} {n : Int} {v : Bs}, Chn f ps n v → (∀ x ∈ ps, g x = f x) → Chn g ps n v
  | [], _, _, h, _ => h
  | p :: ps, _, _, h, hs => ⟨h.1, h.2.1, h.2.2.1, (hs p (by simp)).trans h.2.2.2.1, h.2.2.2.2.1, Chn.same h.2.2.2.2.2 (fun x hx => hs x (by simp [hx]))⟩
/-- A part more ahead. -/
theorem Chn.push {f : Pf} {ps : List Int} {n m : Int} {v : Bs} {k : Nat} (h : Chn f ps n (v.drop (227 * (k + 1)))) (hv : 227 * k < v.length) (hm : 1 ≤ m ∧ m ≤ 4095) (hf : f m = some (pageB ((v.drop (227 * k)).take 227) n)) : Chn f (m :: ps) m (v.drop (227 * k)) := by
  obtain ⟨h1, -, -, h4⟩ := h.head
  have hd : (v.drop (227 * k)).drop 227 = v.drop (227 * (k + 1)) := by rw [List.drop_drop]; congr 1
  refine ⟨rfl, hm, ?_, by rw [← h1]; exact hf, ?_, ?_⟩
  · intro e
    have := congrArg List.length e
    rw [List.length_drop] at this
    simp at this
    omega
  · rw [h4]
    rw [List.drop_eq_nil_iff, List.length_drop]
    omega
  · rw [hd, ← h1]
    exact h
theorem Chn.len {f : Pf} : ∀ {ps : List Int} {n : Int} {v : Bs}, Chn f ps n v → ps.length = (v.length + 226) / 227
  | [], _, v, h => by rw [h.2]; rfl
  | p :: ps, _, v, h => by
    have ih := Chn.len h.2.2.2.2.2
    have h5 := h.2.2.2.2.1
    have hv : 0 < v.length := List.length_pos_iff.2 h.2.2.1
    rw [List.length_drop] at ih
    rw [List.length_cons, ih]
    by_cases hq : v.length ≤ 227
    · have : v.length - 227 = 0 := by omega
      rw [this]
      omega
    · omega
/-- A chain is gone through: what is left to read, what was read. -/
def rdM (f : Pf) : Nat → Int → Nat → Bs → List Int → (Bs × List Int) × Int
  | 0, _, _, acc, pg => ((acc, pg), 0)
  | k + 1, n, left, acc, pg => if left = 0 then ((acc, pg), 0) else match f n with
    | none => (([], []), 21)
    | some x => match partM x left with
      | none => (([], []), 30)
      | some (p, nx) => rdM f k nx (left - p.length) (acc ++ p) (pg ++ [n])
theorem rd_done (f : Pf) (k : Nat) (n : Int) (acc : Bs) (pg : List Int) : rdM f k n 0 acc pg = ((acc, pg), 0) := by
  cases k with
  | zero => rfl
  | succ k => exact if_pos rfl
theorem rd_no {f : Pf} {k : Nat} {n : Int} {left : Nat} {acc : Bs} {pg : List Int} (h0 : left ≠ 0) (h : f n = none) : rdM f (k + 1) n left acc pg = (([], []), 21) := by
  unfold rdM
  rw [if_neg h0, h]
theorem rd_bad {f : Pf} {k : Nat} {n : Int} {left : Nat} {acc x : Bs} {pg : List Int} (h0 : left ≠ 0) (h : f n = some x) (h2 : partM x left = none) : rdM f (k + 1) n left acc pg = (([], []), 30) := by
  unfold rdM
  rw [if_neg h0, h]
  simp only
  rw [h2]
theorem rd_next {f : Pf} {k : Nat} {n nx : Int} {left : Nat} {acc x p : Bs} {pg : List Int} (h0 : left ≠ 0) (h : f n = some x) (h2 : partM x left = some (p, nx)) : rdM f (k + 1) n left acc pg = rdM f k nx (left - p.length) (acc ++ p) (pg ++ [n]) := by
  rw [rdM, if_neg h0, h]
  simp only
  rw [h2]
theorem rd_chain {f : Pf} : ∀ {ps : List Int} {n : Int} {v : Bs}, Chn f ps n v → ∀ (k : Nat) (acc : Bs) (pg : List Int), v.length ≤ 227 * k → rdM f k n v.length acc pg = ((acc ++ v, pg ++ ps), 0)
  | [], n, v, h, k, acc, pg, _ => by
    rw [h.2, List.append_nil, List.append_nil]
    exact rd_done f k n acc pg
  | p :: ps, n, v, h, k, acc, pg, hk => by
    obtain ⟨rfl, h2, h3, h4, h5, h6⟩ := h
    have hv : 0 < v.length := List.length_pos_iff.2 h3
    cases k with
    | zero => omega
    | succ k =>
      obtain ⟨-, g2, g3, -⟩ := h6.head
      have hp := part_page h3 g2.1 (by omega) (h5.trans g3)
      rw [rd_next (by omega) h4 hp]
      have hl : v.length - (v.take 227).length = (v.drop 227).length := by rw [List.length_take, List.length_drop]; omega
      rw [hl, rd_chain h6 k _ _ (by rw [List.length_drop]; omega), List.append_assoc, List.append_assoc, List.take_append_drop]
      rfl
/-- What a cell stands for, and its pages. -/
def valM (f : Pf) (c : No.C) : (Bs × List Int) × Int := if okC c = true then (if c.z ≤ 40 then ((c.d, []), 0) else rdM f 23 c.p c.z.toNat [] []) else (([], []), 1)
/-- A cell that stands for a value. -/
def CellOf (f : Pf) (c : No.C) (v : Bs) (ps : List Int) : Prop := v.length ≤ 5000 ∧ ((v.length ≤ 40 ∧ c = ⟨v.length, v, 0⟩ ∧ ps = []) ∨ (40 < v.length ∧ c = ⟨v.length, [], ps.headD 0⟩ ∧ Chn f ps (ps.headD 0) v))
theorem CellOf.ok {f : Pf} {c : No.C} {v : Bs} {ps : List Int} (h : CellOf f c v ps) : okC c = true := by
  obtain ⟨h0, ⟨h1, rfl, rfl⟩ | ⟨h1, rfl, h2⟩⟩ := h
  · unfold okC
    simp
    omega
  · obtain ⟨-, g2, g3, g4⟩ := h2.head
    have hne : ¬ ps.headD 0 = 0 := fun e => by
      have := g4.1 (g3.2 e)
      rw [this] at h1
      simp at h1
    unfold okC No.okP
    have e1 : ¬ ((v.length : Int) ≤ 40) := by omega
    simp only [e1, if_false]
    generalize ps.headD 0 = m at *
    simp
    omega
theorem CellOf.val {f : Pf} {c : No.C} {v : Bs} {ps : List Int} (h : CellOf f c v ps) : valM f c = ((v, ps), 0) := by
  have hok := h.ok
  unfold valM
  rw [if_pos hok]
  obtain ⟨h0, ⟨h1, rfl, rfl⟩ | ⟨h1, rfl, h2⟩⟩ := h
  · rw [if_pos (by show ((v.length : Nat) : Int) ≤ 40; omega)]
  · rw [if_neg (by show ¬ ((v.length : Nat) : Int) ≤ 40; omega)]
    have := rd_chain h2 23 [] [] (by omega)
    simpa using this
theorem CellOf.same {f g : Pf} {c : No.C} {v : Bs} {ps : List Int} (h : CellOf f c v ps) (hs : ∀ x ∈ ps, g x = f x) : CellOf g c v ps := by
  obtain ⟨h0, h1 | ⟨h1, h2, h3⟩⟩ := h
  · exact ⟨h0, Or.inl h1⟩
  · exact ⟨h0, Or.inr ⟨h1, h2, h3.same hs⟩⟩
def partsN (n : Nat) : Nat := if n ≤ 40 then 0 else (n + 226) / 227
theorem CellOf.len {f : Pf} {c : No.C} {v : Bs} {ps : List Int} (h : CellOf f c v ps) : ps.length = partsN v.length := by
  unfold partsN
  obtain ⟨h0, ⟨h1, h2, rfl⟩ | ⟨h1, h2, h3⟩⟩ := h
  · rw [if_pos h1]
    rfl
  · rw [if_neg (by omega)]
    exact h3.len
end Ch
end Go.Proofs.YtkoglikaaehhjaaGreatDoor
