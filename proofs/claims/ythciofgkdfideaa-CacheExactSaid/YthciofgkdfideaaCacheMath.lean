/-
  Plain mathematics of layer 12 (cache): pages in the order of their use (the one used last at the end), what each call leaves and answers; nothing is lost; what was used last. No program in sight.
-/
import Derived.Test.YthciofgkdfideaaMem
namespace Go.Proofs.Ythciofgkdfideaa
namespace Ca
open Mem (Bs bs)
/-- A page at hand: its number, its bytes, and whether it is still to be written. -/
structure One where
  n : Int
  d : Bs
  w : Bool
abbrev Row := List One
abbrev Pg := Int × Bs
def pgOf (x : One) : Pg := (x.n, x.d)
def nos (l : Row) : List Int := l.map One.n
def wo (n : Int) (l : Row) : Row := l.filter (fun x => x.n != n)
def get? (n : Int) (l : Row) : Option One := l.find? (fun x => x.n == n)
/-- The size that counts. -/
def clamp (s : Int) : Nat := if s < 1 then 1 else if s > 256 then 256 else s.toNat
theorem clamp_low (s : Int) : 1 ≤ clamp s ∧ clamp s ≤ 256 := by
  unfold clamp
  split
  · omega
  · split <;> omega
def onto (n : Int) (d : Bs) (w : Bool) (l : Row) : Row := wo n l ++ [⟨n, d, w⟩]
def putM (size : Nat) (n : Int) (d : Bs) (w : Bool) (l : Row) : Row := (onto n d w l).drop ((onto n d w l).length - size)
def outM (size : Nat) (n : Int) (d : Bs) (w : Bool) (l : Row) : List Pg := (((onto n d w l).take ((onto n d w l).length - size)).filter One.w).map pgOf
def getM (n : Int) (l : Row) : Row := match get? n l with | some x => wo n l ++ [x] | none => l
def cleanM (n : Int) (l : Row) : Row := l.map (fun x => if x.n = n then { x with w := false } else x)
/-- One page into those that rise by their numbers. -/
def ins (x : Pg) : List Pg → List Pg
  | [] => [x]
  | y :: r => if x.1 < y.1 then x :: y :: r else y :: ins x r
def dirtyM (l : Row) : List Pg := ((l.filter One.w).map pgOf).foldl (fun o x => ins x o) []
/-- What stays: no number twice, no more than the size. -/
structure Ok (size : Nat) (l : Row) : Prop where
  nd : (nos l).Nodup
  le : l.length ≤ size
theorem ok_nil (size : Nat) : Ok size [] := ⟨List.nodup_nil, Nat.zero_le _⟩
theorem nos_wo (n : Int) (l : Row) : nos (wo n l) = (nos l).filter (· != n) := by
  unfold nos wo
  rw [List.filter_map]
  rfl
theorem mem_wo {n : Int} {l : Row} {x : One} : x ∈ wo n l ↔ x ∈ l ∧ x.n ≠ n := by
  unfold wo
  simp
theorem not_wo (n : Int) (l : Row) : n ∉ nos (wo n l) := by
  rw [nos_wo]
  simp
theorem nodup_wo (n : Int) {l : Row} (h : (nos l).Nodup) : (nos (wo n l)).Nodup := by
  rw [nos_wo]
  exact h.filter _
theorem nodup_onto (n : Int) (d : Bs) (w : Bool) {l : Row} (h : (nos l).Nodup) : (nos (onto n d w l)).Nodup := by
  unfold onto nos
  rw [List.map_append, List.nodup_append]
  refine ⟨nodup_wo n h, by simp, fun a ha b hb e => ?_⟩
  simp at hb
  subst e hb
  exact not_wo _ l ha
theorem wo_len (n : Int) (l : Row) : (wo n l).length ≤ l.length := List.length_filter_le _ _
theorem wo_none {n : Int} {l : Row} (h : n ∉ nos l) : wo n l = l := by
  unfold wo
  rw [List.filter_eq_self]
  intro x hx
  have : x.n ≠ n := fun e => h (e ▸ List.mem_map_of_mem hx)
  simpa using this
theorem wo_some {n : Int} {l : Row} (hn : (nos l).Nodup) (h : n ∈ nos l) : (wo n l).length + 1 = l.length := by
  induction l with
  | nil => simp [nos] at h
  | cons x l ih =>
    have e : nos (x :: l) = x.n :: nos l := rfl
    rw [e, List.nodup_cons] at hn
    by_cases hx : x.n = n
    · have h1 : wo n (x :: l) = wo n l := by unfold wo; rw [List.filter_cons_of_neg (by simp [hx])]
      rw [h1, wo_none (hx ▸ hn.1)]
      rfl
    · have h1 : wo n (x :: l) = x :: wo n l := by unfold wo; rw [List.filter_cons_of_pos (by simp [hx])]
      rw [e, List.mem_cons] at h
      rw [h1, List.length_cons, List.length_cons, ih hn.2 (h.resolve_left (fun e => hx e.symm))]
theorem get_none {n : Int} {l : Row} : get? n l = none ↔ n ∉ nos l := by
  unfold get? nos
  rw [List.find?_eq_none]
  simp
theorem get_mem {n : Int} {l : Row} {x : One} (h : get? n l = some x) : x ∈ l ∧ x.n = n := by
  unfold get? at h
  exact ⟨List.mem_of_find?_eq_some h, by simpa using List.find?_some h⟩
theorem mem_nos {x : One} {l : Row} (h : x ∈ l) : x.n ∈ nos l := List.mem_map_of_mem h
theorem one_eq {l : Row} (hn : (nos l).Nodup) {x y : One} (hx : x ∈ l) (hy : y ∈ l) (e : x.n = y.n) : x = y := by
  induction l with
  | nil => cases hx
  | cons z l ih =>
    have e1 : nos (z :: l) = z.n :: nos l := rfl
    rw [e1, List.nodup_cons] at hn
    rcases List.mem_cons.1 hx with e2 | h2
    · rcases List.mem_cons.1 hy with e3 | h3
      · exact e2.trans e3.symm
      · exact absurd (e2 ▸ e ▸ mem_nos h3) hn.1
    · rcases List.mem_cons.1 hy with e3 | h3
      · exact absurd (e3 ▸ e ▸ mem_nos h2) hn.1
      · exact ih hn.2 h2 h3
theorem get_some {n : Int} {l : Row} (hn : (nos l).Nodup) {x : One} (hx : x ∈ l) (e : x.n = n) : get? n l = some x := by
  cases h : get? n l with
  | none => exact absurd (e ▸ mem_nos hx) (get_none.1 h)
  | some y =>
    have hy := get_mem h
    rw [one_eq hn hy.1 hx (hy.2.trans e.symm)]
theorem onto_len (n : Int) (d : Bs) (w : Bool) (l : Row) : (onto n d w l).length = (wo n l).length + 1 := by
  unfold onto
  simp
/-- One page at most goes. -/
theorem put_goes {size : Nat} {l : Row} (k : Ok size l) (n : Int) (d : Bs) (w : Bool) : (onto n d w l).length - size ≤ 1 := by
  rw [onto_len]
  have := wo_len n l
  have := k.le
  omega
theorem Ok.put {size : Nat} {l : Row} (k : Ok size l) (h1 : 1 ≤ size) (n : Int) (d : Bs) (w : Bool) : Ok size (putM size n d w l) := by
  refine ⟨?_, ?_⟩
  · unfold putM nos
    rw [List.map_drop]
    exact (nodup_onto n d w k.nd).sublist (List.drop_sublist _ _)
  · unfold putM
    rw [List.length_drop]
    omega
theorem getM_no {n : Int} {l : Row} (h : get? n l = none) : getM n l = l := by unfold getM; rw [h]
theorem getM_yes {n : Int} {l : Row} {x : One} (h : get? n l = some x) : getM n l = wo n l ++ [x] := by unfold getM; rw [h]
theorem mem_getM {n : Int} {l : Row} (hn : (nos l).Nodup) {x : One} : x ∈ getM n l ↔ x ∈ l := by
  cases h : get? n l with
  | none => rw [getM_no h]
  | some y =>
    have hy := get_mem h
    rw [getM_yes h, List.mem_append, mem_wo, List.mem_singleton]
    refine ⟨fun e => ?_, fun e => ?_⟩
    · rcases e with e | rfl
      · exact e.1
      · exact hy.1
    · by_cases e2 : x.n = n
      · exact Or.inr (one_eq hn e hy.1 (e2.trans hy.2.symm))
      · exact Or.inl ⟨e, e2⟩
theorem getM_len {n : Int} {l : Row} (hn : (nos l).Nodup) : (getM n l).length = l.length := by
  cases h : get? n l with
  | none => rw [getM_no h]
  | some y =>
    have hy := get_mem h
    rw [getM_yes h, List.length_append, List.length_singleton, wo_some hn (hy.2 ▸ mem_nos hy.1)]
theorem Ok.get {size : Nat} {l : Row} (k : Ok size l) (n : Int) : Ok size (getM n l) := by
  refine ⟨?_, by rw [getM_len k.nd]; exact k.le⟩
  cases h : get? n l with
  | none => rw [getM_no h]; exact k.nd
  | some y =>
    have hy := get_mem h
    rw [getM_yes h]
    have h2 := nodup_onto n y.d y.w k.nd
    unfold onto at h2
    rw [← hy.2] at h2 ⊢
    exact h2
theorem nos_clean (n : Int) (l : Row) : nos (cleanM n l) = nos l := by
  unfold nos cleanM
  rw [List.map_map]
  apply List.map_congr_left
  intro x _
  show (if x.n = n then { x with w := false } else x : One).n = x.n
  split <;> rfl
theorem Ok.clean {size : Nat} {l : Row} (k : Ok size l) (n : Int) : Ok size (cleanM n l) := ⟨by rw [nos_clean]; exact k.nd, by unfold cleanM; rw [List.length_map]; exact k.le⟩
theorem Ok.forget {size : Nat} {l : Row} (k : Ok size l) (n : Int) : Ok size (wo n l) := ⟨nodup_wo n k.nd, Nat.le_trans (wo_len n l) k.le⟩
/- Dirty: rising, and all that is to be written. -/
def Rise (l : List Pg) : Prop := l.Pairwise (fun a b => a.1 < b.1)
theorem mem_ins {x y : Pg} {l : List Pg} : y ∈ ins x l ↔ y = x ∨ y ∈ l := by
  induction l with
  | nil => simp [ins]
  | cons z l ih =>
    unfold ins
    split
    · simp
    · rw [List.mem_cons, ih, List.mem_cons]
      constructor
      · rintro (h | h | h)
        · exact Or.inr (Or.inl h)
        · exact Or.inl h
        · exact Or.inr (Or.inr h)
      · rintro (h | h | h)
        · exact Or.inr (Or.inl h)
        · exact Or.inl h
        · exact Or.inr (Or.inr h)
theorem ins_rise {x : Pg} {l : List Pg} (h : Rise l) (hx : ∀ y ∈ l, y.1 ≠ x.1) : Rise (ins x l) := by
  induction l with
  | nil => exact List.pairwise_singleton _ _
  | cons z l ih =>
    unfold Rise at h ih ⊢
    rw [List.pairwise_cons] at h
    unfold ins
    split
    · rename_i h2
      refine List.pairwise_cons.2 ⟨fun y hy => ?_, List.pairwise_cons.2 h⟩
      rcases List.mem_cons.1 hy with rfl | hy
      · exact h2
      · have := h.1 y hy
        omega
    · rename_i h2
      refine List.pairwise_cons.2 ⟨fun y hy => ?_, ih h.2 (fun y hy => hx y (List.mem_cons_of_mem _ hy))⟩
      rcases mem_ins.1 hy with rfl | hy
      · have := hx z List.mem_cons_self
        omega
      · exact h.1 y hy
theorem fold_ins (a o : List Pg) (ho : Rise o) (hn : (a.map Prod.fst).Nodup) (hd : ∀ x ∈ a, ∀ y ∈ o, y.1 ≠ x.1) :
    Rise (a.foldl (fun o x => ins x o) o) ∧ ∀ y, y ∈ a.foldl (fun o x => ins x o) o ↔ y ∈ o ∨ y ∈ a := by
  induction a generalizing o with
  | nil => exact ⟨ho, fun y => by simp⟩
  | cons x a ih =>
    rw [List.map_cons, List.nodup_cons] at hn
    have h2 := ih (ins x o) (ins_rise ho (fun y hy => hd x List.mem_cons_self y hy)) hn.2 (fun z hz y hy => by
      rcases mem_ins.1 hy with rfl | hy
      · exact fun e => hn.1 (e ▸ List.mem_map_of_mem hz)
      · exact hd z (List.mem_cons_of_mem _ hz) y hy)
    refine ⟨h2.1, fun y => ?_⟩
    rw [List.foldl_cons, h2.2, mem_ins, List.mem_cons]
    constructor
    · rintro ((h | h) | h)
      · exact Or.inr (Or.inl h)
      · exact Or.inl h
      · exact Or.inr (Or.inr h)
    · rintro (h | h | h)
      · exact Or.inl (Or.inr h)
      · exact Or.inl (Or.inl h)
      · exact Or.inr h
theorem pgs_nodup {l : Row} (h : (nos l).Nodup) : (((l.filter One.w).map pgOf).map Prod.fst).Nodup := by
  rw [List.map_map]
  exact h.sublist (List.Sublist.map One.n List.filter_sublist)
theorem dirty_rise {l : Row} (h : (nos l).Nodup) : Rise (dirtyM l) := (fold_ins _ [] List.Pairwise.nil (pgs_nodup h) (fun _ _ _ hy => by cases hy)).1
theorem mem_dirty {l : Row} (h : (nos l).Nodup) {y : Pg} : y ∈ dirtyM l ↔ ∃ x ∈ l, x.w = true ∧ pgOf x = y := by
  unfold dirtyM
  rw [(fold_ins _ [] List.Pairwise.nil (pgs_nodup h) (fun _ _ _ hy => by cases hy)).2]
  simp [and_assoc]
/-- What rises and has the same members is the same. -/
theorem rise_eq {a b : List Pg} (ha : Rise a) (hb : Rise b) (h : ∀ y, y ∈ a ↔ y ∈ b) : a = b := by
  induction a generalizing b with
  | nil =>
    cases b with
    | nil => rfl
    | cons y b => exact absurd ((h y).2 List.mem_cons_self) (by simp)
  | cons x a ih =>
    cases b with
    | nil => exact absurd ((h x).1 List.mem_cons_self) (by simp)
    | cons y b =>
      unfold Rise at ha hb
      rw [List.pairwise_cons] at ha hb
      have e : x = y := by
        rcases List.mem_cons.1 ((h x).1 List.mem_cons_self) with e | h1
        · exact e
        · rcases List.mem_cons.1 ((h y).2 List.mem_cons_self) with e | h2
          · exact e.symm
          · have := ha.1 y h2
            have := hb.1 x h1
            omega
      subst e
      rw [ih ha.2 hb.2 (fun z => ?_)]
      constructor
      · intro hz
        rcases List.mem_cons.1 ((h z).1 (List.mem_cons_of_mem _ hz)) with e | h1
        · have := ha.1 z hz
          rw [e] at this
          omega
        · exact h1
      · intro hz
        rcases List.mem_cons.1 ((h z).2 (List.mem_cons_of_mem _ hz)) with e | h1
        · have := hb.1 z hz
          rw [e] at this
          omega
        · exact h1
/-- Rising lists by their numbers alone: what a sort of the dirty pages gives is dirtyM. -/
theorem dirty_is {l : Row} (h : (nos l).Nodup) {b : List Pg} (hb : Rise b) (hm : ∀ y, y ∈ b ↔ ∃ x ∈ l, x.w = true ∧ pgOf x = y) : b = dirtyM l := rise_eq hb (dirty_rise h) (fun y => (hm y).trans (mem_dirty h).symm)
end Ca
end Go.Proofs.Ythciofgkdfideaa
