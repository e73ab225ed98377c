/-
  Contract of the reader's node.
-/
import Derived.Test.YtiellodbkanciaaGreatDoorNodeSt
import Derived.Deep.RegionLaw
import Derived.Deep.DeepCutAuto
namespace Go.Proofs.YtiellodbkanciaaGreatDoor
open Go.RowKit
namespace No
open Num (hid unvL unfF)
/-- Behind j of c rounds. -/
structure Pr (S : Bs) (c : Nat) (f : Bool) (j : Nat) (n : N) (T : Bs) (e : Bool) : Prop where
  ff : n.f = f
  kk : n.ks.length ≤ j
  cc : n.cs.length ≤ j
  pp : n.ps.length ≤ j + 1
  tt : T.length ≤ 281474976710656
  dd : (e = false ∧ parse S = (itsS f (c - j) T).map fun y => (n.app y.1, y.2)) ∨ (e = true ∧ parse S = none)
theorem app_assoc (a x y : N) : (a.app x).app y = a.app (x.app y) := by simp [N.app, List.append_assoc]
theorem app_end (n : N) : n.app ⟨n.f, [], [], []⟩ = n := by simp [N.app]
theorem app_start (f : Bool) (n : N) (h : n.f = f) : (⟨f, [], [], []⟩ : N).app n = n := by subst h; simp [N.app]
theorem itsS_f {f : Bool} {m : Nat} {S : Bs} {x : N} {t : Bs} (h : itsS f m S = some (x, t)) : x.f = f := (itsS_back f m S x t h).1
theorem Pr.start_leaf {S T1 T2 : Bs} {c : Nat} {e2 : Bool} (hS : S.length ≤ 281474976710656) (h1 : Ran S false (fxS S 1) 0 1 T1 false) (h2 : Ran T1 false (fxS T1 2) 0 c T2 e2) : Pr S c true 0 ⟨true, [], [], []⟩ T2 e2 := by
  obtain ⟨l1, h1⟩ := h1
  obtain ⟨l2, h2⟩ := h2
  refine ⟨rfl, Nat.le_refl _, Nat.le_refl _, Nat.zero_le _, by omega, ?_⟩
  have h1' : fxS S 1 = some (1, T1) := by
    rcases h1 with ⟨-, -, h1⟩ | ⟨h1, _⟩
    · exact h1
    · cases h1
  unfold parse
  rw [h1']
  rcases h2 with ⟨-, rfl, h2⟩ | ⟨rfl, -, h2⟩
  · refine Or.inl ⟨rfl, ?_⟩
    show (fxS T1 2).bind (fun c => bodyS 1 c.1 c.2) = _
    rw [h2]
    show bodyS 1 c T2 = _
    unfold bodyS
    rw [if_pos rfl, Nat.sub_zero]
    cases hi : itsS true c T2 with
    | none => rfl
    | some y =>
      obtain ⟨y, t⟩ := y
      show some (y, t) = some ((⟨true, [], [], []⟩ : N).app y, t)
      rw [app_start true y (itsS_f hi)]
  · refine Or.inr ⟨rfl, ?_⟩
    show (fxS T1 2).bind (fun c => bodyS 1 c.1 c.2) = _
    rw [h2 rfl]
    rfl
/-- One round of a leaf. -/
theorem Pr.next_leaf {S T T1 T2 T3 k : Bs} {c j z : Nat} {e e1 e2 e3 : Bool} {n : N} {x : C} (h : Pr S c true j n T e) (he : e = false) (hj : j < c) (h1 : Ran T e (upS T 64) 0 z T1 e1) (h2 : Ran T1 e1 (byS T1 z) [] k T2 e2) (h3 : CRan T2 e2 x T3 e3) :
    Pr S c true (j + 1) ⟨n.f, n.ks ++ [k], n.cs ++ [x], n.ps⟩ T3 e3 := by
  subst he
  obtain ⟨l1, h1⟩ := h1
  obtain ⟨l2, h2⟩ := h2
  obtain ⟨l3, h3⟩ := h3
  have ht := h.tt
  have hk := h.kk
  have hc := h.cc
  have hp := h.pp
  refine ⟨h.ff, by simp only [List.length_append, List.length_singleton]; omega, by simp only [List.length_append, List.length_singleton]; omega, by show n.ps.length ≤ _; omega, by omega, ?_⟩
  have hd : parse S = (itsS true (c - j) T).map fun y => (n.app y.1, y.2) := by
    rcases h.dd with ⟨_, h⟩ | ⟨h, _⟩
    · exact h
    · cases h
  obtain ⟨m, hm⟩ : ∃ m, c - j = m + 1 := ⟨c - j - 1, by omega⟩
  have hm2 : c - (j + 1) = m := by omega
  rw [hm] at hd
  rw [hm2]
  have hd2 : parse S = ((itS true T).bind fun x => (itsS true m x.2).map fun y => (x.1.app y.1, y.2)).map fun y => (n.app y.1, y.2) := hd
  have hit : itS true T = (keS T).bind fun k => itB true k.1 k.2 := rfl
  have hke : keS T = (upS T 64).bind fun z => byS z.2 z.1 := rfl
  rcases h1 with ⟨-, rfl, h1⟩ | ⟨rfl, -, h1⟩
  · rcases h2 with ⟨-, rfl, h2⟩ | ⟨rfl, -, h2⟩
    · have hke' : keS T = some (k, T2) := by rw [hke, h1]; exact h2
      rcases h3 with ⟨-, rfl, h3⟩ | ⟨rfl, h3⟩
      · refine Or.inl ⟨rfl, ?_⟩
        have hit' : itS true T = some (⟨true, [k], [x], []⟩, T3) := by
          rw [hit, hke']
          show itB true k T2 = _
          unfold itB
          rw [if_pos rfl, h3]
          rfl
        rw [hd2, hit']
        show ((itsS true m T3).map fun y => ((⟨true, [k], [x], []⟩ : N).app y.1, y.2)).map (fun y => (n.app y.1, y.2)) = _
        rw [Option.map_map]
        congr 1
        funext y
        show (n.app ((⟨true, [k], [x], []⟩ : N).app y.1), y.2) = _
        rw [← app_assoc]
        simp [N.app]
      · refine Or.inr ⟨rfl, ?_⟩
        have hit' : itS true T = none := by
          rw [hit, hke']
          show itB true k T2 = _
          unfold itB
          rw [if_pos rfl, h3 rfl]
          rfl
        rw [hd2, hit']
        rfl
    · have hit' : itS true T = none := by rw [hit, hke, h1]; show (byS T1 z).bind _ = _; rw [h2 rfl]; rfl
      rcases h3 with ⟨he, _⟩ | ⟨rfl, _⟩
      · cases he
      · exact Or.inr ⟨rfl, by rw [hd2, hit']; rfl⟩
  · have hit' : itS true T = none := by rw [hit, hke, h1 rfl]; rfl
    have e2t : e2 = true := by
      rcases h2 with ⟨he, _⟩ | ⟨he, _⟩
      · cases he
      · exact he
    subst e2t
    rcases h3 with ⟨he, _⟩ | ⟨rfl, _⟩
    · cases he
    · exact Or.inr ⟨rfl, by rw [hd2, hit']; rfl⟩
/-- One round of an inner node. -/
theorem Pr.next_inner {S T T1 T2 T3 k : Bs} {c j z q : Nat} {e e1 e2 e3 : Bool} {n : N} (h : Pr S c false j n T e) (he : e = false) (hj : j < c) (h1 : Ran T e (upS T 64) 0 z T1 e1) (h2 : Ran T1 e1 (byS T1 z) [] k T2 e2) (h3 : Ran T2 e2 (fxS T2 4) 0 q T3 e3) :
    Pr S c false (j + 1) ⟨n.f, n.ks ++ [k], n.cs, n.ps ++ [(q : Int)]⟩ T3 e3 := by
  subst he
  obtain ⟨l1, h1⟩ := h1
  obtain ⟨l2, h2⟩ := h2
  obtain ⟨l3, h3⟩ := h3
  have ht := h.tt
  have hk := h.kk
  have hc := h.cc
  have hp := h.pp
  refine ⟨h.ff, by simp only [List.length_append, List.length_singleton]; omega, by show n.cs.length ≤ _; omega, by simp only [List.length_append, List.length_singleton]; omega, by omega, ?_⟩
  have hd : parse S = (itsS false (c - j) T).map fun y => (n.app y.1, y.2) := by
    rcases h.dd with ⟨_, h⟩ | ⟨h, _⟩
    · exact h
    · cases h
  obtain ⟨m, hm⟩ : ∃ m, c - j = m + 1 := ⟨c - j - 1, by omega⟩
  have hm2 : c - (j + 1) = m := by omega
  rw [hm] at hd
  rw [hm2]
  have hd2 : parse S = ((itS false T).bind fun x => (itsS false m x.2).map fun y => (x.1.app y.1, y.2)).map fun y => (n.app y.1, y.2) := hd
  have hit : itS false T = (keS T).bind fun k => itB false k.1 k.2 := rfl
  have hke : keS T = (upS T 64).bind fun z => byS z.2 z.1 := rfl
  rcases h1 with ⟨-, rfl, h1⟩ | ⟨rfl, -, h1⟩
  · rcases h2 with ⟨-, rfl, h2⟩ | ⟨rfl, -, h2⟩
    · have hke' : keS T = some (k, T2) := by rw [hke, h1]; exact h2
      rcases h3 with ⟨-, rfl, h3⟩ | ⟨rfl, -, h3⟩
      · refine Or.inl ⟨rfl, ?_⟩
        have hit' : itS false T = some (⟨false, [k], [], [(q : Int)]⟩, T3) := by
          rw [hit, hke']
          show itB false k T2 = _
          unfold itB
          rw [if_neg (by decide), h3]
          rfl
        rw [hd2, hit']
        show ((itsS false m T3).map fun y => ((⟨false, [k], [], [(q : Int)]⟩ : N).app y.1, y.2)).map (fun y => (n.app y.1, y.2)) = _
        rw [Option.map_map]
        congr 1
        funext y
        show (n.app ((⟨false, [k], [], [(q : Int)]⟩ : N).app y.1), y.2) = _
        rw [← app_assoc]
        simp [N.app]
      · refine Or.inr ⟨rfl, ?_⟩
        have hit' : itS false T = none := by
          rw [hit, hke']
          show itB false k T2 = _
          unfold itB
          rw [if_neg (by decide), h3 rfl]
          rfl
        rw [hd2, hit']
        rfl
    · have hit' : itS false T = none := by rw [hit, hke, h1]; show (byS T1 z).bind _ = _; rw [h2 rfl]; rfl
      rcases h3 with ⟨he, _⟩ | ⟨rfl, _⟩
      · cases he
      · exact Or.inr ⟨rfl, by rw [hd2, hit']; rfl⟩
  · have hit' : itS false T = none := by rw [hit, hke, h1 rfl]; rfl
    have e2t : e2 = true := by
      rcases h2 with ⟨he, _⟩ | ⟨he, _⟩
      · cases he
      · exact he
    subst e2t
    rcases h3 with ⟨he, _⟩ | ⟨rfl, _⟩
    · cases he
    · exact Or.inr ⟨rfl, by rw [hd2, hit']; rfl⟩
theorem Pr.start_inner {S T1 T2 T3 : Bs} {c q : Nat} {e2 e3 : Bool} (hS : S.length ≤ 281474976710656) (h1 : Ran S false (fxS S 1) 0 2 T1 false) (h2 : Ran T1 false (fxS T1 2) 0 c T2 e2) (h3 : Ran T2 e2 (fxS T2 4) 0 q T3 e3) : Pr S c false 0 ⟨false, [], [], [(q : Int)]⟩ T3 e3 := by
  obtain ⟨l1, h1⟩ := h1
  obtain ⟨l2, h2⟩ := h2
  obtain ⟨l3, h3⟩ := h3
  refine ⟨rfl, Nat.le_refl _, Nat.le_refl _, Nat.le_refl _, by omega, ?_⟩
  have h1' : fxS S 1 = some (2, T1) := by
    rcases h1 with ⟨-, -, h1⟩ | ⟨h1, _⟩
    · exact h1
    · cases h1
  unfold parse
  rw [h1']
  show (_ ∧ (fxS T1 2).bind (fun c => bodyS 2 c.1 c.2) = _) ∨ (_ ∧ (fxS T1 2).bind (fun c => bodyS 2 c.1 c.2) = none)
  rcases h2 with ⟨-, rfl, h2⟩ | ⟨rfl, -, h2⟩
  · rw [h2]
    show (_ ∧ bodyS 2 c T2 = _) ∨ (_ ∧ bodyS 2 c T2 = none)
    unfold bodyS
    rw [if_neg (by decide), if_pos rfl, Nat.sub_zero]
    rcases h3 with ⟨-, rfl, h3⟩ | ⟨rfl, -, h3⟩
    · refine Or.inl ⟨rfl, ?_⟩
      rw [h3]
      rfl
    · refine Or.inr ⟨rfl, ?_⟩
      rw [h3 rfl]
      rfl
  · rcases h3 with ⟨he, _⟩ | ⟨rfl, _⟩
    · cases he
    · exact Or.inr ⟨rfl, by rw [h2 rfl]; rfl⟩
/-- A mark that is none. -/
theorem Pr.start_bad {S T1 T3 : Bs} {c m q : Nat} {e1 : Bool} (ht : T3.length ≤ 281474976710656) (h1 : Ran S false (fxS S 1) 0 m T1 e1) (hm1 : m ≠ 1) (hm2 : m ≠ 2) : Pr S c false 0 ⟨false, [], [], [(q : Int)]⟩ T3 true := by
  obtain ⟨l1, h1⟩ := h1
  refine ⟨rfl, Nat.le_refl _, Nat.le_refl _, Nat.le_refl _, ht, Or.inr ⟨rfl, ?_⟩⟩
  unfold parse
  rcases h1 with ⟨-, -, h1⟩ | ⟨-, -, h1⟩
  · rw [h1]
    show (fxS T1 2).bind (fun c => bodyS m c.1 c.2) = _
    cases hx : fxS T1 2 with
    | none => rfl
    | some c =>
      show bodyS m c.1 c.2 = none
      unfold bodyS
      rw [if_neg hm1, if_neg hm2]
  · rw [h1 rfl]; rfl
/-- The end. -/
theorem Pr.fin {S T : Bs} {c j : Nat} {f e : Bool} {n : N} (h : Pr S c f j n T e) (hj : c ≤ j) : (e = false ∧ parse S = some (n, T)) ∨ (e = true ∧ parse S = none) := by
  rcases h.dd with ⟨he, hd⟩ | hd
  · refine Or.inl ⟨he, ?_⟩
    rw [hd, show c - j = 0 by omega]
    show some (n.app ⟨f, [], [], []⟩, T) = _
    rw [← h.ff, app_end]
  · exact Or.inr hd
theorem Pr.broke {S T : Bs} {c j : Nat} {f : Bool} {n : N} (h : Pr S c f j n T true) : parse S = none := by
  rcases h.dd with ⟨he, _⟩ | ⟨_, hd⟩
  · cases he
  · exact hd
/-- What node() gives. -/
def NodeGives (S : Bs) (b : Nat) (w w' : World) (e : Ending) : Prop :=
  ∃ (n : N) (ks cs ps : Value) (T : Bs) (e1 : Bool), e = .returned (nV n.f ks cs ps) ∧ NAt w' ks cs ps n ∧ Rn b T e1 w' ∧ One b w w' ∧ ((e1 = false ∧ parse S = some (n, T)) ∨ (e1 = true ∧ parse S = none))
abbrev noObj : Obj := .cells #[.bool false, .slice none 0 0, .slice none 0 0, .slice none 0 0] tN
theorem St.begin {b : Nat} {T : Bs} {e f : Bool} {w w2 : World} (hb : b < w.heap.size) (hr : Rn b T e w2) (ho : One b (w.alloc noObj) w2) : St b w2.heap.size w.heap.size (w2.heap.size + 1) nilV nilV nilV T e ⟨f, [], [], []⟩ w (w2.alloc (.cells #[.bool f, .slice none 0 0, .slice none 0 0, .slice none 0 0] tN)) := by
  have h1 : w.heap.size < w2.heap.size := by have := ho.size; simp at this; omega
  have R0 : Nb w.heap.size false nilV nilV nilV w2 := (Nb.new false nilV nilV nilV w).one ho (by omega)
  exact ⟨hr.alloc _, Nb.new _ _ _ _ _, R0.alloc _, OwnL.empty _ _, OwnL.empty _ _, OwnL.empty _ _, fun i hi => by simp [nilV, Value.ownBlock] at hi, fun i hi => by simp [nilV, Value.ownBlock] at hi, fun i hi => by simp [nilV, Value.ownBlock] at hi,
    by omega, by omega, by omega, by omega, by omega, by omega, by simp, by omega, Nat.le_refl _, by omega, (((One.refl b w).alloc noObj).trans ho).alloc _⟩
end No
end Go.Proofs.YtiellodbkanciaaGreatDoor
