/-
  CacheLoses, its plain part: a store to which answers are written, and what each page was put as last. No program in sight.
-/
import Derived.Test.YthciofgkdfideaaCacheMath
namespace Go.Proofs.Ythciofgkdfideaa
namespace Ca
open Mem (Bs bs)
def keysP (l : List Pg) : List Int := l.map Prod.fst
/-- What stands last of a number. -/
def sof (n : Int) (s : List Pg) : Option Bs := s.foldl (fun a x => if x.1 = n then some x.2 else a) none
theorem sof_snoc (n : Int) (s : List Pg) (x : Pg) : sof n (s ++ [x]) = if x.1 = n then some x.2 else sof n s := by
  unfold sof
  rw [List.foldl_append]
  rfl
theorem sof_none {n : Int} {t : List Pg} (h : n ∉ keysP t) (s : List Pg) : sof n (s ++ t) = sof n s := by
  induction t generalizing s with
  | nil => rw [List.append_nil]
  | cons x t ih =>
    have e : keysP (x :: t) = x.1 :: keysP t := rfl
    rw [e, List.mem_cons, not_or] at h
    have h2 := ih h.2 (s ++ [x])
    rw [List.append_assoc, List.singleton_append] at h2
    rw [h2, sof_snoc, if_neg (fun e => h.1 e.symm)]
theorem mem_keysP {x : Pg} {l : List Pg} (h : x ∈ l) : x.1 ∈ keysP l := List.mem_map_of_mem h
theorem sof_mem {n : Int} {d : Bs} {t : List Pg} (hn : (keysP t).Nodup) (h : (n, d) ∈ t) (s : List Pg) : sof n (s ++ t) = some d := by
  induction t generalizing s with
  | nil => cases h
  | cons x t ih =>
    have e : keysP (x :: t) = x.1 :: keysP t := rfl
    rw [e, List.nodup_cons] at hn
    rw [show s ++ x :: t = (s ++ [x]) ++ t by simp]
    rcases List.mem_cons.1 h with h1 | h1
    · have e1 : x.1 = n := by rw [← h1]
      have e2 : x.2 = d := by rw [← h1]
      rw [sof_none (e1 ▸ hn.1), sof_snoc, if_pos e1, e2]
    · exact ih hn.2 h1 _
/-- What each number was put as last. -/
def lastS (n : Int) (d : Bs) (a : List Pg) : List Pg := if n ∈ keysP a then a.map (fun p => if p.1 = n then (n, d) else p) else a ++ [(n, d)]
theorem lastS_new {n : Int} {a : List Pg} (h : n ∉ keysP a) (d : Bs) : lastS n d a = a ++ [(n, d)] := if_neg h
theorem mem_lastS {n : Int} {d : Bs} {a : List Pg} {p : Pg} : p ∈ lastS n d a ↔ p = (n, d) ∨ (p ∈ a ∧ p.1 ≠ n) := by
  unfold lastS
  split
  · rename_i h
    rw [List.mem_map]
    constructor
    · rintro ⟨q, hq, rfl⟩
      split
      · exact Or.inl rfl
      · rename_i h2
        exact Or.inr ⟨hq, h2⟩
    · rintro (rfl | ⟨h1, h2⟩)
      · obtain ⟨q, hq, e⟩ := List.mem_map.1 h
        exact ⟨q, hq, if_pos e⟩
      · exact ⟨p, h1, if_neg h2⟩
  · rename_i h
    rw [List.mem_append, List.mem_singleton]
    constructor
    · rintro (h1 | h1)
      · exact Or.inr ⟨h1, fun e => h (e ▸ mem_keysP h1)⟩
      · exact Or.inl h1
    · rintro (h1 | h1)
      · exact Or.inr h1
      · exact Or.inl h1.1
theorem keys_lastS (n : Int) (d : Bs) (a : List Pg) : keysP (lastS n d a) = if n ∈ keysP a then keysP a else keysP a ++ [n] := by
  unfold lastS
  split
  · unfold keysP
    rw [List.map_map]
    apply List.map_congr_left
    intro p _
    show (if p.1 = n then (n, d) else p : Pg).1 = p.1
    split
    · rename_i h; exact h.symm
    · rfl
  · unfold keysP
    rw [List.map_append]
    rfl
theorem nodup_lastS (n : Int) (d : Bs) {a : List Pg} (h : (keysP a).Nodup) : (keysP (lastS n d a)).Nodup := by
  rw [keys_lastS]
  split
  · exact h
  · rename_i h2
    rw [List.nodup_append]
    refine ⟨h, by simp, fun x hx y hy e => ?_⟩
    simp at hy
    exact h2 (hy ▸ e ▸ hx)
theorem lastS_len (n : Int) (d : Bs) (a : List Pg) : (lastS n d a).length ≤ a.length + 1 := by
  unfold lastS
  split
  · simp
  · simp
/-- A store at the place where the number stands. -/
theorem lastS_set {n : Int} {d : Bs} {a : List Pg} (h : (keysP a).Nodup) {k : Nat} {p : Pg} (hk : a[k]? = some p) (e : p.1 = n) : lastS n d a = a.set k (n, d) := by
  have hm : n ∈ keysP a := e ▸ mem_keysP (List.mem_of_getElem? hk)
  unfold lastS
  rw [if_pos hm]
  clear hm
  induction a generalizing k with
  | nil => cases hk
  | cons x a ih =>
    have e1 : keysP (x :: a) = x.1 :: keysP a := rfl
    rw [e1, List.nodup_cons] at h
    cases k with
    | zero =>
      have e2 : x = p := by simpa using hk
      subst e2
      rw [List.set_cons_zero, List.map_cons, if_pos e]
      congr 1
      conv => rhs; rw [← List.map_id a]
      apply List.map_congr_left
      intro q hq
      refine if_neg (fun e3 : q.1 = n => h.1 ?_)
      rw [e, ← e3]
      exact mem_keysP hq
    | succ k =>
      rw [List.getElem?_cons_succ] at hk
      have hne : x.1 ≠ n := fun e3 => h.1 (e3 ▸ e ▸ mem_keysP (List.mem_of_getElem? hk))
      rw [List.set_cons_succ, List.map_cons, if_neg hne, ih h.2 hk]
theorem two_eq {a : List Pg} (h : (keysP a).Nodup) {p q : Pg} (hp : p ∈ a) (hq : q ∈ a) (e : p.1 = q.1) : p = q := by
  induction a with
  | nil => cases hp
  | cons z a ih =>
    have e1 : keysP (z :: a) = z.1 :: keysP a := rfl
    rw [e1, List.nodup_cons] at h
    rcases List.mem_cons.1 hp with e2 | h2
    · rcases List.mem_cons.1 hq with e3 | h3
      · exact e2.trans e3.symm
      · exact absurd (e2 ▸ e ▸ mem_keysP h3) h.1
    · rcases List.mem_cons.1 hq with e3 | h3
      · exact absurd (e3 ▸ e ▸ mem_keysP h2) h.1
      · exact ih h.2 h2 h3
/-- Where a number stands. -/
def placeM (n : Int) (a : List Pg) : Int := if n ∈ keysP a then ((keysP a).idxOf n : Nat) else -1
theorem place_miss {n : Int} {a : List Pg} (h : n ∉ keysP a) : placeM n a = -1 := if_neg h
theorem place_hit {n : Int} {a : List Pg} {i : Nat} {p : Pg} (h : n ∉ keysP (a.take i)) (hi : a[i]? = some p) (e : p.1 = n) : placeM n a = (i : Int) := by
  have hm : n ∈ keysP a := e ▸ mem_keysP (List.mem_of_getElem? hi)
  have hl : i < a.length := (List.getElem?_eq_some_iff.1 hi).1
  unfold placeM
  rw [if_pos hm]
  have e1 : keysP a = keysP (a.take i) ++ n :: keysP (a.drop (i + 1)) := by
    conv => lhs; rw [← List.take_append_drop i a, List.drop_eq_getElem_cons hl, (List.getElem?_eq_some_iff.1 hi).2]
    unfold keysP
    rw [List.map_append, List.map_cons, e]
  rw [e1, List.idxOf_append, if_neg h, List.idxOf_cons_self]
  unfold keysP
  rw [List.length_map, List.length_take]
  omega
theorem place_at {n : Int} {a : List Pg} (h : n ∈ keysP a) : ∃ (k : Nat) (p : Pg), placeM n a = (k : Int) ∧ a[k]? = some p ∧ p.1 = n := by
  have hl := List.idxOf_lt_length_of_mem h
  have h2 : (keysP a)[(keysP a).idxOf n]'hl = n := List.getElem_idxOf hl
  have hl2 : (keysP a).idxOf n < a.length := by unfold keysP at hl; rwa [List.length_map] at hl
  refine ⟨(keysP a).idxOf n, a[(keysP a).idxOf n]'hl2, ?_, List.getElem?_eq_getElem hl2, ?_⟩
  · unfold placeM
    rw [if_pos h]
  · rw [← List.getElem_map Prod.fst (h := by rw [List.length_map]; exact hl2)]
    exact h2
/-- Nothing is lost, so far. -/
structure Loses (size : Nat) (l : Row) (s a : List Pg) : Prop where
  ok : Ok size l
  all : ∀ x ∈ l, x.w = true
  nd : (keysP a).Nodup
  has : ∀ x ∈ l, pgOf x ∈ a
  out : ∀ p ∈ a, p.1 ∈ nos l ∨ sof p.1 s = some p.2
theorem Loses.nil (size : Nat) : Loses size [] [] [] := ⟨ok_nil size, fun _ h => (by cases h), List.nodup_nil, fun _ h => (by cases h), fun _ h => (by cases h)⟩
theorem nos_append (l m : Row) : nos (l ++ m) = nos l ++ nos m := List.map_append ..
theorem Loses.put {size : Nat} {l : Row} {s a : List Pg} (k : Loses size l s a) (h1 : 1 ≤ size) (n : Int) (d : Bs) : Loses size (putM size n d true l) (s ++ outM size n d true l) (lastS n d a) := by
  have hall : ∀ x ∈ onto n d true l, x.w = true ∧ pgOf x ∈ lastS n d a := by
    intro x hx
    unfold onto at hx
    rcases List.mem_append.1 hx with hx | hx
    · have h2 := mem_wo.1 hx
      exact ⟨k.all x h2.1, mem_lastS.2 (Or.inr ⟨k.has x h2.1, h2.2⟩)⟩
    · rw [List.mem_singleton] at hx
      subst hx
      exact ⟨rfl, mem_lastS.2 (Or.inl rfl)⟩
  have hno := nodup_onto n d true k.ok.nd
  have ho : outM size n d true l = ((onto n d true l).take ((onto n d true l).length - size)).map pgOf := by
    unfold outM
    rw [List.filter_eq_self.2 (fun x hx => (hall x (List.mem_of_mem_take hx)).1)]
  have hkeys : nos (onto n d true l) = keysP (outM size n d true l) ++ nos (putM size n d true l) := by
    rw [ho]
    unfold putM keysP nos
    rw [List.map_map, show (Prod.fst ∘ pgOf) = One.n from rfl, ← List.map_append, List.take_append_drop]
  have hnk := hno
  rw [hkeys, List.nodup_append] at hnk
  refine ⟨k.ok.put h1 n d true, fun x hx => (hall x (List.mem_of_mem_drop hx)).1, nodup_lastS n d k.nd, fun x hx => (hall x (List.mem_of_mem_drop hx)).2, fun p hp => ?_⟩
  by_cases hin : p.1 ∈ nos (onto n d true l)
  · rw [hkeys, List.mem_append] at hin
    rcases hin with hin | hin
    · refine Or.inr (sof_mem hnk.1 ?_ s)
      rw [ho] at hin ⊢
      unfold keysP at hin
      obtain ⟨q, hq, e⟩ := List.mem_map.1 hin
      obtain ⟨x, hx, rfl⟩ := List.mem_map.1 hq
      have h3 := two_eq (nodup_lastS n d k.nd) hp (hall x (List.mem_of_mem_take hx)).2 e.symm
      rw [show ((p.1, p.2) : Pg) = p from rfl, h3]
      exact hq
    · exact Or.inl hin
  · right
    have h2 : p.1 ≠ n := fun e => hin (by
      unfold onto
      rw [nos_append, List.mem_append]
      exact Or.inr (by simp [nos, e]))
    have h3 : p ∈ a := ((mem_lastS.1 hp).resolve_left (fun e => h2 (by rw [e]))).1
    have h4 : p.1 ∉ nos l := fun e => hin (by
      unfold onto
      rw [nos_append, List.mem_append, nos_wo]
      exact Or.inl (by simp [e, h2]))
    rw [sof_none (fun e => hin (by rw [hkeys]; exact List.mem_append_left _ e))]
    exact (k.out p h3).resolve_left h4
theorem Loses.get {size : Nat} {l : Row} {s a : List Pg} (k : Loses size l s a) (n : Int) : Loses size (getM n l) s a := by
  refine ⟨k.ok.get n, fun x hx => k.all x ((mem_getM k.ok.nd).1 hx), k.nd, fun x hx => k.has x ((mem_getM k.ok.nd).1 hx), fun p hp => ?_⟩
  refine (k.out p hp).imp_left (fun h => ?_)
  obtain ⟨x, hx, e⟩ := List.mem_map.1 h
  exact e ▸ mem_nos ((mem_getM k.ok.nd).2 hx)
/-- What is at hand is what was put last. -/
theorem Loses.read {size : Nat} {l : Row} {s a : List Pg} (k : Loses size l s a) {n : Int} {x : One} (h : get? n l = some x) : (n, x.d) ∈ a := by
  have h2 := get_mem h
  have h3 := k.has x h2.1
  rw [← h2.2]
  exact h3
/-- The end: with the dirty pages behind it, the store holds all. -/
theorem Loses.fin {size : Nat} {l : Row} {s a : List Pg} (k : Loses size l s a) {p : Pg} (hp : p ∈ a) : sof p.1 (s ++ dirtyM l) = some p.2 := by
  have hr := dirty_rise k.ok.nd
  have hnd : (keysP (dirtyM l)).Nodup := by
    unfold keysP
    rw [List.nodup_iff_pairwise_ne, List.pairwise_map]
    exact hr.imp (fun h e => by omega)
  by_cases hin : p.1 ∈ nos l
  · obtain ⟨x, hx, e⟩ := List.mem_map.1 hin
    have h3 := two_eq k.nd hp (k.has x hx) e.symm
    exact sof_mem hnd ((mem_dirty k.ok.nd).2 ⟨x, hx, k.all x hx, by rw [h3]⟩) s
  · rw [sof_none]
    · exact (k.out p hp).resolve_left hin
    · intro e
      obtain ⟨q, hq, e1⟩ := List.mem_map.1 e
      obtain ⟨x, hx, _, rfl⟩ := (mem_dirty k.ok.nd).1 hq
      exact hin (e1 ▸ mem_nos hx)
end Ca
end Go.Proofs.Ythciofgkdfideaa
