/-
  Plain mathematics of a ring of blocks: who is newer, who is older; one that leaves, one that joins ahead of the seam. No program in sight.
-/
import Derived.Test.YthciofgkdfideaaCacheMath
namespace Go.Proofs.Ythciofgkdfideaa
namespace Ca
abbrev Fn := Nat → Nat
def upd (f : Fn) (a b : Nat) : Fn := fun k => if k = a then b else f k
theorem upd_same (f : Fn) (a b : Nat) : upd f a b a = b := if_pos rfl
theorem upd_other {f : Fn} {a b k : Nat} (h : k ≠ a) : upd f a b k = f k := if_neg h
/-- From a through l to b. -/
def Lk (nx pv : Fn) : Nat → List Nat → Nat → Prop
  | a, [], b => nx a = b ∧ pv b = a
  | a, x :: l, b => nx a = x ∧ pv x = a ∧ Lk nx pv x l b
variable {nx pv nx' pv' : Fn}
theorem Lk.split {a b x : Nat} {l r : List Nat} : Lk nx pv a (l ++ x :: r) b ↔ Lk nx pv a l x ∧ Lk nx pv x r b := by
  induction l generalizing a with
  | nil =>
    show nx a = x ∧ pv x = a ∧ Lk nx pv x r b ↔ (nx a = x ∧ pv x = a) ∧ Lk nx pv x r b
    exact and_assoc.symm
  | cons y l ih =>
    show nx a = y ∧ pv y = a ∧ Lk nx pv y (l ++ x :: r) b ↔ (nx a = y ∧ pv y = a ∧ Lk nx pv y l x) ∧ Lk nx pv x r b
    rw [ih]
    simp only [and_assoc]
theorem Lk.same {a b : Nat} {l : List Nat} (h : Lk nx pv a l b) (h1 : ∀ y, y = a ∨ y ∈ l → nx' y = nx y) (h2 : ∀ y, y = b ∨ y ∈ l → pv' y = pv y) : Lk nx' pv' a l b := by
  induction l generalizing a with
  | nil => exact ⟨(h1 a (Or.inl rfl)).trans h.1, (h2 b (Or.inl rfl)).trans h.2⟩
  | cons y l ih =>
    refine ⟨(h1 a (Or.inl rfl)).trans h.1, (h2 y (Or.inr List.mem_cons_self)).trans h.2.1, ih h.2.2 (fun z hz => h1 z ?_) (fun z hz => h2 z ?_)⟩
    · rcases hz with rfl | hz
      · exact Or.inr List.mem_cons_self
      · exact Or.inr (List.mem_cons_of_mem _ hz)
    · rcases hz with rfl | hz
      · exact Or.inl rfl
      · exact Or.inr (List.mem_cons_of_mem _ hz)
/-- Who stands ahead of the end. -/
theorem Lk.pv_mem {a b : Nat} {l : List Nat} (h : Lk nx pv a l b) : pv b = a ∨ pv b ∈ l := by
  induction l generalizing a with
  | nil => exact Or.inl h.2
  | cons y l ih =>
    rcases ih h.2.2 with h1 | h1
    · exact Or.inr (h1 ▸ List.mem_cons_self)
    · exact Or.inr (List.mem_cons_of_mem _ h1)
theorem Lk.nx_mem {a b : Nat} {l : List Nat} (h : Lk nx pv a l b) : nx a = b ∨ nx a ∈ l := by
  cases l with
  | nil => exact Or.inl h.1
  | cons y l => exact Or.inr (h.1 ▸ List.mem_cons_self)
theorem Lk.nx_pv {a b : Nat} {l : List Nat} (h : Lk nx pv a l b) : nx (pv b) = b := by
  induction l generalizing a with
  | nil => rw [h.2]; exact h.1
  | cons y l ih => exact ih h.2.2
/-- Another end. -/
theorem Lk.turn {a s q : Nat} {l : List Nat} (h : Lk nx pv a l s) (hn : (a :: l).Nodup) (hq : q ∉ l) : Lk (upd nx (pv s) q) (upd pv q (pv s)) a l q := by
  generalize hp : pv s = p
  induction l generalizing a with
  | nil =>
    have e : a = p := h.2.symm.trans hp
    subst e
    exact ⟨upd_same _ _ _, upd_same _ _ _⟩
  | cons x l ih =>
    rw [List.nodup_cons] at hn
    have hm : p = x ∨ p ∈ l := hp ▸ h.2.2.pv_mem
    have hpa : a ≠ p := by
      rintro rfl
      rcases hm with rfl | hm
      · exact hn.1 List.mem_cons_self
      · exact hn.1 (List.mem_cons_of_mem _ hm)
    rw [List.mem_cons, not_or] at hq
    exact ⟨(upd_other hpa).trans h.1, (upd_other (fun e => hq.1 e.symm)).trans h.2.1, ih h.2.2 hn.2 hq.2⟩
/-- One leaves. -/
theorem Lk.leave {z s : Nat} {l r : List Nat} (h : Lk nx pv z (l ++ s :: r) z) (hn : (z :: (l ++ s :: r)).Nodup) : Lk (upd nx (pv s) (nx s)) (upd pv (nx s) (pv s)) z (l ++ r) z := by
  obtain ⟨h1, h2⟩ := Lk.split.1 h
  have hp := h1.pv_mem
  have hzl : (z :: l).Nodup := by
    have := hn
    rw [List.nodup_cons, List.nodup_append] at this
    rw [List.nodup_cons]
    exact ⟨fun e => this.1 (List.mem_append_left _ e), this.2.1⟩
  rw [List.nodup_cons, List.nodup_append] at hn
  obtain ⟨hz, -, hr, hd⟩ := hn
  rw [List.nodup_cons] at hr
  cases r with
  | nil =>
    rw [List.append_nil, h2.1]
    exact h1.turn hzl (fun e => hz (List.mem_append_left _ e))
  | cons y r =>
    rw [h2.1]
    rw [List.nodup_cons] at hr
    have hyl : y ∉ l := fun e => hd y e y (List.mem_cons_of_mem _ List.mem_cons_self) rfl
    refine Lk.split.2 ⟨h1.turn hzl hyl, h2.2.2.same (fun k hk => upd_other ?_) (fun k hk => upd_other ?_)⟩
    · rintro rfl
      have hk2 : pv s ∈ s :: y :: r := by
        rcases hk with e | e
        · rw [e]; exact List.mem_cons_of_mem _ List.mem_cons_self
        · exact List.mem_cons_of_mem _ (List.mem_cons_of_mem _ e)
      rcases hp with e | e
      · exact hz (e ▸ List.mem_append_right _ hk2)
      · exact hd _ e _ hk2 rfl
    · rintro rfl
      rcases hk with e | e
      · exact hz (e ▸ List.mem_append_right _ (List.mem_cons_of_mem _ List.mem_cons_self))
      · exact hr.2.1 e
/-- One joins ahead of the seam: the pointers as they are told one behind the other. -/
theorem Lk.join {z s : Nat} {l : List Nat} (h : Lk nx pv z l z) (hn : (z :: l).Nodup) (hs : s ∉ z :: l) :
    Lk (upd (upd nx s z) (pv z) s) (upd (upd pv s (pv z)) z s) z (l ++ [s]) z := by
  have hz := (List.nodup_cons.1 hn).1
  rw [List.mem_cons, not_or] at hs
  have hp : pv z ≠ s := fun e => by
    rcases h.pv_mem with h1 | h1
    · exact hs.1 (e.symm.trans h1)
    · exact hs.2 (e ▸ h1)
  have h1 := h.turn (q := s) hn hs.2
  refine Lk.split.2 ⟨h1.same (fun y hy => ?_) (fun y hy => ?_), ?_, upd_same _ _ _⟩
  · have hys : y ≠ s := by
      rintro rfl
      rcases hy with e | e
      · exact hs.1 e
      · exact hs.2 e
    unfold upd
    by_cases e : y = pv z
    · rw [if_pos e, if_pos e]
    · rw [if_neg e, if_neg e, if_neg hys]
  · unfold upd
    have hyz : y ≠ z := by
      rintro rfl
      rcases hy with e | e
      · exact hs.1 e.symm
      · exact hz e
    rw [if_neg hyz]
  · rw [upd_other hp.symm, upd_same]
theorem nodup_leave {z s : Nat} {l r : List Nat} (hn : (z :: (l ++ s :: r)).Nodup) : (z :: (l ++ r)).Nodup ∧ s ∉ z :: (l ++ r) := by
  have h1 : (z :: (l ++ r)).Sublist (z :: (l ++ s :: r)) := (List.Sublist.append_left (List.sublist_cons_self s r) l).cons_cons z
  refine ⟨hn.sublist h1, ?_⟩
  have h2 : (z :: (l ++ s :: r)).Perm (s :: z :: (l ++ r)) := (List.Perm.cons z List.perm_middle).trans (List.Perm.swap s z _)
  exact (List.nodup_cons.1 (h2.nodup_iff.1 hn)).1
end Ca
end Go.Proofs.Ythciofgkdfideaa
