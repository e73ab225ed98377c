/-
  A region that draws its order: its first n operations are quiet in a class of worlds (they read, compute, or call what leaves a world of the class), each of the others waits for all that stand ahead of it: one walk of the first n in the text's order, then the others as a plain list, serves every order.
-/
import Derived.Deep.QuietTactic
import Derived.BigQuiet

namespace Go.Proofs.YtoifhcmgeackdaaGreatDoor
open Go.RowKit
namespace Tail

section
variable {P : Program} {md : Region.Mode}

/-- Each operation waits for such alone as stand ahead of it, and is guarded by such alone. -/
def backB (md : Region.Mode) (ops : Array Oper) : Bool :=
  (List.range ops.size).all fun i => match ops[i]? with
    | some o => (o.after.all fun e => !Region.binds md e || decide (e.on < i)) && (match o.guard with | some (g, _) => decide (g < i) | none => true)
    | none => true
/-- j waits for i. -/
def onB (md : Region.Mode) (ops : Array Oper) (j i : Nat) : Bool := match ops[j]? with
  | some o => o.after.any fun e => Region.binds md e && e.on == i
  | none => false
/-- Each of the first n is waited for, on the way to number n; behind it each waits for the one ahead of it. -/
def waitB (md : Region.Mode) (ops : Array Oper) (n : Nat) : Bool :=
  ((List.range n).all fun i => (List.range (n + 1)).any fun j => decide (i < j) && onB md ops j i) && ((List.range ops.size).all fun t => decide (t ≤ n) || onB md ops t (t - 1))

theorem on_edge {ops : Array Oper} {j i : Nat} (h : onB md ops j i = true) : ∃ o, ops[j]? = some o ∧ ∃ e ∈ o.after, Region.binds md e = true ∧ e.on = i := by
  unfold onB at h
  split at h
  · rename_i o ho
    obtain ⟨e, he, hh⟩ := Array.any_eq_true'.1 h
    simp only [Bool.and_eq_true, beq_iff_eq] at hh
    exact ⟨o, ho, e, he, hh.1, hh.2⟩
  · cases h
theorem back_edge {ops : Array Oper} (h : backB md ops = true) {i : Nat} {o : Oper} (ho : ops[i]? = some o) {e : Edge} (he : e ∈ o.after) (hb : Region.binds md e = true) : e.on < i := by
  have hi : i < ops.size := (Array.getElem?_eq_some_iff.1 ho).1
  have h1 := List.all_eq_true.1 h i (List.mem_range.2 hi)
  rw [ho] at h1
  simp only [Bool.and_eq_true] at h1
  have h2 := Array.all_eq_true'.1 h1.1 e he
  rw [hb] at h2
  simpa using h2
theorem back_guard {ops : Array Oper} (h : backB md ops = true) {i : Nat} {o : Oper} (ho : ops[i]? = some o) {g : Nat} {b : Bool} (hg : o.guard = some (g, b)) : g < i := by
  have hi : i < ops.size := (Array.getElem?_eq_some_iff.1 ho).1
  have h1 := List.all_eq_true.1 h i (List.mem_range.2 hi)
  rw [ho] at h1
  simp only [Bool.and_eq_true, hg] at h1
  simpa using h1.2
theorem wait_head {ops : Array Oper} {n : Nat} (h : waitB md ops n = true) {i : Nat} (hi : i < n) : ∃ j o, i < j ∧ j ≤ n ∧ ops[j]? = some o ∧ ∃ e ∈ o.after, Region.binds md e = true ∧ e.on = i := by
  unfold waitB at h
  simp only [Bool.and_eq_true] at h
  obtain ⟨j, hj, hh⟩ := List.any_eq_true.1 (List.all_eq_true.1 h.1 i (List.mem_range.2 hi))
  simp only [Bool.and_eq_true, decide_eq_true_eq] at hh
  obtain ⟨o, ho, he⟩ := on_edge hh.2
  exact ⟨j, o, hh.1, by have := List.mem_range.1 hj; omega, ho, he⟩
theorem wait_tail {ops : Array Oper} {n : Nat} (h : waitB md ops n = true) {t : Nat} {o : Oper} (ho : ops[t]? = some o) (hn : n < t) : ∃ e ∈ o.after, Region.binds md e = true ∧ e.on = t - 1 := by
  have ht : t < ops.size := (Array.getElem?_eq_some_iff.1 ho).1
  unfold waitB at h
  simp only [Bool.and_eq_true] at h
  have h1 := List.all_eq_true.1 h.2 t (List.mem_range.2 ht)
  have h2 : decide (t ≤ n) = false := decide_eq_false (by omega)
  rw [h2, Bool.false_or] at h1
  obtain ⟨o', ho', he⟩ := on_edge h1
  have : o' = o := Option.some.inj (ho'.symm.trans ho)
  subst this
  exact he

theorem getD_replicate_false (m j : Nat) : (Array.replicate m false).getD j false = false := by
  rcases Nat.lt_or_ge j m with h | h
  · simp [h]
  · simp [h]
/-- What is listed, read either way. -/
theorem in_both {l : Array Bool} {i : Nat} (hi : i < l.size) : l.getD i true = l.getD i false := by simp [hi]

/-- The first k have come up, the others not. -/
structure First (ops : Array Oper) (k : Nat) (listed : Array Bool) : Prop where
  size : listed.size = ops.size
  up : ∀ i, i < k → i < ops.size → listed.getD i false = true
  down : ∀ i, k ≤ i → i < ops.size → listed.getD i false = false

theorem First.next {ops : Array Oper} {k : Nat} {listed : Array Bool} (h : First ops k listed) (_hk : k < ops.size) : First ops (k + 1) (listed.setIfInBounds k true) := by
  refine ⟨by simp [h.size], fun i hi hs => ?_, fun i hi hs => ?_⟩
  · by_cases e : k = i
    · subst e; simp [h.size, hs]
    · rw [getD_set_ne false e]; exact h.up i (by omega) hs
  · rw [getD_set_ne false (by omega)]; exact h.down i (by omega) hs

/-- The tail: one order alone. -/
theorem any_tail {ops : Array Oper} {n : Nat} {Q : Exit → Act → World → Prop} (hb : backB md ops = true) (hw : waitB md ops n = true) : ∀ (l : List Oper) (k : Nat) (listed : Array Bool) (a : Act) (w : World) (F : Nat), n ≤ k → (∀ j, l[j]? = ops[k + j]?) → First ops k listed → l.length ≤ F →
    wpList P ops Q l a w → wpAny P md ops Q F listed a w
  | [], k, listed, a, w, F, _, hl, hf, _, h => by
    have hk : ops.size ≤ k := by
      have := (hl 0).symm
      simp at this
      omega
    have hr : Region.ready md ops listed = [] := by
      apply List.eq_nil_iff_forall_not_mem.2
      intro j hj
      obtain ⟨h1, o, ho, _⟩ := mem_ready.1 hj
      have hjs : j < ops.size := (Array.getElem?_eq_some_iff.1 ho).1
      rw [in_both (by rw [hf.size]; exact hjs), hf.up j (by omega) hjs] at h1
      cases h1
    cases F with
    | zero => exact ⟨hr, h⟩
    | succ F => exact ⟨fun _ => h, by rw [hr]; intro i hi; cases hi⟩
  | o :: l, k, listed, a, w, F, hnk, hl, hf, hF, h => by
    have h0 : ops[k]? = some o := by simpa using (hl 0).symm
    have hk : k < ops.size := (Array.getElem?_eq_some_iff.1 h0).1
    cases F with
    | zero => simp at hF
    | succ F =>
      have hin : k ∈ Region.ready md ops listed := by
        refine mem_ready.2 ⟨?_, o, h0, fun e he hbe => hf.up e.on (back_edge hb h0 he hbe) (by have := back_edge hb h0 he hbe; omega)⟩
        rw [in_both (by rw [hf.size]; exact hk)]
        exact hf.down k (Nat.le_refl _) hk
      refine ⟨fun h1 => (by rw [h1] at hin; cases hin), fun j hj => ?_⟩
      have hjk : j = k := by
        obtain ⟨h1, oj, hoj, hall⟩ := mem_ready.1 hj
        have hjs : j < ops.size := (Array.getElem?_eq_some_iff.1 hoj).1
        rw [in_both (by rw [hf.size]; exact hjs)] at h1
        rcases Nat.lt_trichotomy j k with hlt | heq | hgt
        · rw [hf.up j hlt hjs] at h1; cases h1
        · exact heq
        · obtain ⟨e, he, hbe, hon⟩ := wait_tail hw hoj (by omega)
          have h2 := hall e he hbe
          rw [hon, hf.down (j - 1) (by omega) (by omega)] at h2
          cases h2
      subst hjk
      have hwo : wpOp P ops Q j (wpList P ops Q l) a w := by unfold wpOp; simp only [h0]; exact h
      exact wpOp_mono (fun a' w' h' => any_tail hb hw l (j + 1) _ a' w' F (by omega) (fun i => by have := hl (i + 1); simpa [Nat.add_assoc, Nat.add_comm 1 i] using this) (hf.next hk) (by simpa using hF) h') hwo

/-- The head's list beside the whole's. -/
structure Beside (hd ops : Array Oper) (lh listed : Array Bool) : Prop where
  hsize : lh.size = hd.size
  size : listed.size = ops.size
  same : ∀ i, i < hd.size → listed.getD i false = lh.getD i false
  down : ∀ i, hd.size ≤ i → i < ops.size → listed.getD i false = false
  closed : ∀ j o, ops[j]? = some o → listed.getD j false = true → ∀ e ∈ o.after, Region.binds md e = true → listed.getD e.on false = true
theorem Beside.set {hd ops : Array Oper} {lh listed : Array Bool} (h : Beside (md := md) hd ops lh listed) (hle : hd.size ≤ ops.size) {i : Nat} (hi : i < hd.size) (hr : i ∈ Region.ready md ops listed) : Beside (md := md) hd ops (lh.setIfInBounds i true) (listed.setIfInBounds i true) := by
  refine ⟨by simp [h.hsize], by simp [h.size], fun j hj => ?_, fun j hj hs => ?_, fun j o ho hl e he hb => ?_⟩
  · by_cases e : i = j
    · subst e
      have h1 : i < listed.size := by rw [h.size]; omega
      have h2 : i < lh.size := by rw [h.hsize]; omega
      simp [h1, h2]
    · rw [getD_set_ne false e, getD_set_ne false e]; exact h.same j hj
  · rw [getD_set_ne false (by omega)]; exact h.down j hj hs
  · by_cases e1 : i = j
    · subst e1
      obtain ⟨_, oi, hoi, hall⟩ := mem_ready.1 hr
      have : oi = o := Option.some.inj (hoi.symm.trans ho)
      subst this
      exact getD_set_true (hall e he hb)
    · rw [getD_set_ne false e1] at hl
      exact getD_set_true (h.closed j o ho hl e he hb)
/-- While an operation of the head is yet to come, none of the tail may come up. -/
theorem Beside.waits {hd ops : Array Oper} {n : Nat} {lh listed : Array Bool} (h : Beside (md := md) hd ops lh listed) (hn : hd.size = n) (hw : waitB md ops n = true) : ∀ (d m : Nat), n - m = d → m < n → listed.getD m false = false → ∀ t, n ≤ t → t ∉ Region.ready md ops listed := by
  intro d
  induction d using Nat.strongRecOn with
  | _ d ih =>
    intro m hd' hm hun t ht hr
    obtain ⟨_, ot, hot, hall⟩ := mem_ready.1 hr
    have hts : t < ops.size := (Array.getElem?_eq_some_iff.1 hot).1
    by_cases htn : t = n
    · subst htn
      obtain ⟨j, o, hij, hjn, ho, e, he, hb, hon⟩ := wait_head hw hm
      by_cases hjt : j = t
      · subst hjt
        have : o = ot := Option.some.inj (ho.symm.trans hot)
        subst this
        have h2 := hall e he hb
        rw [hon, hun] at h2
        cases h2
      · cases hl : listed.getD j false with
        | true =>
          have h2 := h.closed j o ho hl e he hb
          rw [hon, hun] at h2
          cases h2
        | false => exact ih (t - j) (by omega) j rfl (by omega) hl t (Nat.le_refl _) hr
    · obtain ⟨e, he, hb, hon⟩ := wait_tail hw hot (by omega)
      have h2 := hall e he hb
      rw [hon, h.down (t - 1) (by omega) (by omega)] at h2
      cases h2

theorem wpOp_head {hd ops : Array Oper} {Q : Exit → Act → World → Prop} (hpre : ∀ i, i < hd.size → hd[i]? = ops[i]?) (hb : backB md ops = true) {i : Nat} (hi : i < hd.size) {K : Act → World → Prop} {a : Act} {w : World} (h : wpOp P hd Q i K a w) : wpOp P ops Q i K a w := by
  have e := hpre i hi
  unfold wpOp at h ⊢
  rw [← e]
  cases ho : hd[i]? with
  | none => simp only [ho] at h ⊢; exact h
  | some o =>
    simp only [ho] at h ⊢
    have hw : Region.wanted o (yielded hd a.tmps) = Region.wanted o (yielded ops a.tmps) := by
      unfold Region.wanted
      cases hg : o.guard with
      | none => rfl
      | some p =>
        obtain ⟨g, b⟩ := p
        have hgi := back_guard hb (by rw [← e]; exact ho) hg
        have : yielded hd a.tmps g = yielded ops a.tmps g := by unfold yielded; rw [hpre g (by omega)]
        simp only [this]
    rw [← hw]
    exact h

theorem any_head {hd ops : Array Oper} {n g : Nat} {C : World → Prop} {Q : Exit → Act → World → Prop} {Qh : Act → Prop} (hn : hd.size = n) (hle : n ≤ ops.size) (hg : ops.size - n ≤ g) (hpre : ∀ i, i < hd.size → hd[i]? = ops[i]?)
    (hb : backB md ops = true) (hw : waitB md ops n = true) (hT : ∀ a w, C w → Qh a → wpList P ops Q (ops.toList.drop n) a w) :
    ∀ (f : Nat) (lh listed : Array Bool) (a : Act) (w : World), Beside (md := md) hd ops lh listed → C w → wpAnyQ P md hd C Qh f lh a → wpAny P md ops Q (f + g) listed a w := by
  intro f
  have full : ∀ (F : Nat) (lh listed : Array Bool) (a : Act) (w : World), g ≤ F → Beside (md := md) hd ops lh listed → C w → Region.ready md hd lh = [] → Qh a → wpAny P md ops Q F listed a w := by
    intro F lh listed a w hF hbs hC hr hq
    have allUp : ∀ i, i < n → lh.getD i false = true := by
      intro i
      induction i using Nat.strongRecOn with
      | _ i ih =>
        intro hi
        cases hl : lh.getD i false with
        | true => rfl
        | false =>
          have hh : i < hd.size := by omega
          have ho : hd[i]? = some hd[i] := Array.getElem?_eq_getElem hh
          have : i ∈ Region.ready md hd lh := by
            refine mem_ready.2 ⟨?_, _, ho, fun e he hbe => ?_⟩
            · rw [in_both (by rw [hbs.hsize]; exact hh)]; exact hl
            · have hlt := back_edge hb (by rw [← hpre i hh]; exact ho) he hbe
              exact ih e.on hlt (by omega)
          rw [hr] at this
          cases this
    refine any_tail hb hw (ops.toList.drop n) n listed a w F (Nat.le_refl _) (fun j => by simp [List.getElem?_drop]) ⟨hbs.size, fun i hi hs => ?_, fun i hi hs => hbs.down i (by omega) hs⟩ (by simp; omega) (hT a w hC hq)
    rw [hbs.same i (by omega)]
    exact allUp i hi
  induction f with
  | zero =>
    intro lh listed a w hbs hC h
    exact full _ lh listed a w (by omega) hbs hC h.1 h.2
  | succ f ih =>
    intro lh listed a w hbs hC h
    by_cases hr : Region.ready md hd lh = []
    · exact full _ lh listed a w (by omega) hbs hC hr (h.1 hr)
    · rw [show f + 1 + g = (f + g) + 1 by omega]
      obtain ⟨m, hm⟩ := List.exists_mem_of_ne_nil _ hr
      -- an operation of the head is yet to come: none of the tail may come up
      have head : ∀ j, j ∈ Region.ready md ops listed → j < n := by
        intro j hj
        rcases Nat.lt_or_ge j n with hlt | hge
        · exact hlt
        · obtain ⟨m1, om, hom, _⟩ := mem_ready.1 hm
          have hms : m < hd.size := (Array.getElem?_eq_some_iff.1 hom).1
          have hun : listed.getD m false = false := by rw [hbs.same m hms, ← in_both (by rw [hbs.hsize]; exact hms)]; exact m1
          exact absurd hj (hbs.waits hn hw _ m rfl (by omega) hun j hge)
      have hin : m ∈ Region.ready md ops listed := by
        obtain ⟨m1, om, hom, hall⟩ := mem_ready.1 hm
        have hms : m < hd.size := (Array.getElem?_eq_some_iff.1 hom).1
        have hoo : ops[m]? = some om := by rw [← hpre m hms]; exact hom
        refine mem_ready.2 ⟨?_, om, hoo, fun e he hbe => ?_⟩
        · rw [in_both (by rw [hbs.size]; omega), hbs.same m hms, ← in_both (by rw [hbs.hsize]; exact hms)]; exact m1
        · have hlt := back_edge hb hoo he hbe
          rw [hbs.same e.on (by omega)]
          exact hall e he hbe
      refine ⟨fun h0 => (by rw [h0] at hin; cases hin), fun i hi => ?_⟩
      have hin' := head i hi
      have hih : i ∈ Region.ready md hd lh := by
        obtain ⟨h1, oi, hoi, hall⟩ := mem_ready.1 hi
        have his : i < hd.size := by omega
        refine mem_ready.2 ⟨?_, oi, by rw [hpre i his]; exact hoi, fun e he hbe => ?_⟩
        · rw [in_both (by rw [hbs.hsize]; exact his), ← hbs.same i his, ← in_both (by rw [hbs.size]; omega)]; exact h1
        · have hlt := back_edge hb hoi he hbe
          rw [← hbs.same e.on (by omega)]
          exact hall e he hbe
      refine wpOp_head hpre hb (by omega) (wpOp_of_qOp hC (fun a' w' hC' h' => ?_) (h.2 i hih))
      exact ih _ _ a' w' (hbs.set (by omega) (by omega) hi) hC' h'

/-- The law: l's first n operations quiet in C, what follows a plain list in every world of C. -/
theorem wp_region_quiet_tail {id : Nat} {Q : Exit → Act → World → Prop} {a : Act} {w : World} {l : List Oper} (n : Nat) (C : World → Prop) (hm : P.follows .mixedOrders = true)
    (hB : (Region.lexB .any (l.take n).toArray && backB .any l.toArray && waitB .any l.toArray n && decide (n ≤ l.length)) = true) (hC : C w.drew)
    (h : wpQuiet P (l.take n).toArray C (fun a' => ∀ w', C w' → wpList P l.toArray Q (l.drop n) a' w') (l.take n) a) : (Code.region id l.toArray true).wp P Q a w := by
  simp only [Bool.and_eq_true, decide_eq_true_eq] at hB
  obtain ⟨⟨⟨hL, hb⟩, hw⟩, hn⟩ := hB
  simp only [Region.lexB, Bool.and_eq_true] at hL
  have hhd : (l.take n).toArray.size = n := by simp; omega
  have hq := wpAnyQ_lex (C := C) (md := .any) hL.1 (l.take n) 0 (Array.replicate (l.take n).toArray.size false) a (by simp) (by simpa using hL.2) h
  refine wp_region_any hm ?_
  have hsz : l.toArray.size = (l.take n).length + (l.toArray.size - n) := by
    have : (l.take n).length = n := by simp; omega
    rw [this]; simp; omega
  rw [hsz]
  refine any_head (hd := (l.take n).toArray) (n := n) (C := C) (Qh := fun a' => ∀ w', C w' → wpList P l.toArray Q (l.drop n) a' w') hhd (by simpa using hn) (Nat.le_refl _) (fun i hi => ?_) hb hw (fun a' w' hC' hq' => by simpa using hq' w' hC') _ _ _ _ _ ⟨by simp, by simp; omega, fun i hi => ?_, fun i hi hs => ?_, fun j o ho hl => ?_⟩ hC hq
  · rw [hhd] at hi
    simp [hi]
  · rw [getD_replicate_false, getD_replicate_false]
  · rw [getD_replicate_false]
  · rw [getD_replicate_false] at hl; cases hl

end
end Tail
end Go.Proofs.YtoifhcmgeackdaaGreatDoor
