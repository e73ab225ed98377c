/-
  Contracts of the project's trunkAt and putTrunk.
-/
import Derived.Test.YtkoglikaaehhjaaSpareDesk
import Derived.Test.YtkoglikaaehhjaaSpareDec
import Derived.Handy
namespace Go.Proofs.Ytkoglikaaehhjaa
open Go.RowKit
namespace Sp
open Num (hid)
open Mem (Bs bs IAt tI tS tIs tSs Chg Row ptr blk_cell blk_free blk_new blk_set blk_other blk_alloc row_kept row_shape row_type)
/-- What was of R, and what is made from w1 on. -/
def Since (R : Nat → Prop) (w w1 : World) : Nat → Prop := fun k => (R k ∧ k < w.heap.size) ∨ w1.heap.size ≤ k
theorem Since.new {R : Nat → Prop} {w w1 : World} : ∀ k, w1.heap.size ≤ k → Since R w w1 k := fun _ h => Or.inr h
theorem Since.old {R : Nat → Prop} {w w1 : World} (hR : ∀ k, w.heap.size ≤ k → R k) (hz : w.heap.size ≤ w1.heap.size) : ∀ k, Since R w w1 k → R k := by
  rintro k (h | h)
  · exact h.1
  · exact hR k (Nat.le_trans hz h)
theorem Since.no {R : Nat → Prop} {w w1 : World} {k : Nat} (h1 : w.heap.size ≤ k) (h2 : k < w1.heap.size) : ¬ Since R w w1 k := by
  rintro (h | h)
  · omega
  · omega
variable {R : Nat → Prop} {w : World} {d b : Nat} {S : St}
theorem DeskR.since {w1 : World} (h : DeskR R w d b S) (hb : Below w.heap.size w w1) : DeskR (Since R w w1) w1 d b S :=
  ((h.mono (R' := fun k => R k ∧ k < w.heap.size) (fun _g hg e => ⟨e, hg⟩)).on hb).mono (fun _g _ e => Or.inl e)
theorem DeskR.wide {Q : Nat → Prop} {w1 : World} (h : DeskR Q w1 d b S) (hQ : ∀ k, Q k → R k) : DeskR R w1 d b S := h.mono (fun g _ e => hQ g e)
theorem DeskR.set {Q : Nat → Prop} {w1 : World} (h : DeskR Q w1 d b S) {g : Nat} (hg : ¬ Q g) (i : Nat) (u : Value) : DeskR Q (w1.setCell ⟨g, i, none⟩ u) d b S := h.apart (F := (· = g)) ((Chg.refl _ w1).root i u) (fun _k hk e => hg (hk ▸ e))
theorem tat_get {S : St} {n : Int} (h : ¬ (S.get n).1.2 = 0) : trunkAt S n = ((noT, (S.get n).1.2), (S.get n).2) := if_pos h
theorem tat_bad {S : St} {n : Int} (h : (S.get n).1.2 = 0) (h2 : ¬ (decT (S.get n).1.1).2 = 0) : trunkAt S n = ((noT, 30), (S.get n).2) := by unfold trunkAt; rw [if_neg (by simpa using h), if_pos h2]
theorem tat_ok {S : St} {n : Int} (h : (S.get n).1.2 = 0) (h2 : (decT (S.get n).1.1).2 = 0) : trunkAt S n = (((decT (S.get n).1.1).1, 0), (S.get n).2) := by unfold trunkAt; rw [if_neg (by simpa using h), if_neg (by simpa using h2)]
def AtGives (R : Nat → Prop) (d b : Nat) (x : (Tr × Int) × St) (w w' : World) (e : Ending) : Prop :=
  (∃ lv N, e = .returned (.tuple #[trV x.1.1 lv, .int .i64 x.1.2]) ∧ (w.heap.size ≤ N ∧ N ≤ w'.heap.size) ∧ Lrow N lv x.1.1.list w' ∧ DeskR (fun k => R k ∧ k < N) w' d b x.2) ∧ Chg R w w'
set_option maxRecDepth 100000 in
set_option maxHeartbeats 4000000 in
theorem trunkat_any (h : DeskR R w d b S) (hR : ∀ k, w.heap.size ≤ k → R k) {c : Nat} (hS : Small c S) (hc : c ≤ 50000) (n : Int) :
    Calls Try.prog 34 #[dkV d, .int .i64 n] w fun e w' => AtGives R d b (trunkAt S n) w w' e := by
  have T0 := hid (Tb.new 0 nilS w)
  have B0 := hid ((Below.refl w.heap.size w).alloc (Nat.le_refl _) (tObj 0 nilS))
  have hz : w.heap.size < (w.alloc (tObj 0 nilS)).heap.size := by simp
  have D1 := h.since B0.out
  have HG := hid (dget_any D1 hS hc n)
  have hno : ¬ Since R w (w.alloc (tObj 0 nilS)) w.heap.size := Since.no (Nat.le_refl _) hz
  have HNO := hid hno
  have HO := hid (Since.old (w1 := w.alloc (tObj 0 nilS)) hR (Nat.le_of_lt hz))
  have HA := hid (fun e => tat_get (S := S) (n := n) e)
  have HB := hid (fun e e2 => tat_bad (S := S) (n := n) e e2)
  have HC := hid (fun e e2 => tat_ok (S := S) (n := n) e e2)
  have HW := hid hR
  generalize Since R w (w.alloc (tObj 0 nilS)) = Q at *
  generalize hX : trunkAt S n = X at *
  generalize S.get n = G at *
  obtain ⟨⟨D, e1⟩, S1⟩ := G
  simp only at HG HA HB HC
  clear h hS hc hX D1 hno hR hz
  go_enter Try.func34, Try.ntmps34
  go_wp2_with fail
  refine HG.out.mono ?_
  rintro e w2 ⟨rfl, hd2, hc2⟩
  have D2 : Hid (DeskR (fun k => Q k ∧ k < w2.heap.size) w2 d b S1) := hid (hd2.mono (fun g hg e => ⟨e, hg⟩))
  have HN2 : Hid (¬ (Q w.heap.size ∧ w.heap.size < w2.heap.size)) := hid (fun e => HNO.out e.1)
  have HO2 : Hid (∀ k, (Q k ∧ k < w2.heap.size) → (R k ∧ k < w2.heap.size)) := hid (fun k e => ⟨HO.out k e.1, e.2⟩)
  have HZ2 : Hid (w.heap.size ≤ w2.heap.size) := hid (Nat.le_of_lt (T0.out.at hc2 HNO.out).lt)
  have C2 := hid hc2
  have T2 := hid (T0.out.at hc2 HNO.out)
  have CR : Hid (Chg R w w2) := hid ((Chg.of_below B0.out).trans (hc2.mono (fun k _ e => HO.out k e)))
  clear hd2 hc2
  have hcell := T2.out.cells
  obtain ⟨r0, r1⟩ := T2.out.cells
  obtain ⟨s0, s1⟩ := T2.out.free
  have hlr := T2.out.lt
  by_cases h1 : e1 = 0
  · subst h1
    have HDc := hid (decode_any D w2)
    have HB2 := hid (HB.out rfl)
    have HC2 := hid (HC.out rfl)
    clear HA HB HC hcell r0 r1 s0 s1 hlr
    generalize decT D = Y at *
    obtain ⟨T, ed⟩ := Y
    simp only at HB2 HC2
    go_wp2_with fail
    refine HDc.out.mono ?_
    rintro e w3 ⟨⟨lv, rfl, hrow⟩, hb3⟩
    obtain ⟨ao, cap, rfl⟩ := hrow.shape
    unfold trV
    simp only at hrow ⊢
    have D3 := hid (D2.out.on hb3)
    have HZ3 : Hid (∀ a x o, w2.heap.size ≤ ((put2 w3 w.heap.size a x).alloc o).heap.size) := hid (fun a x o => by have := hb3.size; simp [World.setCell]; omega)
    have T3 := hid (T2.out.on hb3)
    have L3 := hid hrow
    have CR3 := hid (CR.out.trans (Chg.of_below hb3))
    clear hrow hb3 D2 T2 CR C2
    have U4 := hid (Tb.new T.next (.slice ao T.list.length cap) w3)
    obtain ⟨r0, r1⟩ := T3.out.cells
    obtain ⟨s0, s1⟩ := T3.out.free
    have hlr3 := T3.out.lt
    obtain ⟨u0, u1⟩ := U4.out.cells
    have CF : Hid (∀ a x, Chg R w ((put2 w3 w.heap.size a x).alloc (tObj T.next (.slice ao T.list.length cap)))) := hid (fun a x => ((CR3.out.setCell (Or.inl (Nat.le_refl _)) _).setCell (Or.inl (Nat.le_refl _)) _).alloc _)
    have DF : Hid (∀ a x, DeskR (fun k => R k ∧ k < w2.heap.size) ((put2 w3 w.heap.size a x).alloc (tObj T.next (.slice ao T.list.length cap))) d b S1) := hid (fun a x => (((D3.out.set HN2.out _ _).set HN2.out _ _).wide HO2.out).on ((Below.refl _ _).alloc (Nat.le_refl _) _))
    by_cases h2 : ed = 0
    · subst h2
      have hx := HC2.out rfl
      subst hx
      clear HB2 HC2
      have HF : Hid (Tb w.heap.size T.next (.slice ao T.list.length cap) ((put2 w3 w.heap.size T.next (.slice ao T.list.length cap)).alloc (tObj T.next (.slice ao T.list.length cap))) ∧ Lrow w2.heap.size (.slice ao T.list.length cap) T.list ((put2 w3 w.heap.size T.next (.slice ao T.list.length cap)).alloc (tObj T.next (.slice ao T.list.length cap)))) := by
        refine hid ⟨((T3.out.set0 _).set1 _).on ((Below.refl _ _).alloc (Nat.le_refl _) _), ?_⟩
        have := ((L3.out.set T3.out (.int .i64 T.next) (i := 0)).set (T3.out.set0 T.next) (.slice ao T.list.length cap) (i := 1)).on ((Below.refl _ _).alloc (Nat.le_refl _) (tObj T.next (.slice ao T.list.length cap)))
        exact this
      go_wp2
      obtain ⟨g4, g1⟩ := HF.out
      obtain ⟨x0, x1⟩ := g4.cells
      refine @bodyPost_ret Try.prog Try.f34 (fun e w' => AtGives R d b ((T, 0), S1) w w' e) _ _ (.tuple #[trV T (.slice ao T.list.length cap), .int .i64 0]) ?_ ?_ ?_
      · simp [results, trV, go_sem, x0, x1]
      · rfl
      · exact ⟨⟨_, w2.heap.size, rfl, ⟨HZ2.out, HZ3.out _ _ _⟩, g1, DF.out _ _⟩, CF.out _ _⟩
    · have hx := HB2.out h2
      subst hx
      have h2' : (ed == 0) = false := by simpa using h2
      clear HB2 HC2
      have HF : Hid (Tb w.heap.size 0 nilS ((put2 w3 w.heap.size 0 nilS).alloc (tObj T.next (.slice ao T.list.length cap)))) := hid (((T3.out.set0 _).set1 _).on ((Below.refl _ _).alloc (Nat.le_refl _) _))
      go_wp2
      obtain ⟨x0, x1⟩ := HF.out.cells
      refine @bodyPost_ret Try.prog Try.f34 (fun e w' => AtGives R d b ((noT, 30), S1) w w' e) _ _ (.tuple #[trV noT nilS, .int .i64 30]) ?_ ?_ ?_
      · simp [results, trV, noT, go_sem, x0, x1]
      · rfl
      · exact ⟨⟨_, w2.heap.size, rfl, ⟨HZ2.out, HZ3.out _ _ _⟩, Lrow.nil _ _, DF.out _ _⟩, CF.out _ _⟩
  · have hx := HA.out h1
    subst hx
    have h1' : (e1 == 0) = false := by simpa using h1
    clear HA HB HC
    have HF : Hid (Tb w.heap.size 0 nilS (put2 w2 w.heap.size 0 nilS)) := hid ((T2.out.set0 _).set1 _)
    have CF : Hid (Chg R w (put2 w2 w.heap.size 0 nilS)) := hid ((CR.out.setCell (Or.inl (Nat.le_refl _)) _).setCell (Or.inl (Nat.le_refl _)) _)
    have DF : Hid (DeskR (fun k => R k ∧ k < w2.heap.size) (put2 w2 w.heap.size 0 nilS) d b S1) := hid (((D2.out.set HN2.out _ _).set HN2.out _ _).wide HO2.out)
    go_wp2
    obtain ⟨x0, x1⟩ := HF.out.cells
    refine @bodyPost_ret Try.prog Try.f34 (fun e w' => AtGives R d b ((noT, e1), S1) w w' e) _ _ (.tuple #[trV noT nilS, .int .i64 e1]) ?_ ?_ ?_
    · simp [results, trV, noT, go_sem, x0, x1]
    · rfl
    · exact ⟨⟨_, w2.heap.size, rfl, ⟨HZ2.out, Nat.le_of_eq (by simp [World.setCell])⟩, Lrow.nil _ _, DF.out⟩, CF.out⟩
end Sp
end Go.Proofs.Ytkoglikaaehhjaa
