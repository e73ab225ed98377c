/-
  Contracts of Compare, the project's and the reference's.
-/
import Derived.Test.YtiellodbkanciaaGreatDoorRowGood
import Derived.Deep.QuietTactic
namespace Go.Proofs.YtiellodbkanciaaGreatDoor
open Go.RowKit
namespace Ro
open Va
open Num (hid)
theorem cmpS_is {a b : V} (h : a.good = true) (h' : b.good = true) : cmpS a.K a.N a.S b.K b.N b.S = cmp2 a b := cmp_yes h h'
theorem lex_at {l m : Vs} {k : Nat} (h : k < l.length) (h' : k < m.length) : lexV (l.drop k) (m.drop k) = orI (cmp2 l[k] m[k]) (lexV (l.drop (k + 1)) (m.drop (k + 1))) := by
  rw [List.drop_eq_getElem_cons h, List.drop_eq_getElem_cons h']
  rfl
theorem lex_more {l m : Vs} {k : Nat} (h : k < l.length) (h' : ¬ k < m.length) : lexV (l.drop k) (m.drop k) = 1 := by
  have e : m.drop k = [] := List.drop_of_length_le (by omega)
  rw [e, List.drop_eq_getElem_cons h]
  rfl
theorem lex_less {l m : Vs} {k : Nat} (h : ¬ k < l.length) (h' : k < m.length) : lexV (l.drop k) (m.drop k) = -1 := by
  have e : l.drop k = [] := List.drop_of_length_le (by omega)
  rw [e, List.drop_eq_getElem_cons h']
  rfl
theorem lex_end {l m : Vs} {k : Nat} (h : ¬ k < l.length) (h' : ¬ k < m.length) : lexV (l.drop k) (m.drop k) = 0 := by
  rw [List.drop_of_length_le (by omega), List.drop_of_length_le (by omega)]
  rfl
theorem goods {l : Vs} (h : goodR l = true) : ∀ j (hj : j < l.length), l[j].good = true := fun _ hj => ((goodR_iff l).1 h).2 _ (List.getElem_mem hj)
theorem few {l : Vs} (h : goodR l = true) : l.length ≤ 16 := ((goodR_iff l).1 h).1
theorem orI_ne {a b : Int} (h : a ≠ 0) : orI a b = a := if_neg h
theorem orI_eq {a b : Int} (h : a = 0) : orI a b = b := if_pos h
set_option maxRecDepth 100000 in
set_option maxHeartbeats 2000000 in
theorem comparef_any (x y : Value) (l m : Vs) (w : World) (h : RowAt w x l) (h' : RowAt w y m) (hg : goodR l = true) (hg' : goodR m = true) :
    Calls Tryz.prog 69 #[x, y, .func (.func 70) #[] #[]] w fun e w' => e = .returned (.int .i64 (lexV l m)) ∧ Below w.heap.size w w' := by
  obtain ⟨ao, cap, rfl, -, hat⟩ := h.ways
  obtain ⟨ao', cap', rfl, -, hat'⟩ := h'.ways
  have HAT := hid hat
  have HAT' := hid hat'
  have hl := few hg
  have hm := few hg'
  have HG := hid (goods hg)
  have HG' := hid (goods hg')
  clear h h' hat hat' hg hg'
  go_enter Tryz.func69, Tryz.ntmps69
  go_wp2
  go_loopw [13] (fun i wr => ∃ k : Nat, k ≤ l.length ∧ i = .int .i64 k ∧ lexV l m = lexV (l.drop k) (m.drop k) ∧ Below w.heap.size w wr) (fun i _ => l.length - (intOf i).toNat)
  case atStart => exact ⟨0, Nat.zero_le _, rfl, rfl, Below.refl _ _⟩
  case round =>
    obtain ⟨k, hk, rfl, he, hb⟩ := hrel
    have HE := hid he
    have HB := hid hb
    have hszr := hb.size
    clear he hb
    by_cases hlt : k < l.length
    · obtain ⟨b, o, rfl, hbl, x0, x1, x2⟩ := HAT.out k hlt
      have y0 := (HB.out.cell (p := ⟨b, o + k * 3, none⟩) hbl).trans x0
      have y1 := (HB.out.cell (p := ⟨b, o + k * 3 + 1, none⟩) hbl).trans x1
      have y2 := (HB.out.cell (p := ⟨b, o + k * 3 + 2, none⟩) hbl).trans x2
      clear x0 x1 x2
      by_cases hlt' : k < m.length
      · obtain ⟨b', o', rfl, hbl', x0, x1, x2⟩ := HAT'.out k hlt'
        have z0 := (HB.out.cell (p := ⟨b', o' + k * 3, none⟩) hbl').trans x0
        have z1 := (HB.out.cell (p := ⟨b', o' + k * 3 + 1, none⟩) hbl').trans x1
        have z2 := (HB.out.cell (p := ⟨b', o' + k * 3 + 2, none⟩) hbl').trans x2
        clear x0 x1 x2
        have hneq : ¬ b' = wr.heap.size := by omega
        have HC := hid (fun w => Va.compare_any l[k].K l[k].N l[k].S m[k].K m[k].N m[k].S w)
        rw [cmpS_is (HG.out k hlt) (HG'.out k hlt')] at HC
        have HL := hid (lex_at hlt hlt')
        generalize l[k] = p at *
        generalize m[k] = q at *
        have HB2 := hid ((HB.out.alloc hszr (.cells #[.int .i64 p.K, .int .i64 p.N, .string p.S] tV)).alloc (by simp; omega) (.cells #[.int .i64 q.K, .int .i64 q.N, .string q.S] tV))
        have HB1 := (Below.refl wr.heap.size wr).alloc (Nat.le_refl _) (.cells #[.int .i64 p.K, .int .i64 p.N, .string p.S] tV)
        have hb2 : b' < wr.heap.size := by omega
        have u0 := (HB1.cell (p := ⟨b', o' + k * 3, none⟩) hb2).trans z0
        have u1 := (HB1.cell (p := ⟨b', o' + k * 3 + 1, none⟩) hb2).trans z1
        have u2 := (HB1.cell (p := ⟨b', o' + k * 3 + 2, none⟩) hb2).trans z2
        clear HB1 z0 z1 z2
        go_wp2_with fail
        refine (HC.out _).mono ?_
        rintro e w3 ⟨rfl, hb3⟩
        have B3 := hid (HB2.out.trans (hb3.mono (by simp; omega)))
        clear hb3
        by_cases hc : cmp2 p q = 0
        · rw [hc]
          have HC0 := hid hc
          go_wp2
          go_roundw
          case rel => exact ⟨k + 1, by omega, by go_num, by rw [HE.out, HL.out, orI_eq HC0.out], B3.out⟩
          case measure => simp [intOf]; omega
        · have hc' : (cmp2 p q == 0) = false := by simpa using hc
          have HC0 := hid hc
          clear hc
          go_wp2
          go_ret
          exact ⟨by rw [HE.out, HL.out, orI_ne HC0.out]; rfl, B3.out⟩
      · have hlt2 : (m.length : Int) ≤ k := by omega
        have HL := hid (lex_more hlt hlt')
        have HB2 := hid (HB.out.alloc hszr (.cells #[.int .i64 l[k].K, .int .i64 l[k].N, .string l[k].S] tV))
        generalize l[k] = p at *
        go_wp2
        go_ret
        exact ⟨by rw [HE.out, HL.out]; rfl, HB2.out⟩
    · by_cases hlt' : k < m.length
      · have HL := hid (lex_less hlt hlt')
        have hlm : (l.length : Int) < m.length := by omega
        go_wp2
        go_ret
        exact ⟨by rw [HE.out, HL.out]; rfl, HB.out⟩
      · have HL := hid (lex_end hlt hlt')
        have hlm : ¬ (l.length : Int) < m.length := by omega
        go_wp2
        go_ret
        exact ⟨by rw [HE.out, HL.out]; rfl, HB.out⟩
theorem cmpR_no {a b : Vs} (h : goodR a = false ∨ goodR b = false) : cmpR a b = 0 := by
  unfold cmpR
  rw [if_neg]
  rintro ⟨h1, h2⟩
  rcases h with h | h <;> simp_all
theorem cmpR_yes {a b : Vs} (h : goodR a = true) (h' : goodR b = true) : cmpR a b = lexV a b := if_pos ⟨h, h'⟩
set_option maxRecDepth 100000 in
set_option maxHeartbeats 2000000 in
theorem compare_any (x y : Value) (l m : Vs) (w : World) (h : RowAt w x l) (h' : RowAt w y m) :
    Calls Tryz.prog 29 #[x, y] w fun e w' => e = .returned (.int .i64 (cmpR l m)) ∧ Below w.heap.size w w' := by
  have G := hid (good_any x l)
  have G' := hid (good_any y m)
  have H := hid h
  have H' := hid h'
  obtain ⟨ao, cap, hx, -, -⟩ := h.ways
  obtain ⟨ao', cap', hy, -, -⟩ := h'.ways
  subst hx hy
  clear h h'
  cases hg : goodR l with
  | false =>
    rw [cmpR_no (Or.inl hg)]
    rw [hg] at G
    go_enter Tryz.func29, Tryz.ntmps29
    go_wp2_with fail
    refine (G.out _ H.out).mono ?_
    rintro e w3 ⟨rfl, hb3⟩
    have B3 := hid hb3
    clear hb3
    go_wp2
    go_ret
    exact ⟨rfl, B3.out⟩
  | true =>
    rw [hg] at G
    cases hg' : goodR m with
    | false =>
      rw [cmpR_no (Or.inr hg')]
      rw [hg'] at G'
      go_enter Tryz.func29, Tryz.ntmps29
      go_wp2_with fail
      refine (G.out _ H.out).mono ?_
      rintro e w3 ⟨rfl, hb3⟩
      have B3 := hid hb3
      clear hb3
      go_wp2_with fail
      refine (G'.out _ (H'.out.on B3.out)).mono ?_
      rintro e w4 ⟨rfl, hb4⟩
      have B4 := hid (B3.out.trans (hb4.mono B3.out.size))
      clear hb4
      go_wp2
      go_ret
      exact ⟨rfl, B4.out⟩
    | true =>
      rw [cmpR_yes hg hg']
      rw [hg'] at G'
      have HG := hid hg
      have HG' := hid hg'
      clear hg hg'
      go_enter Tryz.func29, Tryz.ntmps29
      go_wp2_with fail
      refine (G.out _ H.out).mono ?_
      rintro e w3 ⟨rfl, hb3⟩
      have B3 := hid hb3
      clear hb3
      go_wp2_with fail
      refine (G'.out _ (H'.out.on B3.out)).mono ?_
      rintro e w4 ⟨rfl, hb4⟩
      have B4 := hid (B3.out.trans (hb4.mono B3.out.size))
      clear hb4
      go_wp2_with fail
      refine (comparef_any _ _ l m _ (H.out.on B4.out) (H'.out.on B4.out) HG.out HG'.out).mono ?_
      rintro e w5 ⟨rfl, hb5⟩
      have B5 := hid (B4.out.trans (hb5.mono B4.out.size))
      clear hb5
      go_wp2
      go_ret
      exact ⟨rfl, B5.out⟩
end Ro
end Go.Proofs.YtiellodbkanciaaGreatDoor
