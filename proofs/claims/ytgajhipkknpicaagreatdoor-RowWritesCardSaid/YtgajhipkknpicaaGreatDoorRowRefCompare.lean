/-
  Contract of the reference's Compare.
-/
import Derived.Test.YtgajhipkknpicaaGreatDoorRowCompare
import Derived.RegionTactic
import Derived.BigQuiet
namespace Go.Proofs.YtgajhipkknpicaaGreatDoor
open Go.RowKit
namespace Ro
open Va
open Num (hid)
set_option maxRecDepth 100000 in
set_option maxHeartbeats 4000000 in
theorem rcompare_any (x y : Value) (l m : Vs) (w : World) (h : RowAt w x l) (h' : RowAt w y m) :
    Calls Tryz.prog 15 #[x, y] w fun e w' => e = .returned (.int .i64 (cmpR l m)) ∧ Below w.heap.size w w' := by
  have G := hid (rgood_any x l)
  have G' := hid (rgood_any y m)
  have H := hid h
  have H' := hid h'
  obtain ⟨ao, cap, hx, -, hat⟩ := h.ways
  obtain ⟨ao', cap', hy, -, hat'⟩ := h'.ways
  subst hx hy
  have HAT := hid hat
  have HAT' := hid hat'
  clear h h' hat hat'
  cases hg : goodR l with
  | false =>
    rw [cmpR_no (Or.inl hg)]
    rw [hg] at G
    go_enter Tryz.func15, Tryz.ntmps15
    go_wp2_with fail
    refine (G.out _ H.out).mono ?_
    rintro e w3 ⟨rfl, hb3⟩
    have B3 := hid hb3
    clear hb3
    go_wp2
    go_ret
    exact ⟨rfl, B3.out⟩
  | true =>
    rw [hg] at G
    cases hg' : goodR m with
    | false =>
      rw [cmpR_no (Or.inr hg')]
      rw [hg'] at G'
      go_enter Tryz.func15, Tryz.ntmps15
      go_wp2_with fail
      refine (G.out _ H.out).mono ?_
      rintro e w3 ⟨rfl, hb3⟩
      have B3 := hid hb3
      clear hb3
      go_wp2_with fail
      refine (G'.out _ (H'.out.on B3.out)).mono ?_
      rintro e w4 ⟨rfl, hb4⟩
      have B4 := hid (B3.out.trans (hb4.mono B3.out.size))
      clear hb4
      go_wp2
      go_ret
      exact ⟨rfl, B4.out⟩
    | true =>
      rw [cmpR_yes hg hg']
      rw [hg'] at G'
      have hl := few hg
      have hm := few hg'
      have HG := hid (goods hg)
      have HG' := hid (goods hg')
      clear hg hg'
      go_enter Tryz.func15, Tryz.ntmps15
      go_wp2_with fail
      refine (G.out _ H.out).mono ?_
      rintro e w3 ⟨rfl, hb3⟩
      have B3 := hid hb3
      clear hb3
      go_wp2_with fail
      refine (G'.out _ (H'.out.on B3.out)).mono ?_
      rintro e w4 ⟨rfl, hb4⟩
      have B4 := hid (B3.out.trans (hb4.mono B3.out.size))
      clear hb4
      go_wp2
      go_loopw [5] (fun i wr => ∃ k : Nat, k ≤ l.length ∧ k ≤ m.length ∧ i = .int .i64 k ∧ lexV l m = lexV (l.drop k) (m.drop k) ∧ Below w.heap.size w wr) (fun i _ => l.length - (intOf i).toNat)
      case atStart => exact ⟨0, Nat.zero_le _, Nat.zero_le _, rfl, rfl, B4.out⟩
      case round =>
        obtain ⟨k, hk, hk', rfl, he, hb⟩ := hrel
        have HE := hid he
        have HB := hid hb
        have hszr := hb.size
        clear he hb
        by_cases hlt : k < l.length
        · by_cases hlt' : k < m.length
          · obtain ⟨b, o, rfl, hbl, x0, x1, x2⟩ := HAT.out k hlt
            obtain ⟨b', o', rfl, hbl', x0', x1', x2'⟩ := HAT'.out k hlt'
            have y0 : ∀ wx, Below wr.heap.size wr wx → wx.cell? ⟨b, o + k * 3, none⟩ = some (.int .i64 l[k].K) := fun wx hx => (hx.cell (p := ⟨b, o + k * 3, none⟩) (Nat.lt_of_lt_of_le hbl hszr)).trans ((HB.out.cell (p := ⟨b, o + k * 3, none⟩) hbl).trans x0)
            have y1 : ∀ wx, Below wr.heap.size wr wx → wx.cell? ⟨b, o + k * 3 + 1, none⟩ = some (.int .i64 l[k].N) := fun wx hx => (hx.cell (p := ⟨b, o + k * 3 + 1, none⟩) (Nat.lt_of_lt_of_le hbl hszr)).trans ((HB.out.cell (p := ⟨b, o + k * 3 + 1, none⟩) hbl).trans x1)
            have y2 : ∀ wx, Below wr.heap.size wr wx → wx.cell? ⟨b, o + k * 3 + 2, none⟩ = some (.string l[k].S) := fun wx hx => (hx.cell (p := ⟨b, o + k * 3 + 2, none⟩) (Nat.lt_of_lt_of_le hbl hszr)).trans ((HB.out.cell (p := ⟨b, o + k * 3 + 2, none⟩) hbl).trans x2)
            have z0 : ∀ wx, Below wr.heap.size wr wx → wx.cell? ⟨b', o' + k * 3, none⟩ = some (.int .i64 m[k].K) := fun wx hx => (hx.cell (p := ⟨b', o' + k * 3, none⟩) (Nat.lt_of_lt_of_le hbl' hszr)).trans ((HB.out.cell (p := ⟨b', o' + k * 3, none⟩) hbl').trans x0')
            have z1 : ∀ wx, Below wr.heap.size wr wx → wx.cell? ⟨b', o' + k * 3 + 1, none⟩ = some (.int .i64 m[k].N) := fun wx hx => (hx.cell (p := ⟨b', o' + k * 3 + 1, none⟩) (Nat.lt_of_lt_of_le hbl' hszr)).trans ((HB.out.cell (p := ⟨b', o' + k * 3 + 1, none⟩) hbl').trans x1')
            have z2 : ∀ wx, Below wr.heap.size wr wx → wx.cell? ⟨b', o' + k * 3 + 2, none⟩ = some (.string m[k].S) := fun wx hx => (hx.cell (p := ⟨b', o' + k * 3 + 2, none⟩) (Nat.lt_of_lt_of_le hbl' hszr)).trans ((HB.out.cell (p := ⟨b', o' + k * 3 + 2, none⟩) hbl').trans x2')
            have HC := hid (fun w => Va.rcompare_any l[k].K l[k].N l[k].S m[k].K m[k].N m[k].S w)
            rw [cmpS_is (HG.out k hlt) (HG'.out k hlt')] at HC
            have HL := hid (lex_at hlt hlt')
            clear x0 x1 x2 x0' x1' x2'
            generalize l[k] = p at *
            generalize m[k] = q at *
            go_wp2_with fail
            refine wp_quiet_in (fun wx => Below wr.heap.size wr wx) (by kernel_rfl) (by kernel_rfl) (Below.refl _ _).drew ?_
            go_big_quiet_want
            go_big_quiet_op
            go_big_quiet_on
            go_big_quiet_want
            go_big_quiet_op
            go_big_quiet_on
            go_big_quiet_want
            go_big_quiet_op
            refine ⟨.pointer (some ⟨b, o + k * 3, none⟩), fun wx hx => ?_, ?_⟩
            · simp [go_sem]
            go_big_quiet_on
            go_big_quiet_want
            go_big_quiet_op
            refine ⟨.agg #[.int .i64 p.K, .int .i64 p.N, .string p.S], fun wx hx => ?_, ?_⟩
            · simp [go_sem, y0 wx hx, y1 wx hx, y2 wx hx]
            go_big_quiet_on
            go_big_quiet_want
            go_big_quiet_op
            go_big_quiet_on
            go_big_quiet_want
            go_big_quiet_op
            go_big_quiet_on
            go_big_quiet_want
            go_big_quiet_op
            refine ⟨.pointer (some ⟨b', o' + k * 3, none⟩), fun wx hx => ?_, ?_⟩
            · simp [go_sem]
            go_big_quiet_on
            go_big_quiet_want
            go_big_quiet_op
            refine ⟨.agg #[.int .i64 q.K, .int .i64 q.N, .string q.S], fun wx hx => ?_, ?_⟩
            · simp [go_sem, z0 wx hx, z1 wx hx, z2 wx hx]
            go_big_quiet_on
            go_big_quiet_want
            go_big_quiet_op
            refine ⟨.int .i64 (cmp2 p q), fun wx hx => ?_, ?_⟩
            · refine (HC.out _).mono ?_
              rintro e w5 ⟨rfl, hb5⟩
              exact ⟨rfl, hx.trans (hb5.mono hx.size)⟩
            go_big_quiet_on
            go_big_quiet_want
            go_big_quiet_op
            go_big_quiet_on
            refine wpQuiet_nil ?_
            intro w5 hb5
            have B5 := hid (HB.out.trans (hb5.mono hszr))
            clear hb5 y0 y1 y2 z0 z1 z2
            by_cases hc : cmp2 p q = 0
            · rw [hc]
              have HC0 := hid hc
              go_wp2
              go_roundw
              case rel => exact ⟨k + 1, by omega, by omega, by go_num, by rw [HE.out, HL.out, orI_eq HC0.out], B5.out⟩
              case measure => simp [intOf]; omega
            · have hc' : (cmp2 p q == 0) = false := by simpa using hc
              have HC0 := hid hc
              clear hc
              go_wp2
              go_ret
              exact ⟨by rw [HE.out, HL.out, orI_ne HC0.out]; rfl, B5.out⟩
          · have HL := hid (lex_more hlt hlt')
            have hml : (m.length : Int) < l.length := by omega
            have hml2 : ¬ (l.length : Int) < m.length := by omega
            go_wp2
            go_ret
            exact ⟨by rw [HE.out, HL.out]; rfl, HB.out⟩
        · by_cases hlt' : k < m.length
          · have HL := hid (lex_less hlt hlt')
            have hlm : (l.length : Int) < m.length := by omega
            go_wp2
            go_ret
            exact ⟨by rw [HE.out, HL.out]; rfl, HB.out⟩
          · have HL := hid (lex_end hlt hlt')
            have hlm : ¬ (l.length : Int) < m.length := by omega
            have hml : ¬ (m.length : Int) < l.length := by omega
            go_wp2
            go_ret
            exact ⟨by rw [HE.out, HL.out]; rfl, HB.out⟩
end Ro
end Go.Proofs.YtgajhipkknpicaaGreatDoor
