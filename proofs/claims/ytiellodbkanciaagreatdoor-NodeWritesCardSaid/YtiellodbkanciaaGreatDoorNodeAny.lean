/-
  The reader's node at a mark that is none; and its contract, all marks together.
-/
import Derived.Test.YtiellodbkanciaaGreatDoorNodeLeaf
import Derived.Test.YtiellodbkanciaaGreatDoorNodeInner
namespace Go.Proofs.YtiellodbkanciaaGreatDoor
open Go.RowKit
namespace No
open Num (hid unvL unfF)
theorem St.begin_bad {b : Nat} {T : Bs} {e f : Bool} {w w2 : World} (hb : b < w.heap.size) (hr : Rn b T e w2) (ho : One b (w.alloc noObj) w2) : St b w2.heap.size w.heap.size (w2.heap.size + 1) nilV nilV nilV T true ⟨f, [], [], []⟩ w ((w2.setCell ⟨b, 1, none⟩ (.bool true)).alloc (.cells #[.bool f, .slice none 0 0, .slice none 0 0, .slice none 0 0] tN)) := by
  have h := St.begin (f := f) hb hr.fail (ho.set 1 (.bool true))
  have e : (w2.setCell ⟨b, 1, none⟩ (.bool true)).heap.size = w2.heap.size := by simp [World.setCell]
  rw [e] at h
  exact h
set_option maxRecDepth 100000 in
set_option maxHeartbeats 8000000 in
theorem node_bad (b : Nat) (S T1 T2 : Bs) (c m : Nat) (e1 e2 : Bool) (hm1 : m ≠ 1) (hm2 : m ≠ 2) (hc : c < 65536) (w : World) (hb : b < w.heap.size)
    (h1 : Calls Tryz.prog 101 #[ptr b, .int .i64 1] (w.alloc noObj) fun e w' => e = .returned (.int .i64 m) ∧ Rn b T1 e1 w' ∧ One b (w.alloc noObj) w')
    (h2 : ∀ w1, Rn b T1 e1 w1 → Calls Tryz.prog 101 #[ptr b, .int .i64 2] w1 fun e w' => e = .returned (.int .i64 c) ∧ Rn b T2 e2 w' ∧ One b w1 w')
    (hP : parse S = none) :
    Calls Tryz.prog 54 #[ptr b] w fun e w' => NodeGives S b w w' e := by
  have H1 := hid h1
  have H2 := hid h2
  have HP := hid hP
  have x1 : ((m : Int) != 1) = true := by simp; omega
  have x2 : ((m : Int) != 2) = true := by simp; omega
  have x3 : ((m : Int) == 1) = false := by rw [beq_eq_false_iff_ne]; omega
  obtain ⟨iI, hiI, h0I, h1I, h2I⟩ := info_parts infoI
  clear h1 h2 hP hm1 hm2
  go_enter Tryz.func54, Tryz.ntmps54
  go_wp2_with fail
  refine H1.out.mono ?_
  rintro e w1 ⟨rfl, hr, ho⟩
  have HR := hid hr
  have HO := hid ho
  clear hr ho
  go_wp2_with fail
  refine (H2.out _ HR.out).mono ?_
  rintro e w2 ⟨rfl, hr, ho⟩
  have S0 := hid (St.begin_bad (f := false) hb hr (HO.out.trans ho))
  obtain ⟨k0, k1⟩ := hr.cells
  obtain ⟨k2, k3⟩ := hr.free
  have hlb2 := hr.lt
  clear hr ho
  have HF := hid (fun w' (h : Rn b T2 true w') => fixed_dead b 4 T2 w' h)
  go_wp2
  go_upto_region 6 with fail
  go_cut [] (fun wx => ∃ (p : Value), Hid (St b w2.heap.size w.heap.size (w2.heap.size + 1) nilV nilV p T2 true ⟨false, [], [], [0]⟩ w wx))
  case first =>
    go_region_law (first
      | (go_simp; go_at_call 101; refine (HF.out _ S0.out.drew.rd).mono ?_; rintro e w7 ⟨rfl, hr7, ho7⟩; have HS4 := hid (S0.out.drew.call ho7 hr7); obtain ⟨d0, d1, d2, d3⟩ := HS4.out.bx.cells; have hl7 := HS4.out.bx.lt; unfold nilV at d3; clear hr7 ho7)
      | ((refine step_append_lies _ (by rfl) (.tmp 26) (.tmp 29) tIs (by rfl) (w2.heap.size + 1) tI iI _ 1 8 Tryz.underlying24 hiI h0I h1I h2I rfl (by decide) nilV 0 [] (by rfl) (HS4.out.alloc (.cells #[.int .i64 0] tI)).p ⟨w7.heap.size, 0, none⟩ 1 1 (iV 0) (by rfl) rfl (World.news_of_block (heap_alloc_new w7 _)) (iV_one _) Nat.one_pos (by unfold maxLen; omega) (by omega) (HS4.out.alloc (.cells #[.int .i64 0] tI)).hs (w7.heap.size + 1) (by simp) ?_; intro g'' cap'' w8 hown hgrow hat hlt8; obtain ⟨-, x2, -, -, -⟩ := (HS4.out.alloc (.cells #[.int .i64 0] tI)).grown hgrow (fun i hi => by simp [nilV, Value.ownBlock] at hi); obtain ⟨y0, y1, y2, y3⟩ := x2.cells; obtain ⟨z0, z1, z2, z3⟩ := x2.free; unfold nilV at y3; have HS5 := hid ((HS4.out.alloc (.cells #[.int .i64 0] tI)).pushP (OwnL.snoc (enc := iV) hown) hgrow (hat.imp_right fun h => by simp [h])); clear hown hgrow hat x2)))
    all_goals
      go_wp2_with fail
      go_meet
      exact ⟨_, HS5⟩
  case rest =>
  obtain ⟨p, S1⟩ := hcut
  clear HF S0 k0 k1 k2 k3
  go_wp2
  go_loopw [33] (fun i wr => i = .int .i64 0 ∧ wr = wc) (fun _ _ => 0)
  case atStart => exact ⟨rfl, rfl⟩
  case round =>
    obtain ⟨rfl, rfl⟩ := hrel
    obtain ⟨aoP, capP, rfl⟩ := S1.out.p.form
    obtain ⟨q0, q1⟩ := S1.out.rd.cells
    have hl := S1.out.rd.lt
    obtain ⟨b0, b1, b2, b3⟩ := S1.out.bx.cells
    obtain ⟨r0, r1, r2, r3⟩ := S1.out.rs.cells
    obtain ⟨f0, f1, f2, f3⟩ := S1.out.rs.free
    have hlb := S1.out.bx.lt
    have hlr := S1.out.rs.lt
    have HFin := hid (S1.out.fin (w' := (((wr.setCell ⟨w.heap.size, 0, none⟩ (.bool false)).setCell ⟨w.heap.size, 1, none⟩ nilV).setCell ⟨w.heap.size, 2, none⟩ nilV).setCell ⟨w.heap.size, 3, none⟩ (.slice aoP 1 capP)) (by decide) (by decide) (by decide) rfl)
    unfold nilV at b1 b2 r1 r2 r3
    have b3' : wr.cell? ⟨w2.heap.size, 3, none⟩ = some (.slice aoP 1 capP) := b3
    have b0' : wr.cell? ⟨w2.heap.size, 0, none⟩ = some (.bool false) := b0
    clear b0 b3
    by_cases hlt : 0 < c
    · have hlt' : (0 : Int) < c := by omega
      go_wp2
      obtain ⟨g1, g2, g3, g4⟩ := HFin.out
      unfold nilV at g1 g2 g3 g4
      obtain ⟨u0, u1, u2, u3⟩ := g4.cells
      refine @bodyPost_ret Tryz.prog Tryz.f54 (fun e w' => NodeGives S b w w' e) _ _ (nV false (.slice none 0 0) (.slice none 0 0) (.slice aoP 1 capP)) ?_ ?_ ?_
      · simp [results, nV, go_sem, u0, u1, u2, u3]
      · rfl
      · exact ⟨_, _, _, _, T2, true, rfl, g1, g2, g3, Or.inr ⟨rfl, HP.out⟩⟩
    · have hlt' : ¬ (0 : Int) < c := by omega
      go_wp2
      obtain ⟨g1, g2, g3, g4⟩ := HFin.out
      unfold nilV at g1 g2 g3 g4
      obtain ⟨u0, u1, u2, u3⟩ := g4.cells
      refine @bodyPost_ret Tryz.prog Tryz.f54 (fun e w' => NodeGives S b w w' e) _ _ (nV false (.slice none 0 0) (.slice none 0 0) (.slice aoP 1 capP)) ?_ ?_ ?_
      · simp [results, nV, go_sem, u0, u1, u2, u3]
      · rfl
      · exact ⟨_, _, _, _, T2, true, rfl, g1, g2, g3, Or.inr ⟨rfl, HP.out⟩⟩
theorem fixed_det (b n : Nat) (hn1 : 1 ≤ n) (hn4 : n ≤ 4) (S : Bs) (e0 : Bool) (hS : S.length ≤ 281474976710656) : ∃ (y : Nat) (T : Bs) (e1 : Bool), Ran S e0 (fxS S n) 0 y T e1 ∧ ∀ w, Rn b S e0 w →
    Calls Tryz.prog 101 #[ptr b, .int .i64 (n : Nat)] w fun e w' => e = .returned (.int .i64 y) ∧ Rn b T e1 w' ∧ One b w w' := by
  cases e0 with
  | true => exact ⟨0, S, true, Ran.no (fun h => by cases h), fun w h => fixed_dead b n S w h⟩
  | false =>
    cases hb : fxS S n with
    | none =>
      refine ⟨0, S, true, Ran.no (fun _ => rfl), fun w h => (fixed_live b n hn1 hn4 S hS w h).mono ?_⟩
      rintro e w' ⟨ho, hx⟩
      rw [hb] at hx
      obtain ⟨rfl, hr⟩ := hx
      exact ⟨rfl, hr, ho⟩
    | some x =>
      refine ⟨x.1, x.2, false, Ran.ok rfl (fxS_len hb), fun w h => (fixed_live b n hn1 hn4 S hS w h).mono ?_⟩
      rintro e w' ⟨ho, hx⟩
      rw [hb] at hx
      obtain ⟨rfl, hr⟩ := hx
      exact ⟨rfl, hr, ho⟩
theorem ran_small {S T : Bs} {e e1 : Bool} {y : Nat} (h : Ran S e (fxS S 2) 0 y T e1) : y < 65536 := by
  rcases h.2 with ⟨-, -, h⟩ | ⟨-, rfl, -⟩
  · exact (fxS_back h).2
  · decide
theorem node_any (b : Nat) (S : Bs) (hS : S.length ≤ 281474976710656) (w : World) (h : Rn b S false w) :
    Calls Tryz.prog 54 #[ptr b] w fun e w' => NodeGives S b w w' e := by
  obtain ⟨m, T1, e1, hr1, h1⟩ := fixed_det b 1 (by decide) (by decide) S false hS
  have l1 : T1.length ≤ 281474976710656 := Nat.le_trans hr1.1 hS
  obtain ⟨c, T2, e2, hr2, h2⟩ := fixed_det b 2 (by decide) (by decide) T1 e1 l1
  have l2 : T2.length ≤ 281474976710656 := Nat.le_trans hr2.1 l1
  have hc := ran_small hr2
  have hb := h.lt
  have h1' := h1 _ (h.alloc noObj)
  by_cases hm1 : m = 1
  · subst hm1
    have e1f : e1 = false := by
      rcases hr1.2 with ⟨_, he, _⟩ | ⟨_, he, _⟩
      · exact he
      · cases he
    subst e1f
    exact node_leaf b S T1 T2 c e2 hS hc w hb h1' h2 (Pr.start_leaf hS hr1 hr2)
  · by_cases hm2 : m = 2
    · subst hm2
      have e1f : e1 = false := by
        rcases hr1.2 with ⟨_, he, _⟩ | ⟨_, he, _⟩
        · exact he
        · cases he
      subst e1f
      exact node_inner b S T1 T2 c e2 hS hc w hb h1' h2 l2 (fun q T3 e3 h3 => Pr.start_inner hS hr1 hr2 h3)
    · have hP : parse S = none := by
        have := Pr.start_bad (c := 0) (q := 0) l2 hr1 hm1 hm2
        exact this.broke
      exact node_bad b S T1 T2 c m e1 e2 hm1 hm2 hc w hb h1' h2 hP
end No
end Go.Proofs.YtiellodbkanciaaGreatDoor
