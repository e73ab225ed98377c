/-
  The reader's node at an inner node's mark.
-/
import Derived.Test.YtoifhcmgeackdaaGreatDoorGrpTrNoC
namespace Go.Proofs.YtoifhcmgeackdaaGreatDoor
open Go.RowKit
namespace No
open Num (hid unvL unfF)
set_option maxRecDepth 100000 in
set_option maxHeartbeats 8000000 in
theorem node_inner (b : Nat) (S T1 T2 : Bs) (c : Nat) (e2 : Bool) (_hS : S.length ≤ 281474976710656) (hc : c < 65536) (w : World) (hb : b < w.heap.size)
    (h1 : Calls Tryz.prog 149 #[ptr b, .int .i64 1] (w.alloc noObj) fun e w' => e = .returned (.int .i64 2) ∧ Rn b T1 false w' ∧ One b (w.alloc noObj) w')
    (h2 : ∀ w1, Rn b T1 false w1 → Calls Tryz.prog 149 #[ptr b, .int .i64 2] w1 fun e w' => e = .returned (.int .i64 c) ∧ Rn b T2 e2 w' ∧ One b w1 w')
    (hT2 : T2.length ≤ 281474976710656) (hpr : ∀ q T3 e3, Ran T2 e2 (fxS T2 4) 0 q T3 e3 → Pr S c false 0 ⟨false, [], [], [(q : Int)]⟩ T3 e3) :
    Calls Tryz.prog 120 #[ptr b] w fun e w' => NodeGives S b w w' e := by
  have H1 := hid h1
  have H2 := hid h2
  have HP := hid hpr
  obtain ⟨iS, hiS, h0S, h1S, h2S⟩ := info_parts infoS
  obtain ⟨iI, hiI, h0I, h1I, h2I⟩ := info_parts infoI
  clear h1 h2 hpr
  go_enter Tryz.func120, Tryz.ntmps120
  go_wp2_with fail
  refine H1.out.mono ?_
  rintro e w1 ⟨rfl, hr, ho⟩
  have HR := hid hr
  have HO := hid ho
  clear hr ho
  go_wp2_with fail
  refine (H2.out _ HR.out).mono ?_
  rintro e w2 ⟨rfl, hr, ho⟩
  have S0 := hid (St.begin (f := false) hb hr (HO.out.trans ho))
  clear hr ho
  have HF : Hid (∀ w', Rn b T2 e2 w' → Calls Tryz.prog 149 #[ptr b, .int .i64 4] w' fun e w3 => ∃ (y : Nat) (T3 : Bs) (e3 : Bool), e = .returned (.int .i64 y) ∧ Rn b T3 e3 w3 ∧ One b w' w3 ∧ Ran T2 e2 (fxS T2 4) 0 y T3 e3) := hid (fun w' h => fixed_any b 4 (by decide) (by decide) T2 e2 hT2 w' h)
  go_wp2
  go_upto_region 6 with fail
  go_cut [] (fun wx => ∃ (q : Nat) (T3 : Bs) (e3 : Bool) (p : Value), Hid (St b w2.heap.size w.heap.size (w2.heap.size + 1) nilV nilV p T3 e3 ⟨false, [], [], [(q : Int)]⟩ w wx) ∧ Hid (Ran T2 e2 (fxS T2 4) 0 q T3 e3))
  case first =>
    go_region_law (first
      | (go_simp; go_at_call 149; refine (HF.out _ S0.out.drew.rd).mono ?_; rintro e w7 ⟨q, T3, e3, rfl, hr7, ho7, hran7⟩; have HS4 := hid (S0.out.drew.call ho7 hr7); have HR3 := hid hran7; obtain ⟨d0, d1, d2, d3⟩ := HS4.out.bx.cells; have hl7 := HS4.out.bx.lt; unfold nilV at d3; clear hr7 ho7 hran7)
      | ((refine step_append_lies _ (by rfl) (.tmp 26) (.tmp 29) tIs (by rfl) (w2.heap.size + 1) tI iI _ 1 8 Tryz.underlying58 hiI h0I h1I h2I rfl (by decide) nilV 0 [] (by rfl) (HS4.out.alloc (.cells #[.int .i64 (q : Int)] tI)).p ⟨w7.heap.size, 0, none⟩ 1 1 (iV (q : Int)) (by rfl) rfl (World.news_of_block (heap_alloc_new w7 _)) (iV_one _) Nat.one_pos (by unfold maxLen; omega) (by omega) (HS4.out.alloc (.cells #[.int .i64 (q : Int)] tI)).hs (w7.heap.size + 1) (by simp) ?_; intro g'' cap'' w8 hown hgrow hat hlt8; obtain ⟨-, x2, -, -, -⟩ := (HS4.out.alloc (.cells #[.int .i64 (q : Int)] tI)).grown hgrow (fun i hi => by simp [nilV, Value.ownBlock] at hi); obtain ⟨y0, y1, y2, y3⟩ := x2.cells; obtain ⟨z0, z1, z2, z3⟩ := x2.free; unfold nilV at y3; have HS5 := hid ((HS4.out.alloc (.cells #[.int .i64 (q : Int)] tI)).pushP (OwnL.snoc (enc := iV) hown) hgrow (hat.imp_right fun h => by simp [h])); clear hown hgrow hat x2)))
    all_goals
      go_wp2_with fail
      go_meet
      exact ⟨q, T3, e3, _, HS5, HR3⟩
  case rest =>
  obtain ⟨q, T3, e3, p, S1, HR3⟩ := hcut
  have HP' := hid (HP.out q T3 e3 HR3.out)
  have HFx : Hid (∀ (T : Bs) (e0 : Bool) w' (hT : T.length ≤ 281474976710656), Rn b T e0 w' → Calls Tryz.prog 149 #[ptr b, .int .i64 4] w' fun e w3 => ∃ (y : Nat) (T3 : Bs) (e3 : Bool), e = .returned (.int .i64 y) ∧ Rn b T3 e3 w3 ∧ One b w' w3 ∧ Ran T e0 (fxS T 4) 0 y T3 e3) := hid (fun T e0 w' hT h => fixed_any b 4 (by decide) (by decide) T e0 hT w' h)
  clear HF HP
  go_wp2
  go_loopw [33] (fun i wr => ∃ (j : Nat) (n : N) (ks cs ps : Value) (T : Bs) (e : Bool), j ≤ c ∧ i = .int .i64 j ∧ Hid (St b w2.heap.size w.heap.size (w2.heap.size + 1) ks cs ps T e n w wr) ∧ Hid (Pr S c false j n T e)) (fun i _ => c - (intOf i).toNat)
  case atStart => exact ⟨0, _, _, _, _, _, _, Nat.zero_le _, rfl, S1, HP'⟩
  case round =>
    obtain ⟨j, n, ks, cs, ps, T, e, hj, rfl, HS, HPr⟩ := hrel
    obtain ⟨aoK, capK, rfl⟩ := HS.out.k.form
    obtain ⟨aoC, capC, rfl⟩ := HS.out.c.form
    obtain ⟨aoP, capP, rfl⟩ := HS.out.p.form
    obtain ⟨q0, q1⟩ := HS.out.rd.cells
    have hl := HS.out.rd.lt
    obtain ⟨b0, b1, b2, b3⟩ := HS.out.bx.cells
    rw [HPr.out.ff] at b0
    obtain ⟨r0, r1, r2, r3⟩ := HS.out.rs.cells
    obtain ⟨f0, f1, f2, f3⟩ := HS.out.rs.free
    have hlb := HS.out.bx.lt
    have hlr := HS.out.rs.lt
    have HFin := hid (HS.out.fin (w' := (((wr.setCell ⟨w.heap.size, 0, none⟩ (.bool n.f)).setCell ⟨w.heap.size, 1, none⟩ (.slice aoK n.ks.length capK)).setCell ⟨w.heap.size, 2, none⟩ (.slice aoC n.cs.length capC)).setCell ⟨w.heap.size, 3, none⟩ (.slice aoP n.ps.length capP)) (by have := HPr.out.kk; omega) (by have := HPr.out.cc; omega) (by have := HPr.out.pp; omega) rfl)
    rw [HPr.out.ff] at HFin
    by_cases hlt : j < c
    · have hlt' : (j : Int) < c := by omega
      cases e with
      | true =>
        go_wp2
        obtain ⟨g1, g2, g3, g4⟩ := HFin.out
        obtain ⟨u0, u1, u2, u3⟩ := g4.cells
        refine @bodyPost_ret Tryz.prog Tryz.f120 (fun e w' => NodeGives S b w w' e) _ _ (nV false (.slice aoK n.ks.length capK) (.slice aoC n.cs.length capC) (.slice aoP n.ps.length capP)) ?_ ?_ ?_
        · simp [results, nV, go_sem, u0, u1, u2, u3]
        · rfl
        · exact ⟨n, _, _, _, T, true, by rw [HPr.out.ff], g1, g2, g3, Or.inr ⟨rfl, HPr.out.broke⟩⟩
      | false =>
        clear r0 r1 r2 r3 f0 f1 f2 f3 HFin
        have HU : Hid (∀ w', Rn b T false w' → Calls Tryz.prog 151 #[ptr b, .int .u64 64] w' fun e w2 => ∃ (y : Nat) (T1 : Bs) (e1 : Bool), e = .returned (.int .i64 y) ∧ Rn b T1 e1 w2 ∧ One b w' w2 ∧ Ran T false (upS T 64) 0 y T1 e1) := hid (fun w' h => upto_any b 64 (by decide) T false HPr.out.tt w' h)
        have hKl := HPr.out.kk
        go_wp2
        go_upto_region 10 with fail
        go_region_law (first
          | (go_simp; go_at_call 151; refine (HU.out _ HS.out.drew.rd).mono ?_; rintro e w3 ⟨z, T1, e1, rfl, hr3, ho3, hran3⟩; have HS1 := hid (HS.out.drew.call ho3 hr3); have HR1 := hid hran3; obtain ⟨d0, d1, d2, d3⟩ := HS1.out.bx.cells; clear hr3 ho3 hran3)
          | (go_simp; go_at_call 150; refine (bytes_any b z T1 e1 (Nat.le_trans HR1.out.1 HPr.out.tt) _ HS1.out.rd).mono ?_; rintro e w4 ⟨key, T2, e2, rfl, hr4, ho4, hran4⟩; have HS2 := hid (HS1.out.call ho4 hr4); have HR2 := hid hran4; obtain ⟨d0, d1, d2, d3⟩ := HS2.out.bx.cells; have hl4 := HS2.out.bx.lt; clear hr4 ho4 hran4)
          | ((refine step_append_lies _ (by rfl) (.tmp 40) (.tmp 45) tSs (by rfl) (w2.heap.size + 1) tS iS _ 1 16 Tryz.underlying22 hiS h0S h1S h2S rfl (by decide) (.slice aoK n.ks.length capK) n.ks.length (n.ks.flatMap sV) (by rfl) (HS2.out.alloc (.cells #[.string (bs key)] tS)).k ⟨w4.heap.size, 0, none⟩ 1 1 (sV key) (by rfl) rfl (World.news_of_block (heap_alloc_new w4 _)) (sV_one key) Nat.one_pos (by unfold maxLen; omega) (by omega) (HS2.out.alloc (.cells #[.string (bs key)] tS)).hs (w4.heap.size + 1) (by simp) ?_; intro g' cap' w5 hown hgrow hat hlt5; obtain ⟨-, x2, -, -, -⟩ := (HS2.out.alloc (.cells #[.string (bs key)] tS)).grown hgrow (fun i hi => (HS2.out.k.fresh i hi).1); obtain ⟨y0, y1, y2, y3⟩ := x2.cells; obtain ⟨z0, z1, z2, z3⟩ := x2.free; have HS3 := hid ((HS2.out.alloc (.cells #[.string (bs key)] tS)).pushK (OwnL.snoc (enc := sV) hown) hgrow (hat.imp_right fun h => by simp [h])); clear hown hgrow hat x2)))
        all_goals
          generalize w5.setCell ⟨w2.heap.size, 1, none⟩ (.slice (some ⟨g', 0, none⟩) (n.ks.length + 1) cap') = w6 at *
          clear y0 y1 y2 y3 z0 z1 z2 z3 d0 d1 d2 d3 b0 b1 b2 b3 q0 q1
          obtain ⟨b0, b1, b2, b3⟩ := HS3.out.bx.cells
          have b0' : w6.cell? ⟨w2.heap.size, 0, none⟩ = some (.bool false) := by rw [← HPr.out.ff]; exact b0
          clear b0
          have hT2 := Nat.le_trans (Nat.le_trans HR2.out.1 HR1.out.1) HPr.out.tt
          have hCl := HPr.out.pp
          have hl6 := HS3.out.bx.lt
          go_wp2
          go_upto_region 13 with fail
          go_region_law (first
            | (go_simp; go_at_call 149; refine (HFx.out _ _ _ hT2 HS3.out.drew.rd).mono ?_; rintro e w7 ⟨q2, T3, e3, rfl, hr7, ho7, hran7⟩; have HS4 := hid (HS3.out.drew.call ho7 hr7); have HR3 := hid hran7; obtain ⟨d0, d1, d2, d3⟩ := HS4.out.bx.cells; have hl7 := HS4.out.bx.lt; clear hr7 ho7 hran7)
            | ((refine step_append_lies _ (by rfl) (.tmp 58) (.tmp 61) tIs (by rfl) (w2.heap.size + 1) tI iI _ 1 8 Tryz.underlying58 hiI h0I h1I h2I rfl (by decide) (.slice aoP n.ps.length capP) n.ps.length (n.ps.flatMap iV) (by rfl) (HS4.out.alloc (.cells #[.int .i64 (q2 : Int)] tI)).p ⟨w7.heap.size, 0, none⟩ 1 1 (iV (q2 : Int)) (by rfl) rfl (World.news_of_block (heap_alloc_new w7 _)) (iV_one _) Nat.one_pos (by unfold maxLen; omega) (by omega) (HS4.out.alloc (.cells #[.int .i64 (q2 : Int)] tI)).hs (w7.heap.size + 1) (by simp) ?_; intro g'' cap'' w8 hown hgrow hat hlt8; obtain ⟨-, x2, -, -, -⟩ := (HS4.out.alloc (.cells #[.int .i64 (q2 : Int)] tI)).grown hgrow (fun i hi => (HS4.out.p.fresh i hi).1); obtain ⟨y0, y1, y2, y3⟩ := x2.cells; obtain ⟨z0, z1, z2, z3⟩ := x2.free; have HS5 := hid ((HS4.out.alloc (.cells #[.int .i64 (q2 : Int)] tI)).pushP (OwnL.snoc (enc := iV) hown) hgrow (hat.imp_right fun h => by simp [h])); clear hown hgrow hat x2)))
          all_goals
            generalize w8.setCell ⟨w2.heap.size, 3, none⟩ (.slice (some ⟨g'', 0, none⟩) (n.ps.length + 1) cap'') = w9 at *
            clear y0 y1 y2 y3 z0 z1 z2 z3 d0 d1 d2 d3
            go_wp2
            go_roundw
            case rel => exact ⟨j + 1, ⟨n.f, n.ks ++ [key], n.cs, n.ps ++ [(q2 : Int)]⟩, _, _, _, T3, e3, by omega, by go_num, HS5, hid (HPr.out.next_inner rfl hlt HR1.out HR2.out HR3.out)⟩
            case measure => simp [intOf]; omega
    · have hlt' : ¬ (j : Int) < c := by omega
      have HE := hid (HPr.out.fin (by omega))
      go_wp2
      obtain ⟨g1, g2, g3, g4⟩ := HFin.out
      obtain ⟨u0, u1, u2, u3⟩ := g4.cells
      refine @bodyPost_ret Tryz.prog Tryz.f120 (fun e w' => NodeGives S b w w' e) _ _ (nV false (.slice aoK n.ks.length capK) (.slice aoC n.cs.length capC) (.slice aoP n.ps.length capP)) ?_ ?_ ?_
      · simp [results, nV, go_sem, u0, u1, u2, u3]
      · rfl
      · exact ⟨n, _, _, _, T, e, by rw [HPr.out.ff], g1, g2, g3, HE.out⟩
end No
end Go.Proofs.YtoifhcmgeackdaaGreatDoor
