/-
  The reference's Dirty.
-/
import Derived.Test.YthciofgkdfideaaCacheRefDirM
import Derived.Test.YthciofgkdfideaaCacheRefGet
import Derived.Deep.Cut
import Derived.Deep.RegionHeldLaw
namespace Go.Proofs.Ythciofgkdfideaa
open Go.RowKit
namespace Ca
open Num (hid)
open Mem (Bs bs tI tS Chg Row ptr blk_cell blk_free blk_new row_shape row_type wpList_append_run)
theorem NS.up {w w1 wr : World} {v vo : Value} {N O : List Pg} (k : NS w1 v N wr) (k0 : NS w vo O w1) : NS w v N wr :=
  ⟨k0.bel.trans (k.bel.mono k0.bel.size), k.row.1, fun g hg => Nat.le_trans k0.bel.size (k.row.2 g hg)⟩
set_option maxRecDepth 100000 in
set_option maxHeartbeats 4000000 in
theorem rdirty_any {R : Nat → Prop} {w : World} {u size : Nat} {l : Row} (h : RU R w u size l) (hl : l.length ≤ 900) :
    Calls Try.prog 21 #[ptr u] w fun e w' => ∃ v, e = .returned v ∧ PR (fun g => w.heap.size ≤ g) w' v (dirtyM l) ∧ Below w.heap.size w w' := by
  obtain ⟨v, h1, h2⟩ := h.box
  obtain ⟨ao, cap, rfl, hcap, hx⟩ := h2.ways
  have HX := hid hx
  have HB := hid h1
  have N0 := hid (NS.new w)
  obtain ⟨nl, hnl⟩ : ∃ x, l.length = x := ⟨_, rfl⟩
  rw [hnl] at hl hcap HB
  have HNL := hid hnl
  have HLT := hid (lt_of_block HB.out)
  clear hx h1 h2 h hnl hcap
  have c1 := blk_cell HB.out 1
  simp only [List.getElem?_toArray, List.getElem?_cons_succ, List.getElem?_cons_zero] at c1
  have HC1 := hid c1
  clear HB c1
  go_enter Try.func21, Try.ntmps21
  go_wp2_with fail
  go_loopw [3, 4] (fun vo iv wr => ∃ i : Nat, i ≤ nl ∧ iv = .int .i64 (i : Int) ∧ Hid (NS w vo (dirtyM (l.take i)) wr)) (fun _ iv _ => nl - (intOf iv).toNat)
  case atStart => exact ⟨0, Nat.zero_le _, rfl, N0⟩
  case round =>
    obtain ⟨i, hi, rfl, HS⟩ := hrel
    clear N0
    have c1 := HC1.out
    rw [← HS.out.bel.cell (p := ⟨u, 1, none⟩) HLT.out] at c1
    have hlu := Nat.lt_of_lt_of_le HLT.out HS.out.bel.size
    by_cases hlt : i < nl
    · have hil : i < l.length := by rw [HNL.out]; exact hlt
      have hlt1 : (i : Int) < (nl : Int) := by omega
      obtain ⟨g, o, rfl, hg, x0, x1, x2⟩ := HX.out i hil
      rw [← HS.out.bel.cell (p := ⟨g, o + i * 3, none⟩) hg] at x0
      rw [← HS.out.bel.cell (p := ⟨g, o + i * 3 + 1, none⟩) hg] at x1
      rw [← HS.out.bel.cell (p := ⟨g, o + i * 3 + 2, none⟩) hg] at x2
      have hg2 : g < wr.heap.size := Nat.lt_of_lt_of_le hg HS.out.bel.size
      cases hy : l[i].w with
      | false =>
        rw [hy] at x2
        have HH := HS.out
        rw [← dirty_no hil hy] at HH
        have HH := hid HH
        generalize l[i].n = z0 at *
        generalize l[i].d = z1 at *
        go_wp2
        go_roundw
        case rel => exact ⟨i + 1, by omega, by go_num, HH⟩
        case measure => simp [intOf]; omega
      | true =>
        rw [hy] at x2
        have HDY := hid (dirty_yes hil hy)
        rw [show pgOf l[i] = (l[i].n, l[i].d) from rfl] at HDY
        have hdl := dirty_len (l.take i)
        rw [List.length_take, HNL.out] at hdl
        generalize l[i].n = z0 at *
        generalize l[i].d = z1 at *
        generalize dirtyM (l.take i) = O at *
        obtain ⟨no, hno⟩ : ∃ x, O.length = x := ⟨_, rfl⟩
        obtain ⟨ao2, cap2, rfl, hp⟩ := HS.out.row.cells
        have HO := hid hp
        have HNO := hid hno
        have HN0 := hid (NS.new wr)
        have HC := hid (fun (wz : World) (hb : Below wr.heap.size wr wz) => And.intro ((hb.cell (p := ⟨u, 1, none⟩) hlu).trans c1) (And.intro ((hb.cell (p := ⟨g, o + i * 3, none⟩) hg2).trans x0) ((hb.cell (p := ⟨g, o + i * 3 + 1, none⟩) hg2).trans x1)))
        have HNL2 := hid (next_len (z0, z1) O)
        have HHL := hid (And.intro hlu hg2)
        rw [hno] at hdl ⊢
        have hno2 : no ≤ 900 := by omega
        clear hp hno hdl
        go_upto_region 8 with fail
        clear c1 x0 x1 x2 hlu hg2
        go_wp2_with fail
        go_loopw [5, 6, 7] (fun vn pv kv ws => ∃ (k : Nat) (b : Bool), k ≤ no ∧ pv = .bool b ∧ kv = .int .i64 (k : Int) ∧ Hid (putK (z0, z1) O k = b) ∧ Hid (NS wr vn (nextK (z0, z1) O k) ws)) (fun _ _ kv _ => no - (intOf kv).toNat)
        case atStart => exact ⟨0, false, Nat.zero_le _, rfl, rfl, hid rfl, HN0⟩
        case round =>
          obtain ⟨k, b, hk, rfl, rfl, HP, HN⟩ := hrel
          clear HN0
          have hl2 := HNL2.out k
          obtain ⟨a0, a1, a2⟩ := HC.out _ HN.out.bel
          have hlu := Nat.lt_of_lt_of_le HHL.out.1 HN.out.bel.size
          have hg2 := Nat.lt_of_lt_of_le HHL.out.2 HN.out.bel.size
          by_cases hkn : k < no
          · have hkO : k < O.length := by rw [HNO.out]; exact hkn
            have hlt2 : (k : Int) < (no : Int) := by omega
            obtain ⟨go, rfl, hgo, y0, y1⟩ := HO.out k hkO
            rw [← HN.out.bel.cell (p := ⟨go, k * 2, none⟩) hgo] at y0
            rw [← HN.out.bel.cell (p := ⟨go, k * 2 + 1, none⟩) hgo] at y1
            have hgo2 := Nat.lt_of_lt_of_le hgo HN.out.bel.size
            have HL2 : Hid ((nextK (z0, z1) O k).length ≤ 1000) := hid (by rw [HNO.out] at hl2; omega)
            have hgo4 := hgo
            clear hl2 hgo
            by_cases hcase : b = true ∨ ¬ z0 < O[k].1
            · have HQ : Hid (putK (z0, z1) O (k + 1) = b ∧ nextK (z0, z1) O (k + 1) = nextK (z0, z1) O k ++ [(O[k].1, O[k].2)]) := hid (by
                cases b with
                | true => exact next_on hkO HP.out
                | false => exact next_off hkO HP.out (hcase.resolve_left (by simp)))
              obtain ⟨v2, w2, hr2, hs2⟩ := HN.out.push (wq := _) (Below.refl _ _).drew (O[k].1, O[k].2) (by have := HL2.out; omega)
              rw [← HQ.out.2] at hs2
              have HR2 := hid hr2
              have HS2 := hid hs2
              have HQ1 := hid HQ.out.1
              clear hr2 hs2 HQ
              generalize O[k].1 = q0 at *
              generalize O[k].2 = q1 at *
              cases b with
              | true =>
                go_upto_region 11 with fail
                go_region
                go_wp2_with (at_builtin; refine wpList_append_run rfl (.tmp 72) (.tmp 77) tPs tPs rfl _ _ (by simp [Act.eval]) (by simp [Act.eval]) HR2.out ?_)
                go_roundw
                case rel => exact ⟨k + 1, true, by omega, by go_num, rfl, HQ1, HS2⟩
                case measure => simp [intOf]; omega
              | false =>
                have hnl : ¬ z0 < q0 := hcase.resolve_left (by simp)
                go_upto_region 11 with fail
                go_region
                go_wp2_with (at_builtin; refine wpList_append_run rfl (.tmp 72) (.tmp 77) tPs tPs rfl _ _ (by simp [Act.eval]) (by simp [Act.eval]) HR2.out ?_)
                go_roundw
                case rel => exact ⟨k + 1, false, by omega, by go_num, rfl, HQ1, HS2⟩
                case measure => simp [intOf]; omega
            · have hb : b = false := by simpa using fun e => hcase (Or.inl e)
              have hl3 : z0 < O[k].1 := Decidable.of_not_not (fun e => hcase (Or.inr e))
              subst hb
              have HQ : Hid (putK (z0, z1) O (k + 1) = true ∧ nextK (z0, z1) O (k + 1) = (nextK (z0, z1) O k ++ [(z0, z1)]) ++ [(O[k].1, O[k].2)]) := hid (next_in hkO HP.out hl3)
              obtain ⟨v2, w2, hr2, hs2⟩ := HN.out.push (wq := _) (Below.refl _ _).drew.drew (z0, z1) (by have := HL2.out; omega)
              obtain ⟨v3, w3, hr3, hs3⟩ := hs2.push (wq := w2) (Below.refl _ _) (O[k].1, O[k].2) (by have := HL2.out; rw [List.length_append, List.length_singleton]; omega)
              rw [← HQ.out.2] at hs3
              have K2 := hid (HC.out w2 hs2.bel)
              have hgo3 := Nat.lt_of_lt_of_le hgo4 hs2.bel.size
              obtain ⟨go', hgo', -, y2, y3⟩ := HO.out k hkO
              cases hgo'
              rw [← hs2.bel.cell (p := ⟨go, k * 2, none⟩) hgo4] at y2
              rw [← hs2.bel.cell (p := ⟨go, k * 2 + 1, none⟩) hgo4] at y3
              have HR2 := hid hr2
              have HR3 := hid hr3
              have HS3 := hid hs3
              have HQ1 := hid HQ.out.1
              clear hr2 hs2 hr3 hs3 HQ
              generalize O[k].1 = q0 at *
              generalize O[k].2 = q1 at *
              go_upto_region 11 with fail
              go_region
              go_upto_region 12 with fail
              go_region_held_law (fun W => W.cell? ⟨u, 1, none⟩ = some (.slice (some ⟨g, o, none⟩) nl cap) ∧ W.cell? ⟨g, o + i * 3, none⟩ = some (.int .i64 z0) ∧ W.cell? ⟨g, o + i * 3 + 1, none⟩ = some (.string (bs z1)))
                (first | go_keep | exact K2.out)
                ((refine Mem.step_append_run (by rfl) (.tmp 52) (.tmp 70) tPs tPs (by rfl) _ _ (by simp [Act.eval]) (by simp [Act.eval]) HR2.out ?_))
              all_goals go_wp2_with (at_builtin; refine wpList_append_run rfl (.tmp 72) (.tmp 77) tPs tPs rfl _ _ (by simp [Act.eval]) (by simp [Act.eval]) HR3.out ?_)
              all_goals exact ⟨⟨k + 1, true, by omega, rfl, by go_num, HQ1, HS3⟩, by simp [intOf]; omega⟩
          · have hlt2 : ¬ (k : Int) < (no : Int) := by omega
            have hke : k = no := by omega
            have hp := HP.out
            have hn := HN.out
            rw [hke, ← HNO.out] at hp hn
            have hle : (nextK (z0, z1) O O.length).length ≤ 1000 := by have := HNL2.out O.length; rw [HNO.out] at this ⊢; omega
            cases b with
            | true =>
              rcases next_end (x := (z0, z1)) (O := O) with ⟨-, e⟩ | ⟨e, -⟩
              · rw [e, ← HDY.out] at hn
                have HH := hid (hn.up HS.out)
                clear hn hp e hle hl2
                go_wp2
                go_roundw
                case rel => exact ⟨i + 1, by omega, by go_num, HH⟩
                case measure => simp [intOf]; omega
              · rw [hp] at e
                cases e
            | false =>
              rcases next_end (x := (z0, z1)) (O := O) with ⟨e, -⟩ | ⟨-, e⟩
              · rw [hp] at e
                cases e
              · obtain ⟨v2, w2, hr2, hs2⟩ := hn.push (wq := _) (Below.refl _ _).drew (z0, z1) (by omega)
                rw [e, ← HDY.out] at hs2
                have K2 := hid (HC.out w2 hs2.bel)
                have HH := hid (hs2.up HS.out)
                have HR2 := hid hr2
                clear hn hp e hle hl2 hr2 hs2
                go_upto_region 16 with fail
                go_region_held_law (fun W => W.cell? ⟨u, 1, none⟩ = some (.slice (some ⟨g, o, none⟩) nl cap) ∧ W.cell? ⟨g, o + i * 3, none⟩ = some (.int .i64 z0) ∧ W.cell? ⟨g, o + i * 3 + 1, none⟩ = some (.string (bs z1)))
                  (first | go_keep | exact K2.out)
                  ((refine Mem.step_append_run (by rfl) (.tmp 81) (.tmp 99) tPs tPs (by rfl) _ _ (by simp [Act.eval]) (by simp [Act.eval]) HR2.out ?_))
                all_goals go_wp2
                all_goals exact ⟨⟨i + 1, by omega, by go_num, HH⟩, by simp [intOf]; omega⟩
    · have hlt1 : ¬ (i : Int) < (nl : Int) := by omega
      have hie : i = nl := by omega
      have hs := HS.out
      rw [hie, ← HNL.out, List.take_length] at hs
      have HF := hid hs
      clear hs
      go_wp2
      go_ret
      exact ⟨_, rfl, HF.out.row, HF.out.bel⟩
end Ca
end Go.Proofs.Ythciofgkdfideaa
