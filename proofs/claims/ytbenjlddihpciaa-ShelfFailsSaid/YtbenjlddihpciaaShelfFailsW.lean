/-
  ShelfFails: the walk of the statement.
-/
import Derived.Test.YtbenjlddihpciaaShelfFailsM
import Derived.Deep.RegionHeld3
namespace Go.Proofs.Ytbenjlddihpciaa
open Go.RowKit
namespace shelfFails
open Sp (Hd hd0 tH hV hObj zeros)
open Sh
open Num (hid)
open Mem (Bs bs ptr Chg Row LAt tI tIs tS tSs blk_cell blk_free blk_new blk_set blk_other blk_alloc row_kept wpList_append_run step_append_run)
theorem acts_ways {w : World} {x : Value} {l : List ActM} (h : AAt w x l) : ∃ ao cap, x = .slice ao l.length cap ∧ l.length ≤ maxLen ∧ ∀ j (hj : j < l.length), ∃ b o, ao = some ⟨b, o, none⟩ ∧ b < w.heap.size ∧ w.cell? ⟨b, o + j * 4, none⟩ = some (.int .i64 l[j].kind) ∧ w.cell? ⟨b, o + j * 4 + 1, none⟩ = some (.int .i64 l[j].n) ∧ w.cell? ⟨b, o + j * 4 + 2, none⟩ = some (.string l[j].data) ∧ w.cell? ⟨b, o + j * 4 + 3, none⟩ = some (.bool l[j].full) := by
  obtain ⟨ao, cap, h1, h2, h3, h4⟩ := LAt.ways h
  refine ⟨ao, cap, h1, h2, fun j hj => ?_⟩
  obtain ⟨b, o, e1, e2, e3⟩ := h4 j hj
  exact ⟨b, o, e1, e2, e3 0 (by decide), e3 1 (by decide), e3 2 (by decide), e3 3 (by decide)⟩
theorem cell_on {w w' : World} {N b i : Nat} {v : Value} (hb : Below N w w') (h : b < N) (hc : w.cell? ⟨b, i, none⟩ = some v) : w'.cell? ⟨b, i, none⟩ = some v := (World.cell?_of_block (hb.block b h)).trans hc
theorem wrap_prev {j k : Nat} (h : (k : Int) + 1 = (j : Int)) (h2 : (j : Int) ≤ 4096) : IntKind.i64.wrap ((j : Int) - 1) = (k : Int) := by
  rw [IntKind.wrap_i64]
  omega
theorem after_drew {w w' : World} (hb : Below w.drew.heap.size w.drew w') : Below w.heap.size w w' := (Below.refl _ w).drew.trans hb
theorem wrap_prev2 {j k : Nat} (h : (k : Int) + 1 = (j : Int)) (h2 : (j : Int) ≤ 4096) : wrap64 ((j : Int) - 1) = (k : Int) := by
  rw [Num.wrap_i]
  omega
set_option maxRecDepth 100000 in
set_option maxHeartbeats 8000000 in
theorem walk (v0 : Value) (l0 : List ActM) (a1 : Int) (v2 : Value) (l2 : List ActM) (w : World) (hI0 : AAt w v0 l0) (hW0 : ∀ X ∈ l0, Wf X.n) (hI2 : AAt w v2 l2) (hW2 : ∀ X ∈ l2, Wf X.n) :
    Calls Try.prog 4 #[v0, .int .i64 a1, v2] w fun e w' => e = .returned (.bool true) ∧ Below w.heap.size w w' := by
  obtain ⟨ao, cap, rfl, hml, hc0⟩ := acts_ways hI0
  obtain ⟨ao2, cap2, rfl, hml2, hc2⟩ := acts_ways hI2
  have HML := hid hml
  have HML2 := hid hml2
  have HC0 := hid hc0
  have HC2 := hid hc2
  have HW0 := hid hW0
  have HW2 := hid hW2
  have HI : Hid (Held h1 S0) := hid ⟨fit1, dom0⟩
  clear hml hc0 hI0 hml2 hc2 hI2 hW0 hW2
  go_enter Try.func4, Try.ntmps4
  go_wp2_with fail
  refine (Sh.awake_any _).mono ?_
  rintro e wa ⟨rfl, hba⟩
  have BA := hid hba
  clear hba
  go_wp2_with fail
  refine (ShL.new 60 (by decide) (by decide) BA.out).mono ?_
  rintro e w1 ⟨s, d, rfl, hk⟩
  have K1 := hid hk
  clear hk BA
  go_wp2_with fail
  go_loopw [8] (fun i wr => ∃ (m : Nat) (h : Hd) (S : St), m ≤ l0.length ∧ m ≤ 150 ∧ i = .int .i64 m ∧ Hid (ShL s d w.heap.size (3 * m) 60 h 0 S w wr) ∧ Hid (Held h S)) (fun i _ => 150 - (intOf i).toNat)
  case atStart => exact ⟨0, h1, S0, Nat.zero_le _, Nat.zero_le _, rfl, K1, HI⟩
  case round =>
    obtain ⟨m, h, S, hm1, hm2, rfl, HK, HH⟩ := hrel
    by_cases hlt : m < l0.length ∧ m < 150
    · obtain ⟨hlt1, hlt2⟩ := hlt
      have hle1 : (m : Int) < l0.length := by omega
      have hle2 : (m : Int) < 150 := by omega
      obtain ⟨b0, o0, rfl, hb0, hx0, hx1, hx2, hx3⟩ := HC0.out m hlt1
      have hwf := HW0.out l0[m] (List.getElem_mem hlt1)
      have HWF := hid hwf
      clear hwf
      generalize l0[m] = x at *
      have hx0 := cell_on HK.out.be hb0 hx0
      have hx1 := cell_on HK.out.be hb0 hx1
      have hx2 := cell_on HK.out.be hb0 hx2
      have hx3 := cell_on HK.out.be hb0 hx3
      have hlb : b0 < wr.heap.size := Nat.lt_of_lt_of_le hb0 HK.out.size
      have K2 := hid (HK.out.kept ((Below.refl wr.heap.size wr).alloc (Nat.le_refl _) (actO x)))
      have X2 := hid (blk_new wr (actO x))
      go_upto_region 8 with fail

      generalize wr.alloc (.cells #[.int .i64 x.kind, .int .i64 x.n, .string x.data, .bool x.full] tAct) = w2 at *
      have HNX : Hid (wr.heap.size ≠ s ∧ wr.heap.size ≠ d) := hid ⟨Nat.ne_of_gt HK.out.at'.lt.1, Nat.ne_of_gt HK.out.at'.lt.2⟩
      generalize wr.heap.size = bx at *
      obtain ⟨q0, q1, q2, q3⟩ := act_cells X2.out
      have ql := lt_of_block X2.out
      clear hx0 hx1 hx2 hx3 hb0 hlb

      have e3m : 3 * m + 3 = 3 * (m + 1) := by omega
      by_cases hk2 : x.kind = 2
      · have hka : (x.kind == 2) = true := by simpa using hk2
        have HD := hid (fun w => data_any x w)
        generalize bl (datum x) = T at *
        clear hk2
        go_upto_region 10 with fail
        have J0 := hid (act_cells (show w2.drew.heap[bx]? = _ from X2.out))
        have K2d := hid (K2.out.kept (Below.refl w2.heap.size w2).drew)
        go_region_held3 (fun W => W.cell? ⟨bx, 0, none⟩ = some (.int .i64 x.kind) ∧ W.cell? ⟨bx, 1, none⟩ = some (.int .i64 x.n) ∧ W.cell? ⟨bx, 2, none⟩ = some (.string x.data) ∧ W.cell? ⟨bx, 3, none⟩ = some (.bool x.full))
          (first | with_reducible exact J0.out | with_reducible exact J1.out | with_reducible exact J2.out)
          (first
            | go_at_call 19; refine (HD.out _).mono ?_; rintro e w3 ⟨rfl, hb3⟩; have X3 := hid ((hb3.block bx ql).trans X2.out); have J1 := hid (act_cells X3.out); have K3 := hid (K2d.out.kept hb3); clear hb3
            | go_at_call 16; refine (K3.out.putAny (by decide) (by omega) HWF.out T).mono ?_; rintro e w4 ⟨rfl, hk4, hc4⟩; have J2 := hid (act_cells (hc4.at X3.out (fun e => by have := HNX.out; rcases e with e | e <;> omega))); have K4 := hid hk4; clear hk4 hc4)
        rw [e3m] at K4
        go_wp2
        go_roundw
        case rel => exact ⟨m + 1, h, (S.put x.n T).2, hlt1, hlt2, by go_num, K4, hid (held_put HH.out _ _)⟩
        case measure => simp [intOf]; omega
      · have hka : (x.kind == 2) = false := by simpa using hk2
        by_cases hk3 : x.kind = 3
        · have hkb : (x.kind == 3) = true := by simpa using hk3
          have HG := hid (K2.out.newAny (by decide) HH.out.fit (by omega))
          have HH2 := hid (held_new HH.out 60)
          generalize newM 60 h S = Y at *
          clear hk2 hk3
          go_wp2_with fail
          refine HG.out.mono ?_
          rintro e w3 ⟨rfl, hk3, -⟩
          have K3 := hid hk3
          clear hk3 HG
          rw [e3m] at K3
          go_wp2
          go_roundw
          case rel => exact ⟨m + 1, Y.2.1, Y.2.2, hlt1, hlt2, by go_num, K3, HH2⟩
          case measure => simp [intOf]; omega
        · have hkb : (x.kind == 3) = false := by simpa using hk3
          by_cases hk4 : x.kind = 4
          · have hkc : (x.kind == 4) = true := by simpa using hk4
            have HG := hid (K2.out.freeAny (by decide) HH.out.fit (by omega) HWF.out)
            have HH2 := hid (held_free HH.out x.n)
            generalize freeM h S x.n = Y at *
            clear hk2 hk3 hk4
            go_wp2_with fail
            refine HG.out.mono ?_
            rintro e w3 ⟨rfl, hk3, -⟩
            have K3 := hid hk3
            clear hk3 HG
            rw [e3m] at K3
            go_wp2
            go_roundw
            case rel => exact ⟨m + 1, Y.2.1, Y.2.2, hlt1, hlt2, by go_num, K3, HH2⟩
            case measure => simp [intOf]; omega
          · have hkc : (x.kind == 4) = false := by simpa using hk4
            have K3 := hid (K2.out.more (show 3 * m ≤ 3 * (m + 1) by omega))
            clear hk2 hk3 hk4
            go_wp2
            go_roundw
            case rel => exact ⟨m + 1, h, S, hlt1, hlt2, by go_num, K3, HH⟩
            case measure => simp [intOf]; omega
    · have hstop : ¬ ((m : Int) < (l0.length : Int)) ∨ (((m : Int) < (l0.length : Int)) ∧ ¬ ((m : Int) < 150)) := by
        by_cases h1' : m < l0.length
        · exact Or.inr ⟨by omega, fun h2' => hlt ⟨h1', by omega⟩⟩
        · exact Or.inl (by omega)

      have hHd := hid (head_ok HK.out.at'.blk)
      unfold hV at hHd
      rcases hstop with hs1 | ⟨hs1, hs2⟩
      all_goals
        go_wp2_with fail
        refine hHd.out.mono ?_
        rintro e w3 ⟨rfl, hb⟩
        have k3 := HK.out.kept hb
        have hb4 : Below w3.heap.size w3 (w3.alloc (hObj h)) := (Below.refl w3.heap.size w3).alloc (Nat.le_refl _) _
        have k4 := k3.kept hb4
        have g4 : Sp.Hb w3.heap.size h (w3.alloc (hObj h)) := Sp.Hb.new h w3
        have HNB : Hid (w3.heap.size ≠ s ∧ w3.heap.size ≠ d ∧ w.heap.size ≤ w3.heap.size) := hid ⟨Nat.ne_of_gt k3.at'.lt.1, Nat.ne_of_gt k3.at'.lt.2, k3.size⟩
        go_upto_region 16 with fail
        generalize w3.alloc (.cells #[.int .i64 h.mode, .int .i64 h.pages, .int .i64 h.trunk, .int .i64 h.spare, .int .i64 h.root, .int .u64 (h.change : Nat)] tH) = w4 at *
        have K5 := hid (k4.kept ((Below.refl w4.heap.size w4).alloc (Nat.le_refl _) (.cells #[] tS)))
        have G5 := hid (g4.on ((Below.refl w4.heap.size w4).alloc (Nat.le_refl _) (.cells #[] tS)))
        have P5 : Hid (Own s d w.heap.size tS (w4.alloc (.cells #[] tS)) (.slice (some ⟨w4.heap.size, 0, none⟩) 0 0) 0 (strs [])) := hid (Own.made k4 (own_emptyS w4) (fun g hg => by
          have : w4.heap.size = g := by simpa [Value.ownBlock] using hg
          omega))
        have N5 : Hid (∀ g, (Value.slice (some ⟨w4.heap.size, 0, none⟩) 0 0).ownBlock = some g → g ≠ w3.heap.size) := hid (fun g hg => by
          have h1 : w4.heap.size = g := by simpa [Value.ownBlock] using hg
          have h2 := g4.lt
          omega)
        clear k3 hb4 k4 g4 hb
        go_upto_region 17 with fail
        generalize w4.alloc (.cells #[] tS) = w5 at *
        generalize w4.heap.size = g4 at *
        generalize w3.heap.size = bq at *
        have hpg : Hid (1 ≤ h.pages ∧ h.pages ≤ 4096) := hid (by have := HH.out.fit; unfold Fit at this; omega)
        go_wp2_with fail
        go_loopw [11, 12] (fun pv iv wr2 => ∃ (k j cap : Nat) (ao : Option Addr) (X : List Bs), pv = .slice ao k cap ∧ iv = .int .i64 j ∧ k ≤ 4095 ∧ Hid (j = k + 1) ∧ Hid (X.length = k) ∧ Hid ((k : Int) + 1 ≤ h.pages) ∧ Hid (ShL s d w.heap.size (3 * m) 60 h 0 S w wr2) ∧ Hid (Sp.Hb bq h wr2) ∧ Hid (Own s d w.heap.size tS wr2 (.slice ao k cap) k (strs X)) ∧ Hid (∀ g, (Value.slice ao k cap).ownBlock = some g → g ≠ bq) ∧ Hid (∀ i (hi : i < X.length), S.f ((i : Int) + 1) = some X[i])) (fun _ iv _ => 5000 - (intOf iv).toNat)
        case atStart => exact ⟨0, 1, 0, _, [], rfl, rfl, Nat.zero_le _, hid rfl, hid rfl, hid (by have := hpg.out; show (0 : Int) + 1 ≤ _; omega), K5, G5, P5, N5, hid (fun i hi => absurd hi (Nat.not_lt_zero _))⟩
        case round =>
          obtain ⟨k, j, cap4, ao4, X, rfl, rfl, hk4, hjk, hXl, hkp, HK2, HG2, HP2, HN2, HX2⟩ := hrel
          obtain ⟨g0, g1, g2, g3, g5, g6⟩ := HG2.out.cells
          have gl := HG2.out.lt
          have hj5 : (j : Int) ≤ 4096 := by have := hjk.out; omega
          by_cases hjp : (j : Int) < h.pages
          · obtain ⟨y, hy⟩ := HH.out.dom.yes (x := (j : Int)) (by have := hjk.out; omega) hjp
            have HG := hid (HK2.out.get (by decide) (wf_of (by omega) (by omega)) hy)
            go_wp2_with fail
            refine HG.out.mono ?_
            rintro e w6 ⟨rfl, hb⟩
            have k6 := HK2.out.kept hb
            have p6 := HP2.out.on hb
            have q6 := HG2.out.on hb
            obtain ⟨v7, w7, hr7, ho7, hc7, hk7⟩ := Mem.push_str p6.row (bs y) (by omega)
            have P7 : Hid (Own s d w.heap.size tS w7 v7 (k + 1) (strs (X ++ [y]))) := hid (by
              have := Own.grown p6 k6 ho7 hk7
              show Own s d w.heap.size tS w7 v7 (k + 1) ((X ++ [y]).map _)
              rw [List.map_append]
              exact this)
            have K7 := hid (k6.beside hc7 p6.own)
            have G7 := hid (q6.at hc7 (fun e => HN2.out _ e rfl))
            have N7 : Hid (∀ g, v7.ownBlock = some g → g ≠ bq) := hid (fun g hg => by
              rcases hk7 g hg with h1 | h1
              · exact HN2.out g h1
              · have := q6.lt
                omega)
            obtain ⟨ao7, cap7, e7, -⟩ := Mem.row_shape ho7
            subst e7
            have HR7 := hid hr7
            have X7 : Hid (∀ i (hi : i < (X ++ [y]).length), S.f ((i : Int) + 1) = some (X ++ [y])[i]) := hid (fun i hi => by
              rw [List.length_append, List.length_singleton] at hi
              by_cases h1 : i < X.length
              · rw [List.getElem_append_left h1]
                exact HX2.out i h1
              · have h2 : i = X.length := by omega
                subst h2
                rw [List.getElem_append_right (Nat.le_refl _)]
                have h3 : ((X.length : Nat) : Int) + 1 = (j : Int) := by have := hjk.out; have := hXl.out; omega
                rw [h3, hy]
                simp)
            have hjk7 : Hid (j + 1 = (k + 1) + 1) := hid (by have := hjk.out; omega)
            have hXl7 : Hid ((X ++ [y]).length = k + 1) := hid (by rw [List.length_append, hXl.out]; rfl)
            have hkp7 : Hid (((k + 1 : Nat) : Int) + 1 ≤ h.pages) := hid (by have := hjk.out; omega)
            have hk8 : k + 1 ≤ 4095 := by have := hjk.out; have := hpg.out; omega
            clear hr7 ho7 hc7 hk7 k6 p6 q6 hb HG HG2 HP2 HN2 HX2 HK2 g0 g1 g2 g3 g5 g6 gl hy hjk hXl hkp
            generalize X ++ [y] = X7' at *
            obtain ⟨k7, hk77⟩ : ∃ k7, k7 = k + 1 := ⟨_, rfl⟩
            rw [← hk77] at hkp7 hk8 hXl7 hjk7 P7 N7 HR7
            clear hk77
            generalize bs y = ty at *
            go_wp2_with (at_builtin; refine wpList_append_run rfl (.tmp 81) (.tmp 83) tSs tSs rfl _ _ (by simp [Act.eval]) (by simp [Act.eval]) HR7.out ?_)
            go_roundw
            case rel => exact ⟨k7, j + 1, cap7, ao7, X7', rfl, by go_num, hk8, hjk7, hXl7, hkp7, K7, G7, P7, N7, X7⟩
            case measure => simp [intOf]; omega
          · have HKX : Hid ((X.length : Int) + 1 = h.pages) := hid (by have := hjk.out; have := hXl.out; have := hkp.out; omega)
            go_wp2_with fail
            refine (HK2.out.armAt 1).mono ?_
            rintro e w6 ⟨rfl, hk6, hc6⟩
            have K6 := hid hk6
            have G6 := hid (HG2.out.at hc6 (fun e => by have := HNB.out; rcases e with e | e <;> omega))
            have P6 := hid (HP2.out.turned hc6)
            clear hk6 hc6 g0 g1 g2 g3 g5 g6 gl HG2 HP2 HK2
            go_wp2_with fail
            go_loopw [15] (fun iv wr3 => ∃ (n : Nat), n ≤ l2.length ∧ n ≤ 150 ∧ iv = .int .i64 n ∧ Hid (Below w6.heap.size w6 wr3)) (fun iv _ => 150 - (intOf iv).toNat)
            case atStart => exact ⟨0, Nat.zero_le _, Nat.zero_le _, rfl, hid (Below.refl _ _)⟩
            case round =>
              obtain ⟨n, hn1, hn2, rfl, HB⟩ := hrel
              have HK := hid (K6.out.kept HB.out)
              by_cases hlt : n < l2.length ∧ n < 150
              · obtain ⟨hlt1, hlt2⟩ := hlt
                have hle1 : (n : Int) < l2.length := by omega
                have hle2 : (n : Int) < 150 := by omega
                obtain ⟨b0, o0, hao, hb0, hx0, hx1, hx2, hx3⟩ := HC2.out n hlt1
                subst hao
                generalize l2[n] = x at *
                have hx0 := cell_on HK.out.be hb0 hx0
                have hx1 := cell_on HK.out.be hb0 hx1
                have hx2 := cell_on HK.out.be hb0 hx2
                have hx3 := cell_on HK.out.be hb0 hx3
                have hlb : b0 < wr.heap.size := Nat.lt_of_lt_of_le hb0 HK.out.size
                have K7 := hid (HK.out.kept ((Below.refl wr.heap.size wr).alloc (Nat.le_refl _) (actO x)))
                have B7 := hid (HB.out.trans (((Below.refl wr.heap.size wr).alloc (Nat.le_refl _) (actO x)).mono HB.out.size))
                have X7 := hid (blk_new wr (actO x))
                clear HB HK
                go_upto_region 27 with fail
                generalize wr.alloc (.cells #[.int .i64 x.kind, .int .i64 x.n, .string x.data, .bool x.full] tAct) = w7 at *
                generalize wr.heap.size = bx at *
                obtain ⟨q0, q1, q2, q3⟩ := act_cells X7.out
                have ql := lt_of_block X7.out
                clear hx0 hx1 hx2 hx3 hb0 hlb
                have HG := hid (get_io K7.out.at'.blk x.n)
                go_wp2_with fail
                refine HG.out.mono ?_
                rintro e w8 ⟨rfl, hw⟩
                subst hw
                have HD := hid (fun w => data_any x w)
                generalize bs (bl (datum x)) = T at *
                clear HG
                go_upto_region 28 with fail
                have J0 := hid (act_cells (show w7.drew.heap[bx]? = _ from X7.out))
                have K7d := hid (K7.out.kept (Below.refl w7.heap.size w7).drew)
                have B7d := hid (B7.out.drew)
                clear K7 B7
                go_region_held3 (fun W => W.cell? ⟨bx, 0, none⟩ = some (.int .i64 x.kind) ∧ W.cell? ⟨bx, 1, none⟩ = some (.int .i64 x.n) ∧ W.cell? ⟨bx, 2, none⟩ = some (.string x.data) ∧ W.cell? ⟨bx, 3, none⟩ = some (.bool x.full))
                  (first | with_reducible exact J0.out | with_reducible exact J1.out)
                  (first
                    | go_at_call 19; refine (HD.out _).mono ?_; rintro e w8 ⟨rfl, hb8⟩; have X8 := hid ((hb8.block bx ql).trans X7.out); have J1 := hid (act_cells X8.out); have K8 := hid (K7d.out.kept hb8); have B8 := hid (B7d.out.trans (hb8.mono B7d.out.size)); clear hb8
                    | go_at_call 16; refine (put_io K8.out.at'.blk x.n T).mono ?_; rintro e w9 ⟨rfl, hw9⟩; subst hw9)
                clear q0 q1 q2 q3 ql HD K7d B7d J0 X7
                obtain ⟨q0, q1, q2, q3⟩ := act_cells X8.out
                have ql := lt_of_block X8.out
                have HN := hid (new_io K8.out.at'.blk)
                have HF := hid (free_io K8.out.at'.blk x.n)
                go_wp2_with fail
                refine HN.out.mono ?_
                rintro e w9 ⟨rfl, hw⟩
                subst hw
                go_wp2_with fail
                refine HF.out.mono ?_
                rintro e w9 ⟨rfl, hw⟩
                subst hw
                go_wp2
                go_roundw
                case rel => exact ⟨n + 1, hlt1, hlt2, by go_num, B8⟩
                case measure => simp [intOf]; omega
              · have hstop : ¬ ((n : Int) < (l2.length : Int)) ∨ (((n : Int) < (l2.length : Int)) ∧ ¬ ((n : Int) < 150)) := by
                  by_cases h1' : n < l2.length
                  · exact Or.inr ⟨by omega, fun h2' => hlt ⟨h1', by omega⟩⟩
                  · exact Or.inl (by omega)
                have P8 := hid (P6.out.on HB.out)
                have G8 := hid (G6.out.on HB.out)
                clear hlt
                rcases hstop with hs1 | ⟨hs1, hs2⟩
                all_goals
                  go_wp2_with fail
                  refine (HK.out.armAt 0).mono ?_
                  rintro e w8 ⟨rfl, hk8, hc8⟩
                  have K8 := hid hk8
                  have G9 := hid (G8.out.at hc8 (fun e => by have := HNB.out; rcases e with e | e <;> omega))
                  have P9 := hid (P8.out.turned hc8)
                  clear hk8 hc8
                  go_wp2_with fail
                  go_loopw [23] (fun iv wr4 => ∃ (k j : Nat), iv = .int .i64 j ∧ k ≤ X.length ∧ Hid (j = k + 1) ∧ Hid (Below w8.heap.size w8 wr4)) (fun iv _ => 5000 - (intOf iv).toNat)
                  case atStart => exact ⟨0, 1, rfl, Nat.zero_le _, hid rfl, hid (Below.refl _ _)⟩
                  case round =>
                    obtain ⟨k2, j2, rfl, hk2, hj2, HB4⟩ := hrel
                    have K9 := hid (K8.out.kept HB4.out)
                    have G10 := hid (G9.out.on HB4.out)
                    have P10 := hid (P9.out.on HB4.out)
                    obtain ⟨g0, g1, g2, g3, g5, g6⟩ := G10.out.cells
                    have gl := G10.out.lt
                    have hX4 : X.length ≤ 4095 := by have := HKX.out; have := hpg.out; omega
                    have hj5 : (j2 : Int) ≤ 4096 := by have := hj2.out; omega
                    by_cases hjp : (j2 : Int) < h.pages
                    · have hkX : k2 < X.length := by have := hj2.out; have := HKX.out; omega
                      have hy := HX2.out k2 hkX
                      have hjk2 : (k2 : Int) + 1 = (j2 : Int) := by have := hj2.out; omega
                      rw [hjk2] at hy
                      have HG := hid (K9.out.get (by decide) (wf_of (by omega) (by omega)) hy)
                      have hIX := strs_row (l := X) (by have := P10.out.row; rw [← hXl.out] at this; exact this) (by unfold maxLen; omega)
                      obtain ⟨ao8, cap8, e8, -, -, hc8⟩ := hIX.ways1
                      obtain ⟨b2, o2, hao2, hb2, hu2⟩ := hc8 k2 hkX
                      simp only [Value.slice.injEq] at e8
                      obtain ⟨e81, e82, e83⟩ := e8
                      generalize hxk : bs X[k2] = xk at *
                      have hkl : (k2 : Int) < (k : Int) := by have := hXl.out; omega
                      have hw1 : IntKind.i64.wrap ((j2 : Int) - 1) = (k2 : Int) := wrap_prev hjk2 hj5
                      have hw2 : wrap64 ((j2 : Int) - 1) = (k2 : Int) := wrap_prev2 hjk2 hj5
                      rw [hao2] at e81
                      subst e81
                      clear hIX hc8 hy hxk hjk2 e82 e83 hao2
                      go_wp2_with fail
                      refine HG.out.mono ?_
                      rintro e w9 ⟨rfl, hb⟩
                      have hu3 := cell_on hb hb2 hu2
                      have hb3 : b2 < w9.heap.size := Nat.lt_of_lt_of_le hb2 hb.size
                      have HB5 := hid (HB4.out.trans (hb.mono HB4.out.size))
                      have hkn : Hid (j2 + 1 = (k2 + 1) + 1) := hid (by have := hj2.out; omega)
                      have hk3 : k2 + 1 ≤ X.length := hkX
                      clear hb hu2 hb2 g0 g1 g2 g3 g5 g6 gl HG
                      go_wp2
                      go_roundw
                      case rel => exact ⟨k2 + 1, j2 + 1, by go_num, hk3, hkn, HB5⟩
                      case measure => simp [intOf]; omega
                    · clear hj2 hk2
                      go_wp2_with fail
                      refine (new_nil _).mono ?_
                      rintro e w9 ⟨rfl, hw⟩
                      subst hw
                      clear g0 g1 g2 g3 g5 g6 gl
                      go_upto_region 42 with fail
                      have HA := hid (head_ok (K9.out.kept (Below.refl wr.heap.size wr).drew).at'.blk)
                      have HPn := hid (fun w => put_nil w a1 ⟨#[]⟩)
                      have HHn := hid (fun w => head_nil w)
                      unfold hV at HA HHn
                      unfold hd0 at HHn
                      simp only at HHn
                      have J0 := hid (Sp.Hb.cells (show Sp.Hb bq h wr.drew from G10.out))
                      have B0 := hid (HB4.out.drew)
                      go_region_held3 (fun W => W.cell? ⟨bq, 0, none⟩ = some (.int .i64 h.mode) ∧ W.cell? ⟨bq, 1, none⟩ = some (.int .i64 h.pages) ∧ W.cell? ⟨bq, 2, none⟩ = some (.int .i64 h.trunk) ∧ W.cell? ⟨bq, 3, none⟩ = some (.int .i64 h.spare) ∧ W.cell? ⟨bq, 4, none⟩ = some (.int .i64 h.root) ∧ W.cell? ⟨bq, 5, none⟩ = some (.int .u64 (h.change : Nat)))
                        (first | with_reducible exact J0.out | with_reducible exact J1.out | with_reducible exact J3.out)
                        (first
                          | go_at_call 16; with_reducible refine (HPn.out _).mono ?_; rintro e w10 ⟨rfl, hw10⟩; subst hw10
                          | go_at_call 18; with_reducible refine HA.out.mono ?_; rintro e w9 ⟨rfl, hb9⟩; have hb9' := after_drew hb9; have X1 := hid (G10.out.on hb9'); have J1 := hid X1.out.cells; have B1 := hid (HB4.out.trans (hb9'.mono HB4.out.size)); clear hb9 hb9'
                          | go_at_call 18; with_reducible refine (HHn.out _).mono ?_; rintro e w11 ⟨rfl, hb11⟩; have X3 := hid (X1.out.on hb11); have J3 := hid X3.out.cells; have B3 := hid (B1.out.trans (hb11.mono B1.out.size)); clear hb11)
                      go_wp2
                      go_ret
                      exact ⟨rfl, K8.out.be.trans (B3.out.mono K8.out.size)⟩
end shelfFails
end Go.Proofs.Ytbenjlddihpciaa
