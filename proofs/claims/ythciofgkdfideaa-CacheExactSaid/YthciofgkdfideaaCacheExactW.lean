/-
  CacheExact: the walk of the statement.
-/
import Derived.Test.YthciofgkdfideaaCacheExactL
import Derived.Deep.CutBlock
namespace Go.Proofs.Ythciofgkdfideaa
open Go.RowKit
namespace cacheExact
open Ca
open Num (hid)
open Mem (Bs bs tI tS Chg Row ptr LAt blk_cell blk_free blk_new blk_set blk_other blk_alloc wpList_append_run)
structure KE (size : Nat) (l : Ca.Row) : Prop where
  ok : Ok size l
  fit : ∀ x ∈ l, Fits x.d
theorem KE.put {size : Nat} {l : Ca.Row} (k : KE size l) (h1 : 1 ≤ size) (n : Int) {d : Bs} (hd : Fits d) (w : Bool) : KE size (putM size n d w l) := by
  refine ⟨k.ok.put h1 n d w, fun x hx => ?_⟩
  have hx2 := List.mem_of_mem_drop hx
  unfold onto at hx2
  rcases List.mem_append.1 hx2 with h3 | h3
  · exact k.fit x (mem_wo.1 h3).1
  · rw [List.mem_singleton] at h3
    rw [h3]
    exact hd
theorem KE.get {size : Nat} {l : Ca.Row} (k : KE size l) (n : Int) : KE size (getM n l) := ⟨k.ok.get n, fun x hx => k.fit x ((mem_getM k.ok.nd).1 hx)⟩
theorem KE.clean {size : Nat} {l : Ca.Row} (k : KE size l) (n : Int) : KE size (cleanM n l) := by
  refine ⟨k.ok.clean n, fun x hx => ?_⟩
  obtain ⟨y, hy, rfl⟩ := List.mem_map.1 hx
  split
  · exact k.fit y hy
  · exact k.fit y hy
theorem KE.forget {size : Nat} {l : Ca.Row} (k : KE size l) (n : Int) : KE size (wo n l) := ⟨k.ok.forget n, fun x hx => k.fit x (mem_wo.1 hx).1⟩
theorem KE.nil (size : Nat) : KE size [] := ⟨ok_nil size, fun _ h => (by cases h)⟩
theorem KE.len {size : Nat} {l : Ca.Row} (k : KE size l) (hs : size ≤ 256) : l.length ≤ 256 := Nat.le_trans k.ok.le hs
theorem acts_ways {w : World} {x : Value} {l : List ActC} (h : LAt 4 actV w x l) : ∃ ao cap, x = .slice ao l.length cap ∧ l.length ≤ maxLen ∧ ∀ j (hj : j < l.length), ∃ b o, ao = some ⟨b, o, none⟩ ∧ b < w.heap.size ∧ w.cell? ⟨b, o + j * 4, none⟩ = some (.int .i64 l[j].k) ∧ w.cell? ⟨b, o + j * 4 + 1, none⟩ = some (.int .i64 l[j].n) ∧ w.cell? ⟨b, o + j * 4 + 2, none⟩ = some (.string (bs l[j].d)) ∧ w.cell? ⟨b, o + j * 4 + 3, none⟩ = some (.bool l[j].w) := by
  obtain ⟨ao, cap, h1, h2, -, h4⟩ := h.ways
  refine ⟨ao, cap, h1, h2, fun j hj => ?_⟩
  obtain ⟨b, o, e1, e2, e3⟩ := h4 j hj
  exact ⟨b, o, e1, e2, e3 0 (by decide), e3 1 (by decide), e3 2 (by decide), e3 3 (by decide)⟩
abbrev aObj (x : ActC) : Obj := .cells #[.int .i64 x.k, .int .i64 x.n, .string (bs x.d), .bool x.w] tA
set_option maxRecDepth 100000 in
set_option maxHeartbeats 4000000 in
theorem walk (a0 : Int) (v1 : Value) (l1 : List ActC) (w : World) (h1 : LAt 4 actV w v1 l1) (f1 : ∀ a ∈ l1, FitA a) :
    Calls Try.prog 3 #[.int .i64 a0, v1] w fun e w' => e = .returned (.bool true) ∧ Below w.heap.size w w' := by
  obtain ⟨ao1, cap1, rfl, hm1, hx1⟩ := acts_ways h1
  have HX1 := hid hx1
  have HM := hid hm1
  have HF1 := hid f1
  clear hm1 hx1 h1 f1
  go_enter Try.func3, Try.ntmps3
  go_wp2_with fail
  refine (awake_any w).mono ?_
  rintro e w1 ⟨rfl, hb1⟩
  have HB1 := hid hb1
  clear hb1
  go_wp2_with fail
  refine (new_any a0 w1).mono ?_
  rintro e w2 ⟨c, rfl, -, hca, hb2⟩
  have HB2 := hid hb2
  have HCA := hid hca
  clear hb2 hca
  go_wp2_with fail
  refine (rnew_any a0 w2).mono ?_
  rintro e w3 ⟨rfl, hu, hb3⟩
  have E0 := hid (ES.new HB1.out HCA.out HB2.out hu hb3)
  obtain ⟨size, hsz⟩ : ∃ x, clamp a0 = x := ⟨_, rfl⟩
  have HSZ := hid (show 1 ≤ size ∧ size ≤ 256 by rw [← hsz]; exact clamp_low a0)
  rw [hsz] at E0
  generalize w2.heap.size = u at *
  clear hu hb3 hsz HB1 HB2 HCA
  have K0 := hid (KE.nil size)
  go_wp2_with fail
  go_loopw [7] (fun iv wr => ∃ (i : Nat) (l : Ca.Row), i ≤ l1.length ∧ i ≤ 300 ∧ iv = .int .i64 (i : Int) ∧ Hid (ES w c u size l l wr) ∧ Hid (KE size l)) (fun iv _ => 300 - (intOf iv).toNat)
  case atStart => exact ⟨0, [], Nat.zero_le _, Nat.zero_le _, rfl, E0, K0⟩
  case round =>
    obtain ⟨i, l, hi1, hi2, rfl, HS, HK⟩ := hrel
    clear E0 K0
    by_cases hlt : i < l1.length ∧ i < 300
    · obtain ⟨hlt1, hlt2⟩ := hlt
      have hle1 : (i : Int) < (l1.length : Int) := by omega
      have hle2 : (i : Int) < 300 := by omega
      obtain ⟨b0, o0, rfl, hb0, x0, x1, x2, x3⟩ := HX1.out i hlt1
      have HFA := hid (HF1.out l1[i] (List.getElem_mem hlt1))
      have hlb := Nat.lt_of_lt_of_le hb0 HS.out.bel.size
      rw [← HS.out.bel.cell (p := ⟨b0, o0 + i * 4, none⟩) hb0] at x0
      rw [← HS.out.bel.cell (p := ⟨b0, o0 + i * 4 + 1, none⟩) hb0] at x1
      rw [← HS.out.bel.cell (p := ⟨b0, o0 + i * 4 + 2, none⟩) hb0] at x2
      rw [← HS.out.bel.cell (p := ⟨b0, o0 + i * 4 + 3, none⟩) hb0] at x3
      have E5 := hid (HS.out.boxed (aObj l1[i]))
      obtain ⟨⟨ak, an, ad, aw⟩, hae⟩ : ∃ x, l1[i] = x := ⟨_, rfl⟩
      rw [hae] at HFA E5 x0 x1 x2 x3
      dsimp only [aObj] at HFA E5 x0 x1 x2 x3
      have HLT := hid (HS.out.bel)
      have HWF : Hid (Wf an) := hid HFA.out.1
      have HFD : ad.length ≤ reachBytes := HFA.out.2
      have HFT : Hid (Fits ad) := hid (by unfold Fits; unfold reachBytes at HFD; omega)
      clear hae hb0 HS HFD HFA
      go_upto_region 9 with fail
      generalize wr.heap.size = g at *
      generalize hw5 : wr.alloc (.cells #[.int .i64 ak, .int .i64 an, .string (bs ad), .bool aw] tA) = w5 at *
      clear hw5 x0 x1 x2 x3 hlb
      have HBX := hid (fun (wz : World) (hb : wz.heap[g]? = some (.cells #[.int .i64 ak, .int .i64 an, .string (bs ad), .bool aw] tA)) => And.intro (blk_cell hb 0) (And.intro (blk_cell hb 1) (And.intro (blk_cell hb 2) (And.intro (blk_cell hb 3) (lt_of_block hb)))))
      obtain ⟨b0c, b1c, b2c, b3c, hlg⟩ := HBX.out w5 E5.out.box
      simp only [List.getElem?_toArray, List.getElem?_cons_succ, List.getElem?_cons_zero] at b0c b1c b2c b3c HBX
      have HLL := hid (HK.out.len HSZ.out.2)
      go_upto_block 2 with fail
      go_cut [] from 35 to 105 (fun wc => ∃ l' : Ca.Row, Hid (EB w c u size g (.cells #[.int .i64 ak, .int .i64 an, .string (bs ad), .bool aw] tA) l' l' wc) ∧ Hid (KE size l'))
      case first =>
        by_cases h1 : ak = 1
        · have e1 : (ak == 1) = true := by simpa using h1
          have HG := hid (E5.out.cget HK.out.ok.nd HK.out.fit HWF.out)
          have HKN := hid (HK.out.get an)
          have HUG := hid (fun wz (h : EB w c u size g (.cells #[.int .i64 ak, .int .i64 an, .string (bs ad), .bool aw] tA) (getM an l) l wz) => h.uget HK.out.ok.nd (by have := HLL.out; omega) an)
          generalize foundM an l = fx at *
          obtain ⟨⟨fx0, fx1, fx2⟩, fx3⟩ := fx
          dsimp only at HG HUG
          generalize getM an l = l5 at *
          clear h1
          go_wp2_with fail
          refine HG.out.mono ?_
          rintro e w6 ⟨rfl, h6⟩
          have HU6 := hid (HUG.out w6 h6)
          obtain ⟨c0c, c1c, c2c, c3c, hlg6⟩ := HBX.out w6 h6.box
          clear h6 b0c b1c b2c b3c hlg
          go_wp2_with fail
          refine HU6.out.mono ?_
          rintro e w7 ⟨rfl, h7⟩
          have E7 := hid h7
          clear h7 c0c c1c c2c c3c hlg6
          go_wp2_with fail
          go_meet
          exact ⟨l5, E7, HKN⟩
        · have e1 : (ak == 1) = false := by simpa using h1
          clear h1
          by_cases h2 : ak = 2
          · have e2 : (ak == 2) = true := by simpa using h2
            have HP := hid ((E5.out.on (Below.refl w5.heap.size w5).drew).cput HK.out.ok.nd (by have := HLL.out; omega) HWF.out HFT.out aw)
            have HKN := hid (HK.out.put HSZ.out.1 an HFT.out aw)
            have HUP := hid (fun wz (h : EB w c u size g (.cells #[.int .i64 ak, .int .i64 an, .string (bs ad), .bool aw] tA) (putM size an ad aw l) l wz) => h.uput HK.out.ok.nd (by have := HLL.out; omega) an ad aw)
            have HOL : Hid ((outM size an ad aw l).length ≤ 300) := hid (by
              have h3 := put_goes HK.out.ok an ad aw
              unfold outM
              rw [List.length_map]
              refine Nat.le_trans (List.length_filter_le _ _) ?_
              rw [List.length_take]
              omega)
            have HUL : Hid (u < w5.heap.size) := hid (by
              obtain ⟨-, -, -, -, h3⟩ := E5.out.uclear
              exact h3)
            generalize outM size an ad aw l = O at *
            generalize putM size an ad aw l = l5 at *
            clear h2
            go_upto_region 16 with fail
            have J0 := hid (HBX.out w5.drew E5.out.box)
            clear b0c b1c b2c b3c hlg
            go_region_held3 (fun W => W.cell? ⟨g, 1, none⟩ = some (.int .i64 an) ∧ W.cell? ⟨g, 2, none⟩ = some (.string (bs ad)) ∧ W.cell? ⟨g, 3, none⟩ = some (.bool aw))
              (first | with_reducible exact ⟨J0.out.2.1, J0.out.2.2.1, J0.out.2.2.2.1⟩ | with_reducible exact ⟨J1.out.2.1, J1.out.2.2.1, J1.out.2.2.2.1⟩ | with_reducible exact ⟨J2.out.2.1, J2.out.2.2.1, J2.out.2.2.2.1⟩ | with_reducible exact ⟨J3.out.2.1, J3.out.2.2.1, J3.out.2.2.2.1⟩)
              (first
                | go_at_call 12; refine HP.out.mono ?_; rintro e w6 ⟨vp, rfl, hp, h6⟩; have J1 := hid (HBX.out w6 h6.box); have HU6 := hid (HUP.out w6 h6); have HP6 := hid hp; clear h6 hp
                | go_at_call 13; refine HU6.out.mono ?_; rintro e w7 ⟨vq, rfl, hq, h7, hch, -⟩; have J2 := hid (HBX.out w7 h7.box); have E7 := hid h7; have HSM := hid (same_yes (Mem.OwnL.row (t := tP) (enc := pV) pV_len (HP6.out.kept hch (fun j hj e => by have h9 : w5.heap.size ≤ j := HP6.out.2 j hj; have := HUL.out; omega)).1 (by have := HOL.out; unfold maxLen; omega)) (Mem.OwnL.row (t := tP) (enc := pV) pV_len hq.1 (by have := HOL.out; unfold maxLen; omega))); clear h7 hq hch
                | go_at_call 11; refine HSM.out.mono ?_; rintro e w8 ⟨rfl, hb8⟩; have E8 := hid (E7.out.on hb8); have J3 := hid (HBX.out w8 E8.out.box); clear hb8)
            go_wp2_with fail
            go_meet
            exact ⟨l5, E8, HKN⟩
          · have e2 : (ak == 2) = false := by simpa using h2
            clear h2
            by_cases h3 : ak = 3
            · have e3 : (ak == 3) = true := by simpa using h3
              have HG := hid (E5.out.cclean HK.out.ok.nd HWF.out)
              have HKN := hid (HK.out.clean an)
              have HUG := hid (fun wz (h : EB w c u size g (.cells #[.int .i64 ak, .int .i64 an, .string (bs ad), .bool aw] tA) (cleanM an l) l wz) => h.uclean (by have := HLL.out; omega) an)
              generalize cleanM an l = l5 at *
              clear h3
              go_wp2_with fail
              refine HG.out.mono ?_
              rintro e w6 ⟨rfl, h6⟩
              have HU6 := hid (HUG.out w6 h6)
              obtain ⟨c0c, c1c, c2c, c3c, hlg6⟩ := HBX.out w6 h6.box
              clear h6 b0c b1c b2c b3c hlg
              go_wp2_with fail
              refine HU6.out.mono ?_
              rintro e w7 ⟨rfl, h7⟩
              have E7 := hid h7
              clear h7 c0c c1c c2c c3c hlg6
              go_wp2_with fail
              go_meet
              exact ⟨l5, E7, HKN⟩
            · have e3 : (ak == 3) = false := by simpa using h3
              clear h3
              by_cases h4 : ak = 4
              · have e4 : (ak == 4) = true := by simpa using h4
                have HG := hid (E5.out.cforget HK.out.ok.nd HWF.out)
                have HKN := hid (HK.out.forget an)
                have HUG := hid (fun wz (h : EB w c u size g (.cells #[.int .i64 ak, .int .i64 an, .string (bs ad), .bool aw] tA) (wo an l) l wz) => h.uforget HK.out.ok.nd (by have := HLL.out; omega) an)
                generalize wo an l = l5 at *
                clear h4
                go_wp2_with fail
                refine HG.out.mono ?_
                rintro e w6 ⟨rfl, h6⟩
                have HU6 := hid (HUG.out w6 h6)
                obtain ⟨c0c, c1c, c2c, c3c, hlg6⟩ := HBX.out w6 h6.box
                clear h6 b0c b1c b2c b3c hlg
                go_wp2_with fail
                refine HU6.out.mono ?_
                rintro e w7 ⟨rfl, h7⟩
                have E7 := hid h7
                clear h7 c0c c1c c2c c3c hlg6
                go_wp2_with fail
                go_meet
                exact ⟨l5, E7, HKN⟩
              · have e4 : (ak == 4) = false := by simpa using h4
                clear h4
                by_cases h5 : ak = 5
                · have e5 : (ak == 5) = true := by simpa using h5
                  have HG := hid (E5.out.cclear)
                  have HKN := hid (KE.nil size)
                  clear h5
                  go_wp2_with fail
                  refine HG.out.mono ?_
                  rintro e w6 ⟨rfl, h6⟩
                  obtain ⟨k1, v, k2, k3, k4⟩ := h6.uclear
                  have E7 := hid k1
                  clear h6 k1 b0c b1c b2c b3c hlg
                  go_wp2_with fail
                  go_meet
                  exact ⟨[], E7, HKN⟩
                · have e5 : (ak == 5) = false := by simpa using h5
                  clear h5
                  go_wp2_with fail
                  go_meet
                  exact ⟨l, E5, HK⟩
      case rest =>
        obtain ⟨l5, E7, HK5⟩ := hcut
        clear b0c b1c b2c b3c hlg E5 HK HLL HBX HWF HFT
        have HLL := hid (HK5.out.len HSZ.out.2)
        have ED := hid (E7.out.es.on (Below.refl wc.heap.size wc).drew)
        have HLN := hid (ED.out.clen)
        have HCD := hid (ED.out.cdirty HK5.out.ok.nd (by have := HLL.out; omega) HK5.out.fit)
        have HUD := hid (fun wz (h : ES w c u size l5 l5 wz) => h.udirty (by have := HLL.out; omega))
        obtain ⟨ao5, cap5, y0, hlu⟩ := ED.out.ulen
        have HY := hid y0
        have HLU := hid hlu
        generalize dirtyM l5 = D at *
        obtain ⟨n5, hn5⟩ : ∃ x, List.length l5 = x := ⟨_, rfl⟩
        rw [hn5] at HLN HY
        have hnn : ((n5 : Int) != (n5 : Int)) = false := by simp
        clear hn5 y0 hlu
        go_upto_region 27 with fail
        go_region_held3 (fun W => W.cell? ⟨u, 1, none⟩ = some (.slice ao5 n5 cap5))
          (first | with_reducible exact HY.out | with_reducible exact Y6.out | with_reducible exact Y7.out | with_reducible exact Y8.out)
          (first
            | go_at_call 19; refine HLN.out.mono ?_; rintro e w5' ⟨rfl, rfl⟩
            | go_at_call 20; refine HCD.out.mono ?_; rintro e w6 ⟨v6, rfl, hp6, hb6⟩; have E8 := hid (ED.out.on hb6); have P6 := hid hp6; have Y6 := hid ((hb6.cell (p := ⟨u, 1, none⟩) HLU.out).trans HY.out); have L6 := hid (Nat.lt_of_lt_of_le HLU.out hb6.size); have HU6 := hid (HUD.out w6 E8.out); clear hp6 hb6
            | go_at_call 21; refine HU6.out.mono ?_; rintro e w7 ⟨v7, rfl, hp7, hb7⟩; have E9 := hid (E8.out.on hb7); have HSM := hid (same_yes (P6.out.on hb7) hp7); have Y7 := hid ((hb7.cell (p := ⟨u, 1, none⟩) L6.out).trans Y6.out); have L7 := hid (Nat.lt_of_lt_of_le L6.out hb7.size); clear hp7 hb7
            | go_at_call 11; refine HSM.out.mono ?_; rintro e w8 ⟨rfl, hb8⟩; have E10 := hid (E9.out.on hb8); have Y8 := hid ((hb8.cell (p := ⟨u, 1, none⟩) L7.out).trans Y7.out); clear hb8)
        go_wp2
        go_roundw
        case rel => exact ⟨i + 1, l5, by omega, by omega, by go_num, E10, HK5⟩
        case measure => simp [intOf]; omega
    · have hstop : ¬ ((i : Int) < (l1.length : Int)) ∨ (((i : Int) < (l1.length : Int)) ∧ ¬ ((i : Int) < 300)) := by
        by_cases h1' : i < l1.length
        · exact Or.inr ⟨by omega, fun h2' => hlt ⟨h1', by omega⟩⟩
        · exact Or.inl (by omega)
      have HBE := hid HS.out.bel
      clear hlt
      rcases hstop with hs1 | ⟨hs1, hs2⟩
      all_goals
        go_wp2
        go_ret
        exact ⟨rfl, HBE.out⟩
end cacheExact
end Go.Proofs.Ythciofgkdfideaa
