/-
  The walk of RowOrder: it answers true; the old memory stays.
-/
import Derived.Test.YtiellodbkanciaaGreatDoorRowAwake
import Derived.Test.YtiellodbkanciaaGreatDoorRowFrame
import Derived.Laws.OwnMore
import Derived.Lib.AppendZeros
import Derived.Deep.DeepCutAuto
namespace Go.Proofs.YtiellodbkanciaaGreatDoor.rowOrder
open Go.RowKit Go.Proofs.YtiellodbkanciaaGreatDoor.Va Go.Proofs.YtiellodbkanciaaGreatDoor.Ro
open Num (hid)
/-- A row that came in: a slice with an address, or nil. -/
def Shp (x : Value) : Prop := (∃ a n c, x = .slice (some a) n c) ∨ x = .slice none 0 0
/-- 'd = append(d, x...)', x a row as it came in. -/
theorem wpList_append_row {w w0 : World} {ops : Array Oper} {rest : List Oper} {o : Oper} {a : Act} {Q : Exit → Act → World → Prop} (hgd : o.guard = none) (s x : Operand)
    (ho : o.op = .call { callee := .builtin .append, args := #[s, x], argTypes := #[tR, tR] })
    (base : Nat) (d : Value) (l : Vs) (hs : a.eval s = d) (hown : OwnR w base d l) (hbel : Below base w0 w) (hbase : base ≤ w.heap.size)
    (xv : Value) (m : Vs) (hx : a.eval x = xv) (hsh : Shp xv) (hrow : RowAt w xv m) (hlen : l.length + m.length ≤ 1000)
    (h : ∀ d' w', OwnR w' base d' (l ++ m) → Below base w0 w' → wpList Tryz.prog ops Q rest (a.put o.dst d') w') : wpList Tryz.prog ops Q (o :: rest) a w := by
  obtain ⟨i, hi, h0, h1, h2⟩ := info_parts infoV
  rcases hsh with ⟨ad, n, c, rfl⟩ | rfl
  · obtain ⟨ao, cap, hv, -, hat⟩ := hrow.ways
    cases hv
    refine wpList_append_own w hgd s x tR ho base tV i (.agg #[.int .i64 0, .int .i64 0, .string ⟨#[]⟩]) 3 32 Tryz.underlying41 hi h0 h1 h2 rfl (by decide) d l.length (vcells l) hs hown ad m.length c (vcells m) hx (vcells_len m) ?_ ?_ ?_ ?_ hbase ?_
    · intro j u hj
      have hjl : j < m.length * 3 := by
        have := (List.getElem?_eq_some_iff.1 hj).1
        rwa [vcells_len] at this
      have hq : j / 3 < m.length := by omega
      obtain ⟨b, o', e, -, c0, c1, c2⟩ := hat (j / 3) hq
      cases e
      obtain ⟨v0, v1, v2⟩ := vcells_at m (j / 3) hq
      have ea : (⟨b, o', none⟩ : Addr).add j = ⟨b, o' + j, none⟩ := by simp [Addr.add]
      rw [ea]
      have hr : j % 3 < 3 := Nat.mod_lt _ (by decide)
      have ej : j = j / 3 * 3 + j % 3 := by omega
      have hways : j % 3 = 0 ∨ j % 3 = 1 ∨ j % 3 = 2 := by omega
      rcases hways with hr0 | hr0 | hr0
      · have e1 : j = j / 3 * 3 := by omega
        have e2 : o' + j = o' + j / 3 * 3 := by omega
        rw [e1, v0] at hj
        rw [e2, c0]
        exact hj
      · have e1 : j = j / 3 * 3 + 1 := by omega
        have e2 : o' + j = o' + j / 3 * 3 + 1 := by omega
        rw [e1, v1] at hj
        rw [e2, c1]
        exact hj
      · have e1 : j = j / 3 * 3 + 2 := by omega
        have e2 : o' + j = o' + j / 3 * 3 + 2 := by omega
        rw [e1, v2] at hj
        rw [e2, c2]
        exact hj
    · intro u hu
      obtain ⟨v, _, hv⟩ := List.mem_flatMap.1 hu
      simp at hv
      rcases hv with rfl | rfl | rfl <;> rfl
    · unfold maxLen; omega
    · omega
    · intro d' w' ho' hg' _
      refine h d' w' ?_ (hbel.grown hg' hbase (fun k hk => (hown.lt k hk).1))
      unfold OwnR
      rw [vcells_append, List.length_append]
      exact ho'
  · have hm : m = [] := by
      obtain ⟨ao, cap, hv, -, -⟩ := hrow.ways
      simp only [Value.slice.injEq] at hv
      exact List.length_eq_zero_iff.1 hv.2.1.symm
    subst hm
    refine Lib.wpList_append_run w hgd s x tR tR ho d (.slice none 0 0) hs hx d w (run_append_owned_none w base tR o.type tV i 3 Tryz.underlying41 hi d l.length (vcells l) hown) (h d w ?_ hbel)
    rw [List.append_nil]
    exact hown
/-- What the order of rows does. -/
structure Ord (a b c : Vs) (X Y Z : Int) : Prop where
  anti : lexV b a = -X
  x1 : -1 ≤ X ∧ X ≤ 1
  y1 : -1 ≤ Y ∧ Y ≤ 1
  z1 : -1 ≤ Z ∧ Z ≤ 1
  go : X ≤ 0 → Y ≤ 0 → Z ≤ 0
  lt : X < 0 → Y ≤ 0 → Z < 0
theorem ways1 {X : Int} (h : X = -1 ∨ X = 0 ∨ X = 1) : -1 ≤ X ∧ X ≤ 1 := by omega
theorem ord_of (a b c : Vs) : Ord a b c (lexV a b) (lexV b c) (lexV a c) :=
  ⟨lexV_anti b a, ways1 (lexV_ways a b), ways1 (lexV_ways b c), ways1 (lexV_ways a c), fun h1 h2 => (lexV_trans a b c h1 h2).1, fun h1 h2 => ((lexV_trans a b c (by omega) h2).2).2 (Or.inl h1)⟩
set_option maxRecDepth 100000 in
set_option maxHeartbeats 16000000 in
theorem walk (v0 : Value) (l0 : Vs) (v1 : Value) (l1 : Vs) (v2 : Value) (l2 : Vs) (W : World) (ra0 : RowAt W v0 l0) (_wd0 : Wide l0) (fw0 : Few l0) (sh0 : Shp v0) (ra1 : RowAt W v1 l1) (_wd1 : Wide l1) (fw1 : Few l1) (sh1 : Shp v1) (ra2 : RowAt W v2 l2) (_wd2 : Wide l2) (fw2 : Few l2) (sh2 : Shp v2) (g : Glob W) :
    Calls Tryz.prog 9 #[v0, v1, v2] W fun e w' => e = .returned (.bool true) ∧ Below W.heap.size W w' := by
  have Hg := hid g
  have HA0 := hid ra0
  have HA1 := hid ra1
  have HA2 := hid ra2
  have HS0 := hid sh0
  have HS1 := hid sh1
  have HS2 := hid sh2
  have HT0 := hid (fun w (h : RowAt w v0 l0) => total_any v0 l0 w h (fun x hx => Nat.le_trans (fw0.each x hx) (by decide)) (Nat.le_trans fw0.len (by decide)))
  have HT1 := hid (fun w (h : RowAt w v1 l1) => total_any v1 l1 w h (fun x hx => Nat.le_trans (fw1.each x hx) (by decide)) (Nat.le_trans fw1.len (by decide)))
  have HT2 := hid (fun w (h : RowAt w v2 l2) => total_any v2 l2 w h (fun x hx => Nat.le_trans (fw2.each x hx) (by decide)) (Nat.le_trans fw2.len (by decide)))
  obtain ⟨ao0, cap0, hv0, -, -⟩ := ra0.ways
  obtain ⟨ao1, cap1, hv1, -, -⟩ := ra1.ways
  obtain ⟨ao2, cap2, hv2, -, -⟩ := ra2.ways
  have HG0 := hid (fun w (h : RowAt w v0 l0) => Ro.good_any _ l0 w h)
  have HG1 := hid (fun w (h : RowAt w v1 l1) => Ro.good_any _ l1 w h)
  have HG2 := hid (fun w (h : RowAt w v2 l2) => Ro.good_any _ l2 w h)
  clear ra0 fw0 sh0 ra1 fw1 sh1 ra2 fw2 sh2 g
  subst hv0 hv1 hv2
  obtain ⟨n0, hn0⟩ : ∃ k, l0.length = k := ⟨_, rfl⟩
  obtain ⟨n1, hn1⟩ : ∃ k, l1.length = k := ⟨_, rfl⟩
  obtain ⟨n2, hn2⟩ : ∃ k, l2.length = k := ⟨_, rfl⟩
  rw [hn0] at HA0 HS0 HT0 HG0
  rw [hn1] at HA1 HS1 HT1 HG1
  rw [hn2] at HA2 HS2 HT2 HG2
  rw [hn0, hn1, hn2]
  have HN0 := hid hn0
  have HN1 := hid hn1
  have HN2 := hid hn2
  clear hn0 hn1 hn2
  go_enter Tryz.func9, Tryz.ntmps9
  go_wp2_with fail
  refine (awake_any _ Hg.out).mono ?_
  rintro e1 w1 ⟨rfl, hb⟩
  have B := hid hb
  clear hb
  go_upto_region 3 with fail
  go_cut [37] (fun c wx => ∃ x : Bool, c = .bool x ∧ (x = false → goodR l0 = true ∧ goodR l1 = true ∧ goodR l2 = true) ∧ Hid (Below W.heap.size W wx))
  case first =>
    go_wp2_with fail
    refine (HT0.out _ (HA0.out.on B.out)).mono ?_
    rintro e2 w2 ⟨⟨t0, rfl, ht0⟩, rfl⟩
    go_wp2_with fail
    refine (HT1.out _ (HA1.out.on B.out)).mono ?_
    rintro e2 w2 ⟨⟨t1, rfl, ht1⟩, rfl⟩
    go_wp2_with fail
    refine (HT2.out _ (HA2.out.on B.out)).mono ?_
    rintro e2 w2 ⟨⟨t2, rfl, ht2⟩, rfl⟩
    by_cases ht : t0 + t1 + t2 ≤ 65536
    · have ht' : ¬ (65536 : Int) < (t0 : Int) + t1 + t2 := by omega
      clear ht
      cases hg0 : goodR l0 with
      | false =>
        rw [hg0] at HG0
        clear hg0
        go_wp2_with fail
        refine (HG0.out _ (HA0.out.on B.out)).mono ?_
        rintro e3 w3 ⟨rfl, hb⟩
        have B := hid (B.out.trans (hb.mono B.out.size))
        clear hb
        go_wp2_with fail
        go_meet
        exact ⟨true, rfl, (fun h => by cases h), B⟩
      | true =>
        have HH0 := hid hg0
        rw [hg0] at HG0
        clear hg0
        go_wp2_with fail
        refine (HG0.out _ (HA0.out.on B.out)).mono ?_
        rintro e3 w3 ⟨rfl, hb⟩
        have B := hid (B.out.trans (hb.mono B.out.size))
        clear hb
        cases hg1 : goodR l1 with
        | false =>
          rw [hg1] at HG1
          clear hg1
          go_wp2_with fail
          refine (HG1.out _ (HA1.out.on B.out)).mono ?_
          rintro e3 w3 ⟨rfl, hb⟩
          have B := hid (B.out.trans (hb.mono B.out.size))
          clear hb
          go_wp2_with fail
          go_meet
          exact ⟨true, rfl, (fun h => by cases h), B⟩
        | true =>
          have HH1 := hid hg1
          rw [hg1] at HG1
          clear hg1
          go_wp2_with fail
          refine (HG1.out _ (HA1.out.on B.out)).mono ?_
          rintro e3 w3 ⟨rfl, hb⟩
          have B := hid (B.out.trans (hb.mono B.out.size))
          clear hb
          cases hg2 : goodR l2 with
          | false =>
            rw [hg2] at HG2
            clear hg2
            go_wp2_with fail
            refine (HG2.out _ (HA2.out.on B.out)).mono ?_
            rintro e3 w3 ⟨rfl, hb⟩
            have B := hid (B.out.trans (hb.mono B.out.size))
            clear hb
            go_wp2_with fail
            go_meet
            exact ⟨true, rfl, (fun h => by cases h), B⟩
          | true =>
            have HH2 := hid hg2
            rw [hg2] at HG2
            clear hg2
            go_wp2_with fail
            refine (HG2.out _ (HA2.out.on B.out)).mono ?_
            rintro e3 w3 ⟨rfl, hb⟩
            have B := hid (B.out.trans (hb.mono B.out.size))
            clear hb
            go_wp2_with fail
            go_meet
            exact ⟨false, by rw [decide_eq_false (by omega)], fun _ => ⟨HH0.out, HH1.out, HH2.out⟩, B⟩
    · have ht' : (65536 : Int) < (t0 : Int) + t1 + t2 := by omega
      clear ht
      go_wp2_with fail
      go_meet
      exact ⟨true, rfl, (fun h => by cases h), B⟩
  case rest =>
  clear B HT0 HT1 HT2 HG0 HG1 HG2
  obtain ⟨x, rfl, hx, B⟩ := hcut
  cases x with
  | true =>
    go_wp2
    go_ret
    exact ⟨rfl, B.out⟩
  | false =>
    obtain ⟨g0, g1, g2⟩ := hx rfl
    clear hx
    have HC01 : Hid (∀ w, Below W.heap.size W w → Calls Tryz.prog 29 #[.slice ao0 n0 cap0, .slice ao1 n1 cap1] w fun e w' => e = .returned (.int .i64 (lexV l0 l1)) ∧ Below w.heap.size w w') := hid (fun w h => by
      have hh := compare_any _ _ l0 l1 w (HA0.out.on h) (HA1.out.on h)
      rw [cmpR_yes g0 g1] at hh
      exact hh)
    have HC10 : Hid (∀ w, Below W.heap.size W w → Calls Tryz.prog 29 #[.slice ao1 n1 cap1, .slice ao0 n0 cap0] w fun e w' => e = .returned (.int .i64 (lexV l1 l0)) ∧ Below w.heap.size w w') := hid (fun w h => by
      have hh := compare_any _ _ l1 l0 w (HA1.out.on h) (HA0.out.on h)
      rw [cmpR_yes g1 g0] at hh
      exact hh)
    have HC12 : Hid (∀ w, Below W.heap.size W w → Calls Tryz.prog 29 #[.slice ao1 n1 cap1, .slice ao2 n2 cap2] w fun e w' => e = .returned (.int .i64 (lexV l1 l2)) ∧ Below w.heap.size w w') := hid (fun w h => by
      have hh := compare_any _ _ l1 l2 w (HA1.out.on h) (HA2.out.on h)
      rw [cmpR_yes g1 g2] at hh
      exact hh)
    have HC02 : Hid (∀ w, Below W.heap.size W w → Calls Tryz.prog 29 #[.slice ao0 n0 cap0, .slice ao2 n2 cap2] w fun e w' => e = .returned (.int .i64 (lexV l0 l2)) ∧ Below w.heap.size w w') := hid (fun w h => by
      have hh := compare_any _ _ l0 l2 w (HA0.out.on h) (HA2.out.on h)
      rw [cmpR_yes g0 g2] at hh
      exact hh)
    have HC00 : Hid (∀ w, Below W.heap.size W w → Calls Tryz.prog 29 #[.slice ao0 n0 cap0, .slice ao0 n0 cap0] w fun e w' => e = .returned (.int .i64 0) ∧ Below w.heap.size w w') := hid (fun w h => by
      have hh := compare_any _ _ l0 l0 w (HA0.out.on h) (HA0.out.on h)
      rw [cmpR_yes g0 g0, lexV_self] at hh
      exact hh)
    have HCL : Hid (∀ x y w, n2 + n0 ≤ 16 → n2 + n1 ≤ 16 → RowAt w x (l2 ++ l0) → RowAt w y (l2 ++ l1) → Calls Tryz.prog 29 #[x, y] w fun e w' => e = .returned (.int .i64 (lexV l0 l1)) ∧ Below w.heap.size w w') := hid (fun x y w h1 h2 r1 r2 => by
      have hh := compare_any x y (l2 ++ l0) (l2 ++ l1) w r1 r2
      rw [cmpR_yes (good_append g2 g0 (by rw [HN2.out, HN0.out]; exact h1)) (good_append g2 g1 (by rw [HN2.out, HN1.out]; exact h2)), lexV_pre] at hh
      exact hh)
    have HOr := hid (ord_of l0 l1 l2)
    have hb0 : n0 ≤ 16 := by rw [← HN0.out]; exact few g0
    have hb1 : n1 ≤ 16 := by rw [← HN1.out]; exact few g1
    have hb2 : n2 ≤ 16 := by rw [← HN2.out]; exact few g2
    clear g0 g1 g2
    rw [HOr.out.anti] at HC10
    generalize lexV l0 l1 = X at *
    generalize lexV l1 l2 = Y at *
    generalize lexV l0 l2 = Z at *
    go_wp2_with fail
    refine (HC01.out _ B.out).mono ?_
    rintro e3 w3 ⟨rfl, hb⟩
    have B := hid (B.out.trans (hb.mono B.out.size))
    clear hb
    go_wp2_with fail
    refine (HC12.out _ B.out).mono ?_
    rintro e3 w4 ⟨rfl, hb⟩
    have B := hid (B.out.trans (hb.mono B.out.size))
    clear hb
    go_wp2_with fail
    refine (HC02.out _ B.out).mono ?_
    rintro e3 w5 ⟨rfl, hb⟩
    have B := hid (B.out.trans (hb.mono B.out.size))
    clear hb
    go_upto_region 8 with fail
    go_cut [82] (fun c wx => c = .bool false ∧ Hid (Below W.heap.size W wx))
    case first =>
      go_wp2_with fail
      refine (HC10.out _ B.out).mono ?_
      rintro e3 w6 ⟨rfl, hb⟩
      have B := hid (B.out.trans (hb.mono B.out.size))
      clear hb
      have hneg : wrap64 (-(-X)) = X := by have := HOr.out.x1; rw [Num.wrap_i]; omega
      have hneg2 : -(-X) = X := Int.neg_neg X
      have hneg3 : wrap64 X = X := by have := HOr.out.x1; rw [Num.wrap_i]; omega
      go_wp2_with fail
      refine (HC00.out _ B.out).mono ?_
      rintro e3 w7 ⟨rfl, hb⟩
      have B := hid (B.out.trans (hb.mono B.out.size))
      clear hb hneg hneg2 hneg3
      by_cases hX : X ≤ 0
      · by_cases hY : Y ≤ 0
        · have hZ : ¬ 0 < Z := by have := HOr.out.go hX hY; omega
          by_cases hX2 : X < 0
          · have hZ2 : (Z == 0) = false := by rw [beq_eq_false_iff_ne]; have := HOr.out.lt hX2 hY; omega
            go_wp2_with fail
            go_meet
            exact ⟨by rw [decide_eq_false (by omega)], B⟩
          · go_wp2_with fail
            go_meet
            exact ⟨by rw [decide_eq_false (by omega)], B⟩
        · by_cases hX2 : X < 0
          · go_wp2_with fail
            go_meet
            exact ⟨rfl, B⟩
          · go_wp2_with fail
            go_meet
            exact ⟨rfl, B⟩
      · have hX2 : ¬ X < 0 := by omega
        go_wp2_with fail
        go_meet
        exact ⟨rfl, B⟩
    case rest =>
    clear B
    obtain ⟨rfl, B⟩ := hcut
    by_cases hl1 : n2 + n0 ≤ 16
    · have hl1' : ¬ (16 : Int) < (n2 : Int) + n0 := by omega
      by_cases hl2 : n2 + n1 ≤ 16
      · have hl2' : ¬ (16 : Int) < (n2 : Int) + n1 := by omega
        go_wp2_with (at_builtin; go_must (refine wpList_append_row rfl (.tmp 97) (.tmp 98) rfl W.heap.size (.slice (some ⟨wc.heap.size, 0, none⟩) 0 0) [] rfl (World.ownsRow_lit wc #[] 0 B.out.size (Nat.zero_le _) rfl) (B.out.alloc B.out.size _) (Nat.le_trans B.out.size (by simp)) (.slice ao2 n2 cap2) l2 rfl HS2.out (HA2.out.on (B.out.alloc B.out.size _)) (by rw [HN2.out, List.length_nil]; omega) ?_))
        intro d1 w10 ho1 hb1
        have O1 := hid ho1
        have B1 := hid hb1
        clear ho1 hb1
        go_wp2_with (at_builtin; go_must (refine wpList_append_row rfl (.tmp 99) (.tmp 100) rfl W.heap.size d1 l2 rfl O1.out B1.out B1.out.size (.slice ao0 n0 cap0) l0 rfl HS0.out (HA0.out.on B1.out) (by rw [HN2.out, HN0.out]; omega) ?_))
        intro d2 w11 ho2 hb2
        have O2 := hid ho2
        have B2 := hid hb2
        clear ho2 hb2 O1 B1
        have R2 : Hid (RowAt w11 d2 (l2 ++ l0)) := hid (OwnR.row O2.out (by rw [List.length_append, HN2.out, HN0.out]; unfold maxLen; omega))
        go_wp2_with (at_builtin; go_must (refine wpList_append_row rfl (.tmp 102) (.tmp 103) rfl w11.heap.size (.slice (some ⟨w11.heap.size, 0, none⟩) 0 0) [] rfl (World.ownsRow_lit w11 #[] 0 (Nat.le_refl _) (Nat.zero_le _) rfl) ((Below.refl w11.heap.size w11).alloc (Nat.le_refl _) _) (by simp) (.slice ao2 n2 cap2) l2 rfl HS2.out (HA2.out.on (B2.out.alloc B2.out.size _)) (by rw [HN2.out, List.length_nil]; omega) ?_))
        intro d3 w12 ho3 hb3
        have O3 := hid ho3
        have B3 := hid hb3
        clear ho3 hb3
        go_wp2_with (at_builtin; go_must (refine wpList_append_row rfl (.tmp 104) (.tmp 105) rfl w11.heap.size d3 l2 rfl O3.out B3.out B3.out.size (.slice ao1 n1 cap1) l1 rfl HS1.out (HA1.out.on (B2.out.trans (B3.out.mono B2.out.size))) (by rw [HN2.out, HN1.out]; omega) ?_))
        intro d4 w13 ho4 hb4
        have R4 : Hid (RowAt w13 d4 (l2 ++ l1)) := hid (OwnR.row ho4 (by rw [List.length_append, HN2.out, HN1.out]; unfold maxLen; omega))
        have R5 := hid (R2.out.on hb4)
        have B5 := hid (B2.out.trans (hb4.mono B2.out.size))
        clear ho4 hb4 O3 B3 R2 O2 B2
        go_wp2_with fail
        refine (HCL.out _ _ _ hl1 hl2 R5.out R4.out).mono ?_
        rintro e3 w14 ⟨rfl, hb⟩
        have B6 := hid (B5.out.trans (hb.mono B5.out.size))
        clear hb
        go_wp2
        go_ret
        exact ⟨rfl, B6.out⟩
      · have hl2' : (16 : Int) < (n2 : Int) + n1 := by omega
        go_wp2
        go_ret
        exact ⟨rfl, B.out⟩
    · have hl1' : (16 : Int) < (n2 : Int) + n0 := by omega
      go_wp2
      go_ret
      exact ⟨rfl, B.out⟩
end Go.Proofs.YtiellodbkanciaaGreatDoor.rowOrder
