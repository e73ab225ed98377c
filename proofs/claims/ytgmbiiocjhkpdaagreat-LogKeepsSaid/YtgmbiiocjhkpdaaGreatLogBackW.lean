/-
  The walk of LogBack: frames that are taken back are gone, the others are as they were; what is laid then stands behind them.
-/
import Derived.Test.YtgmbiiocjhkpdaaGreatLogBackM
import Derived.Deep.CutRange
namespace Go.Proofs.YtgmbiiocjhkpdaaGreat
open Go.RowKit Go.Shelf
namespace Lo
open Num (hid)
open Disk (Mod Fil Sees Stays off_sees on_sees)
open Mem (Bs bs LAt iV tI Chg ptr blk_cell blk_free blk_new blk_set blk_other blk_alloc row_kept row_shape row_type wpList_append_run)
variable {d m j b : Nat} {w w' : World}
def remN (x : Int) (q : Nat) : Nat := ((x % 18446744073709551616) % (q : Int)).toNat
theorem remN_lt (x : Int) (q : Nat) (hq : 0 < q) : remN x q < q := by
  unfold remN
  have h1 := Int.emod_lt_of_pos (x % 18446744073709551616) (show (0 : Int) < q from by omega)
  have h2 := Int.emod_nonneg (x % 18446744073709551616) (show (q : Int) ≠ 0 from by omega)
  omega
theorem remN_is (x : Int) (q : Nat) (hq : 0 < q ∧ q ≤ 1000) : wrap64 ((IntKind.u64.wrap x).tmod (q : Int)) = ((remN x q : Nat) : Int) := by
  have h1 := Int.emod_lt_of_pos (x % 18446744073709551616) (show (0 : Int) < q from by omega)
  have h2 := Int.emod_nonneg (x % 18446744073709551616) (show (q : Int) ≠ 0 from by omega)
  have h3 : IntKind.u64.wrap x = x % 18446744073709551616 := Num.wrap_u _
  have h4 : 0 ≤ x % 18446744073709551616 := Int.emod_nonneg _ (by decide)
  rw [h3, Int.tmod_eq_emod_of_nonneg h4, Num.wrap_i]
  unfold remN
  omega
theorem fms_take (q : List FI) (k : Nat) : fms (q.take k) = (fms q).take k := List.map_take ..
theorem take_succ_fi {q : List FI} {i : Nat} (h : i < q.length) : q.take (i + 1) = q.take i ++ [q[i]] := by rw [List.take_add_one, List.getElem?_eq_getElem h]; rfl
/-- A frame of the row that came in, in later worlds. -/
def At4 (ao : Option Addr) (q : List FI) (cap : Nat) (w : World) : Prop := ∀ k (hk : k < q.length), ∃ g o, ao = some ⟨g, o, none⟩ ∧ g < w.heap.size ∧ (k : Int) < (cap : Int) ∧ w.cell? ⟨g, o + k * 4, none⟩ = some (.int .i64 q[k].n) ∧ w.cell? ⟨g, o + k * 4 + 1, none⟩ = some (.int .u8 (q[k].fill.toNat : Int)) ∧ w.cell? ⟨g, o + k * 4 + 2, none⟩ = some (.bool q[k].commit) ∧ w.cell? ⟨g, o + k * 4 + 3, none⟩ = some (.bool q[k].sync)
theorem at4_of {ao : Option Addr} {n cap : Nat} {q : List FI} (h : LAt 4 fiV w (.slice ao n cap) q) : At4 ao q cap w := by
  intro k hk
  obtain ⟨ao', cap', e, _, hcap, hc⟩ := h.ways
  cases e
  obtain ⟨g, o, ea, hg, hx⟩ := hc k hk
  exact ⟨g, o, ea, hg, by omega, hx 0 (by decide), hx 1 (by decide), hx 2 (by decide), hx 3 (by decide)⟩
def cm (x : FI) : FI := ⟨x.n, x.fill, true, x.sync⟩
/-- The frames that are left, and those that were laid behind them. -/
def qs (l0 l2 : List FI) (K i : Nat) : List FI := l0.take K ++ (l2.take i).map cm
theorem qs_zero (l0 l2 : List FI) (K : Nat) : qs l0 l2 K 0 = l0.take K := by unfold qs; rw [List.take_zero, List.map_nil, List.append_nil]
theorem qs_succ (l0 l2 : List FI) (K : Nat) {i : Nat} (h : i < l2.length) : qs l0 l2 K (i + 1) = qs l0 l2 K i ++ [cm l2[i]] := by
  unfold qs
  rw [take_succ_fi h, List.map_append, ← List.append_assoc]
  rfl
theorem qs_len {l0 l2 : List FI} {K i : Nat} (hK : K ≤ l0.length) (hi : i ≤ l2.length) : (qs l0 l2 K i).length = K + i := by
  unfold qs
  rw [List.length_append, List.length_map, List.length_take, List.length_take]
  omega
set_option maxRecDepth 100000 in
set_option maxHeartbeats 8000000 in
theorem back_walk (v0 : Value) (l0 : List FI) (a1 : Int) (v2 : Value) (l2 : List FI) (w : World) (h0 : LAt 4 fiV w v0 l0) (s0 : Shp v0) (h2 : LAt 4 fiV w v2 l2) :
    Calls Tryz.prog 6 #[v0, .int .i64 a1, v2] w fun e w' => e = .returned (.bool true) ∧ Below w.heap.size w w' := by
  obtain ⟨ao, cap, rfl, hlm, hcap0, -⟩ := h0.ways
  obtain ⟨ao2, cap2, rfl, hlm2, hcap2, -⟩ := h2.ways
  have H0 := hid h0
  have S0 := hid s0
  have H2 := hid h2
  have HC0 := hid hcap0
  obtain ⟨N, hN⟩ : ∃ N, min l0.length 40 = N := ⟨_, rfl⟩
  have hmin : min (l0.length : Int) 40 = (N : Int) := by omega
  have hN40 : N ≤ 40 := by omega
  have HNL : Hid (N ≤ l0.length) := hid (by omega)
  have hm1 : (l0.length : Int) ≤ 9223372036854775807 := by unfold maxLen at hlm; omega
  have hm2 : (l2.length : Int) ≤ 9223372036854775807 := by unfold maxLen at hlm2; omega
  clear h0 s0 h2 hN hcap0 hcap2
  obtain ⟨len0, hl0⟩ : ∃ x, l0.length = x := ⟨_, rfl⟩
  have HL0 := hid hl0
  rw [hl0] at hmin hm1 ⊢
  obtain ⟨len2, hl2⟩ : ∃ x, l2.length = x := ⟨_, rfl⟩
  have HL2 := hid hl2
  rw [hl2] at hm2 ⊢
  clear hl0 hl2 hlm hlm2
  have hkv : wrap64 ((IntKind.u64.wrap a1).tmod ((N : Int) + 1)) = ((remN a1 (N + 1) : Nat) : Int) := remN_is a1 (N + 1) ⟨by omega, by omega⟩
  have hKN : remN a1 (N + 1) ≤ N := Nat.le_of_lt_succ (remN_lt a1 (N + 1) (by omega))
  generalize remN a1 (N + 1) = K at *
  have HROW : Hid (∀ wx, Below w.heap.size w wx → At4 ao l0 cap wx) := hid (fun wx hx => at4_of (H0.out.on hx))
  have HROW2 : Hid (∀ wx, Below w.heap.size w wx → At4 ao2 l2 cap2 wx) := hid (fun wx hx => at4_of (H2.out.on hx))
  go_enter Tryz.func6, Tryz.ntmps6
  go_wp2_with fail
  refine (awake_any w).mono ?_
  rintro e w1 ⟨rfl, hb1⟩
  have HB1 := hid hb1
  clear hb1
  go_wp2_with fail
  refine (new_sees 200 w1).mono ?_
  rintro e w2 ⟨d, m, rfl, hs, hb⟩
  have HS2 : Hid (Sees (Bl w.heap.size) d m (Mod.new 200) w2) := hid (hs.fewer (fun k hk => Nat.lt_of_lt_of_le hk HB1.out.size))
  have HB2 := hid (HB1.out.trans (hb.mono HB1.out.size))
  clear hs hb HB1
  go_wp2_with fail
  refine (aw_new HS2.out).mono ?_
  rintro e w3 ⟨j, b, rfl, ha, hs⟩
  have HA3 : Hid (B1 w d m j b (fms (l0.take 0)) 0 w3) := hid ⟨ha, HB2.out.trans (bl_below hs HB2.out.size)⟩
  clear ha hs HS2 HB2
  go_wp2_with fail
  go_loopw [11] (fun iv wr => ∃ i : Nat, i ≤ N ∧ iv = .int .i64 i ∧ Hid (B1 w d m j b (fms (l0.take i)) 0 wr)) (fun iv _ => N - (intOf iv).toNat)
  case atStart => exact ⟨0, Nat.zero_le _, rfl, HA3⟩
  case round =>
    obtain ⟨i, hi, rfl, HA⟩ := hrel
    by_cases hlt : (i : Int) < (N : Int)
    · have HLT : Hid (i < N) := hid (by omega)
      have hil : i < l0.length := by have := HNL.out; omega
      have hat := HROW.out wr HA.out.below i hil
      have hfm : fms (l0.take (i + 1)) = fms (l0.take i) ++ [fm l0[i]] := by rw [take_succ_fi hil, fms_snoc]
      have HFM := hid hfm
      have HLN : Hid ((fms (l0.take i)).length ≤ 40) := hid (by rw [fms_len, List.length_take]; omega)
      generalize l0[i] = x at *
      obtain ⟨g, o, rfl, hg, hic, c0, c1, c2, c3⟩ := hat
      have CX : Hid (∀ wx, Below wr.heap.size wr wx → wx.cell? ⟨g, o + i * 4, none⟩ = some (.int .i64 x.n) ∧ wx.cell? ⟨g, o + i * 4 + 1, none⟩ = some (.int .u8 (x.fill.toNat : Int)) ∧ wx.cell? ⟨g, o + i * 4 + 2, none⟩ = some (.bool x.commit) ∧ wx.cell? ⟨g, o + i * 4 + 3, none⟩ = some (.bool x.sync)) := hid (fun wx hx => ⟨(hx.cell (p := ⟨g, o + i * 4, none⟩) hg).trans c0, (hx.cell (p := ⟨g, o + i * 4 + 1, none⟩) hg).trans c1, (hx.cell (p := ⟨g, o + i * 4 + 2, none⟩) hg).trans c2, (hx.cell (p := ⟨g, o + i * 4 + 3, none⟩) hg).trans c3⟩)
      have hil0 : (i : Int) < (len0 : Int) := by have := HL0.out; omega
      clear c0 c1 c2 c3 hfm hil
      go_upto_region 11 with fail
      refine Tail.wp_region_quiet_tail 17 (fun wx => Below wr.heap.size wr wx) (by kernel_rfl) (by kernel_rfl) (below_dN (Below.refl _ wr) 1) ?_
      simp only [List.take_succ_cons, List.take_zero, List.drop_succ_cons, List.drop_zero]
      go_big_quiet_want
      go_big_quiet_op
      go_big_quiet_on
      go_big_quiet_want
      go_big_quiet_op
      go_big_quiet_on
      go_big_quiet_want
      go_big_quiet_op
      go_big_quiet_on
      go_big_quiet_want
      go_big_quiet_op
      apply Exists.intro
      refine ⟨fun _ _ => ?_, ?_⟩
      · with_reducible exact Eq.refl _
      go_big_quiet_on
      go_big_quiet_want
      go_big_quiet_op
      refine ⟨.agg #[.int .i64 x.n, .int .u8 (x.fill.toNat : Int), .bool x.commit, .bool x.sync], fun wx hx => ?_, ?_⟩
      · obtain ⟨c0, c1, c2, c3⟩ := CX.out wx hx; simp [go_sem, c0, c1, c2, c3]
      go_big_quiet_on
      go_big_quiet_want
      go_big_quiet_op
      refine ⟨.int .i64 (numOf x.n : Nat), fun wx hx => ?_, ?_⟩
      · refine (number_any x wx).mono ?_
        rintro e w9 ⟨rfl, hb9⟩
        exact ⟨rfl, hx.trans (hb9.mono hx.size)⟩
      go_big_quiet_on
      go_big_quiet_want
      go_big_quiet_op
      go_big_quiet_on
      go_big_quiet_want
      go_big_quiet_op
      go_big_quiet_on
      go_big_quiet_want
      go_big_quiet_op
      apply Exists.intro
      refine ⟨fun _ _ => ?_, ?_⟩
      · with_reducible exact Eq.refl _
      go_big_quiet_on
      go_big_quiet_want
      go_big_quiet_op
      apply Exists.intro
      refine ⟨fun _ _ => ?_, ?_⟩
      · with_reducible exact Eq.refl _
      go_big_quiet_on
      go_big_quiet_want
      go_big_quiet_op
      refine ⟨.int .u8 (x.fill.toNat : Int), fun wx hx => ?_, ?_⟩
      · have c := (CX.out wx hx).2.1
        simp [go_sem, c]
      go_big_quiet_on
      go_big_quiet_want
      go_big_quiet_op
      refine ⟨.string (bs (pgL x.fill)), fun wx hx => ?_, ?_⟩
      · refine (page14_any x.fill wx).mono ?_
        rintro e w9 ⟨rfl, hb9⟩
        exact ⟨rfl, hx.trans (hb9.mono hx.size)⟩
      go_big_quiet_on
      go_big_quiet_want
      go_big_quiet_op
      go_big_quiet_on
      go_big_quiet_want
      go_big_quiet_op
      go_big_quiet_on
      go_big_quiet_want
      go_big_quiet_op
      apply Exists.intro
      refine ⟨fun _ _ => ?_, ?_⟩
      · with_reducible exact Eq.refl _
      go_big_quiet_on
      go_big_quiet_want
      go_big_quiet_op
      apply Exists.intro
      refine ⟨fun _ _ => ?_, ?_⟩
      · with_reducible exact Eq.refl _
      go_big_quiet_on
      go_big_quiet_want
      go_big_quiet_op
      refine ⟨.bool x.commit, fun wx hx => ?_, ?_⟩
      · have c := (CX.out wx hx).2.2.1
        simp [go_sem, c]
      go_big_quiet_on
      refine wpQuiet_nil ?_
      intro w4 hb4
      have HA4 := hid (HA.out.on hb4)
      clear hb4
      go_wp2_with fail
      refine (aw_add HA4.out.aw (fm x) (by have := numOf_lt x.n; show numOf x.n < 4096; omega) (by have := HLN.out; omega) (by have := HLN.out; omega)).mono ?_
      rintro e w5 ⟨rfl, ha, hs⟩
      rw [← HFM.out] at ha
      have HNX := hid (HA4.out.to ha hs)
      clear ha hs
      go_wp2
      go_roundw
      case rel => exact ⟨i + 1, HLT.out, by go_num, HNX⟩
      case measure => exact meas_lt' HLT.out
    · obtain rfl : N = i := by omega
      have HKN : Hid (K ≤ N) := hid hKN
      have hKcap : (K : Int) ≤ (cap : Int) := by have := HNL.out; have := HC0.out; omega
      have hK40 : (K : Int) ≤ 40 := by omega
      have hbk := aw_back HA.out.aw K (by rw [fms_len, List.length_take]; have := HNL.out; omega)
      rw [← fms_take, List.take_take, Nat.min_eq_left hKN] at hbk
      have HBK := hid hbk
      have HLK : Hid ((l0.take K).length = K) := hid (by rw [List.length_take]; have := HNL.out; omega)
      clear hbk
      go_wp2_with fail
      refine HBK.out.mono ?_
      rintro e w4 ⟨rfl, ha, hs⟩
      have HA4 := hid (HA.out.to ha hs)
      clear ha hs HBK
      go_wp2_with fail
      refine (aw_holds HA4.out.aw (by rw [HLK.out]; omega) (HA4.out.rowIn (H0.out.take (by have := HNL.out; have := HL0.out; have := HKN.out; omega)))).mono ?_
      rintro e w5 ⟨rfl, ha, hs⟩
      have HA5 := hid (HA4.out.to ha hs)
      clear ha hs HA4
      go_wp2_with fail
      refine (aw_back_no HA5.out.aw ((K : Int) + 1) (Or.inr (by rw [fms_len, HLK.out]; omega))).mono ?_
      rintro e w6 ⟨rfl, ha, hs⟩
      have HA6 := hid (HA5.out.to ha hs)
      clear ha hs HA5
      go_wp2_with fail
      refine (aw_back_no HA6.out.aw (-1) (Or.inl (by decide))).mono ?_
      rintro e w7 ⟨rfl, ha, hs⟩
      have HA7 := hid (HA6.out.to ha hs)
      clear ha hs HA6
      obtain ⟨v8, w8, hr8, ho8, hb8, hv8⟩ := copy_in (shp_take S0.out (k := K) (by have := HNL.out; have := HL0.out; have := HKN.out; omega)) ((H0.out.take (m := K) (by have := HNL.out; have := HL0.out; have := HKN.out; omega)).on HA7.out.below) (by rw [HLK.out]; omega)
      have h8 := B2.start HA7.out hb8 ho8 hv8
      obtain ⟨ao8, cap8, rfl⟩ : ∃ ao8 cap8, v8 = .slice ao8 K cap8 := by obtain ⟨x1, x2, e, _⟩ := row_shape ho8; exact ⟨x1, x2, by rw [e, HLK.out]⟩
      have HR8 := hid hr8
      have HQ8 : Hid (B2 w d m j b (qs l0 l2 K 0) (qs l0 l2 K 0) 0 (.slice ao8 (K + 0) cap8) w8) := hid (by rw [qs_zero]; exact h8)
      clear hr8 ho8 hb8 hv8 h8
      go_wp2_with (at_builtin; refine wpList_append_run rfl (.tmp 85) (.tmp 88) tFIs tFIs rfl _ _ (by simp [Act.eval]) (by simp [Act.eval]) HR8.out ?_)
      go_loopw [13, 14] (fun vv iv wr => ∃ (i : Nat) (ao3 : Option Addr) (cap3 : Nat), i ≤ len2 ∧ i ≤ 40 ∧ vv = .slice ao3 (K + i) cap3 ∧ iv = .int .i64 i ∧ Hid (B2 w d m j b (qs l0 l2 K i) (qs l0 l2 K i) 0 (.slice ao3 (K + i) cap3) wr)) (fun _ iv _ => 40 - (intOf iv).toNat)
      case atStart => exact ⟨0, ao8, cap8, Nat.zero_le _, Nat.zero_le _, rfl, rfl, HQ8⟩
      case round =>
        obtain ⟨i, ao3, cap3, hi2, hi40, rfl, rfl, HB⟩ := hrel
        by_cases hlt2 : (i : Int) < (len2 : Int) ∧ (i : Int) < 40
        · obtain ⟨hl2a, hl2b⟩ := hlt2
          have HLT : Hid (i < 40) := hid (by omega)
          have HI2 : Hid (i + 1 ≤ len2) := hid (by omega)
          have hil : i < l2.length := by have := HL2.out; omega
          have hat := HROW2.out wr HB.out.below i hil
          have hq := qs_succ l0 l2 K hil
          have HQS := hid hq
          have HQL : Hid ((qs l0 l2 K i).length = K + i) := hid (qs_len (by have := HNL.out; have := HKN.out; omega) (by omega))
          generalize l2[i] = x at *
          obtain ⟨g, o, rfl, hg, hic, c0, c1, c2, c3⟩ := hat
          clear hq hil
          go_upto_region 22 with fail
          obtain ⟨w9, hw9⟩ : ∃ y, wr.alloc (.cells #[.int .i64 x.n, .int .u8 (x.fill.toNat : Int), .bool true, .bool x.sync] tFI) = y := ⟨_, rfl⟩
          rw [hw9]
          have hq9 : w9.heap[wr.heap.size]? = some (.cells #[.int .i64 x.n, .int .u8 (x.fill.toNat : Int), .bool true, .bool x.sync] tFI (0, 0)) := by rw [← hw9]; exact blk_new wr _
          have hb9 : Below wr.heap.size wr w9 := by rw [← hw9]; exact (Below.refl _ _).alloc (Nat.le_refl _) _
          have CX : Hid (∀ wx, Below w9.heap.size w9 wx → wx.cell? ⟨wr.heap.size, 0, none⟩ = some (.int .i64 x.n) ∧ wx.cell? ⟨wr.heap.size, 1, none⟩ = some (.int .u8 (x.fill.toNat : Int)) ∧ wx.cell? ⟨wr.heap.size, 2, none⟩ = some (.bool true) ∧ wx.cell? ⟨wr.heap.size, 3, none⟩ = some (.bool x.sync)) := hid (fun wx hx => by
            have hqx := (hx.block _ (lt_of_block hq9)).trans hq9
            exact ⟨blk_cell hqx 0, blk_cell hqx 1, blk_cell hqx 2, blk_cell hqx 3⟩)
          have HNUM : Hid (∀ wx, Calls Tryz.prog 45 #[.agg #[.int .i64 x.n, .int .u8 (x.fill.toNat : Int), .bool true, .bool x.sync]] wx fun e w' => e = .returned (.int .i64 (numOf x.n : Nat)) ∧ Below wx.heap.size wx w') := hid (fun wx => number_any (cm x) wx)
          have HADD : Hid (∀ w4, Below w9.heap.size w9 w4 → Calls Tryz.prog 12 #[ptr j, .int .i64 (numOf x.n : Nat), .string (bs (pgL x.fill)), .bool true] w4 fun e w' => e = .returned (.int .i64 0) ∧ B2 w d m j b (qs l0 l2 K (i + 1)) (qs l0 l2 K i) 0 (.slice ao3 (K + i) cap3) w' ∧ w'.heap[wr.heap.size]? = some (.cells #[.int .i64 x.n, .int .u8 (x.fill.toNat : Int), .bool true, .bool x.sync] tFI (0, 0))) := hid (fun w4 hx => by
            rw [HQS.out]
            exact b2_add_keep HB.out hb9 hx (cm x) (by rw [HQL.out]; omega) (Nat.le_refl _) hq9)
          clear c0 c1 c2 c3 hw9 hq9 hb9
          refine Tail.wp_region_quiet_tail 6 (fun wx => Below w9.heap.size w9 wx) (by kernel_rfl) (by kernel_rfl) (below_dN (Below.refl _ w9) 1) ?_
          simp only [List.take_succ_cons, List.take_zero, List.drop_succ_cons, List.drop_zero]
          go_big_quiet_want
          go_big_quiet_op
          go_big_quiet_on
          go_big_quiet_want
          go_big_quiet_op
          refine ⟨.agg #[.int .i64 x.n, .int .u8 (x.fill.toNat : Int), .bool true, .bool x.sync], fun wx hx => ?_, ?_⟩
          · obtain ⟨c0, c1, c2, c3⟩ := CX.out wx hx; simp [go_sem, c0, c1, c2, c3]
          go_big_quiet_on
          go_big_quiet_want
          go_big_quiet_op
          refine ⟨.int .i64 (numOf x.n : Nat), fun wx hx => ?_, ?_⟩
          · refine (HNUM.out wx).mono ?_
            rintro e w9 ⟨rfl, hb9⟩
            exact ⟨rfl, hx.trans (hb9.mono hx.size)⟩
          go_big_quiet_on
          go_big_quiet_want
          go_big_quiet_op
          apply Exists.intro
          refine ⟨fun _ _ => ?_, ?_⟩
          · with_reducible exact Eq.refl _
          go_big_quiet_on
          go_big_quiet_want
          go_big_quiet_op
          refine ⟨.int .u8 (x.fill.toNat : Int), fun wx hx => ?_, ?_⟩
          · have c := (CX.out wx hx).2.1
            simp [go_sem, c]
          go_big_quiet_on
          go_big_quiet_want
          go_big_quiet_op
          refine ⟨.string (bs (pgL x.fill)), fun wx hx => ?_, ?_⟩
          · refine (page14_any x.fill wx).mono ?_
            rintro e w9 ⟨rfl, hb9⟩
            exact ⟨rfl, hx.trans (hb9.mono hx.size)⟩
          go_big_quiet_on
          refine wpQuiet_nil ?_
          intro w10 hb10
          have HAD := hid (HADD.out w10 hb10)
          clear hb10
          go_wp2_with fail
          refine HAD.out.mono ?_
          rintro e w11 ⟨rfl, h11, hq11⟩
          obtain ⟨ao4, cap4, w12, hr12, h12⟩ := h11.push (cm x) (by rw [HQL.out]; omega)
          rw [HQL.out, ← HQS.out] at h12
          rw [HQL.out] at hr12
          have HR12 := hid hr12
          have HNX : Hid (B2 w d m j b (qs l0 l2 K (i + 1)) (qs l0 l2 K (i + 1)) 0 (.slice ao4 (K + (i + 1)) cap4) w12) := hid h12
          have k0 : w11.cell? ⟨wr.heap.size, 0, none⟩ = some (.int .i64 x.n) := blk_cell hq11 0
          have k1 : w11.cell? ⟨wr.heap.size, 1, none⟩ = some (.int .u8 (x.fill.toNat : Int)) := blk_cell hq11 1
          have k2 : w11.cell? ⟨wr.heap.size, 2, none⟩ = some (.bool true) := blk_cell hq11 2
          have k3 : w11.cell? ⟨wr.heap.size, 3, none⟩ = some (.bool x.sync) := blk_cell hq11 3
          clear h11 hq11 hr12 h12
          go_wp2_with (at_builtin; refine wpList_append_run rfl (.tmp 113) (.tmp 115) tFIs tFIs rfl _ _ (by simp [Act.eval]) (by simp [Act.eval]) HR12.out ?_)
          go_roundw
          case rel => exact ⟨i + 1, ao4, cap4, HI2.out, HLT.out, rfl, by go_num, HNX⟩
          case measure => exact meas_lt' HLT.out
        · have HQL : Hid ((qs l0 l2 K i).length = K + i) := hid (qs_len (by have := HNL.out; have := HKN.out; omega) (by have := HL2.out; omega))
          have HIE : Hid (0 < len2 → 0 < i) := hid (fun h => by omega)
          have HI0 : Hid (len2 = 0 → i = 0) := hid (fun h => by omega)
          have HI40 : Hid (i ≤ 40) := hid hi40
          have HIL : Hid (i ≤ len2) := hid hi2
          have hbb : ¬ (i : Int) < (len2 : Int) ∨ ((i : Int) < (len2 : Int) ∧ ¬ (i : Int) < 40) := by omega
          clear hlt2
          rcases hbb with hbb | ⟨hbb1, hbb2⟩
          all_goals
            go_wp2_with fail
            refine (b2_holds HB.out (by rw [HQL.out]; have := HI40.out; omega)).mono ?_
            rintro e w8 ⟨rfl, h8⟩
            have H8 := hid h8
            clear h8
            go_wp2_with fail
            refine (b2_sync H8.out).mono ?_
            rintro e w9 ⟨rfl, A', h9, hA'⟩
            have H9 := hid h9
            have HA' := hid hA'
            clear h9 hA' H8
            go_wp2_with fail
            refine (b2_off H9.out).mono ?_
            rintro e w10 ⟨rfl, M, L, O', h10, hf, hS⟩
            have H10 := hid h10
            have HF := hid hf
            have HST := hid hS
            clear h10 hf hS
            go_wp2_with fail
            refine (d2_on H10.out).mono ?_
            rintro e w11 ⟨rfl, h11⟩
            have H11 := hid h11
            clear h11 H10
            go_wp2_with fail
            refine (d2_open H11.out HF.out HST.out (fms_lt _)).mono ?_
            rintro e w12 ⟨j', b', f', n, M', rfl, hp, hF, h12⟩
            have HP := hid hp
            have HFD := hid hF
            have H12 := hid h12
            clear hp hF h12 H11
            by_cases hmore : (0 : Int) < (len2 : Int)
            · obtain ⟨i', hi'⟩ : ∃ i', i = i' + 1 := ⟨i - 1, by have := HIE.out (by omega); omega⟩
              have hil : i' < l2.length := by have := HL2.out; have := HIL.out; omega
              have hq := qs_succ l0 l2 K hil
              have hne : qs l0 l2 K i ≠ [] := by rw [hi', hq]; simp
              have hlc : lastC (fms (qs l0 l2 K i)) = (qs l0 l2 K i).length := by rw [hi', hq]; exact lastC_all _ _ rfl
              have hn : n = (fms (qs l0 l2 K i)).length := by
                have h1 := HFD.out.le
                have h2 := HFD.out.ge
                rw [HA'.out hne, Nat.add_sub_cancel, List.take_of_length_le (by rw [fms_len]; exact Nat.le_refl _), hlc] at h2
                rw [fms_len] at h1 ⊢
                omega
              have htk : (fms (qs l0 l2 K i)).take n = fms (qs l0 l2 K i) := by rw [hn, List.take_length]
              have HP2 : Hid (PL O' d m j' b' f' M' (frs (fms (qs l0 l2 K i))) w12) := hid (by have := HP.out; rw [htk] at this; exact this)
              have HH2 : Hid (Holds (fms (qs l0 l2 K i)) M') := hid (by have := HFD.out.holds; rw [htk] at this; exact this)
              have HRI : Hid (RowIn O' w12 (.slice ao3 (K + i) cap3) (qs l0 l2 K i)) := hid (fun wx hx => Mem.OwnL.row fiV_len (row_kept H12.out.row (toMem' hx) (fun g hg hn => hn (H12.out.own g hg))) (by rw [HQL.out]; have := HI40.out; unfold maxLen; omega))
              clear hil hq hne hlc hn htk hi'
              go_wp2_with fail
              refine (holds_any HP2.out HH2.out (by rw [HQL.out]; have := HI40.out; omega) HRI.out).mono ?_
              rintro e w13 ⟨rfl, hI⟩
              have HEND := hid (stays_below H12.out.old hI.st H12.out.below)
              clear hI
              go_wp2
              go_ret
              exact ⟨rfl, HEND.out⟩
            · have hz : len2 = 0 := by omega
              have hi0 := HI0.out hz
              have hnK : (n : Int) ≤ (K : Int) := by
                have h1 := HFD.out.le
                rw [fms_len, HQL.out] at h1
                omega
              have hln := len_any HP.out
              rw [frs_len, List.length_take, Nat.min_eq_left HFD.out.le] at hln
              have HLN := hid hln
              have hen := end_any HP.out
              obtain ⟨hc', L', hf', -⟩ := HFD.out.holds
              obtain ⟨e1, e2, e3⟩ := end_ok (fs := frs ((fms (qs l0 l2 K i)).take n)) hf' hc'
              unfold Post3 at hen
              rw [e1, e2] at hen
              have HEN := hid hen
              have HE3 := hid e3
              clear hln hen e1 e2 e3 hf' hc'
              go_wp2_with fail
              refine HLN.out.mono ?_
              rintro e w13 ⟨rfl, rfl⟩
              go_wp2_with fail
              refine HEN.out.mono ?_
              rintro e w14 ⟨rfl, f14, h14, hs14⟩
              have H14 := hid h14
              have HEND := hid (stays_below H12.out.old hs14 H12.out.below)
              clear h14 hs14
              go_wp2_with fail
              refine (len_any H14.out).mono ?_
              rintro e w15 ⟨rfl, rfl⟩
              rw [show ([] : List Fr).length = 0 from rfl]
              have hsz := H14.out.size_
              rw [size_l HE3.out] at hsz
              have HSZ := hid hsz
              clear hsz
              go_wp2_with fail
              refine HSZ.out.mono ?_
              rintro e w16 ⟨rfl, rfl⟩
              rw [show Jo.szO none = -1 from rfl]
              go_wp2
              go_ret
              exact ⟨rfl, HEND.out⟩
end Lo
end Go.Proofs.YtgmbiiocjhkpdaaGreat
