/-
  The walk of LogExact: both logs, call by call.
-/
import Derived.Test.YtgmbiiocjhkpdaaGreatGrpLgH
namespace Go.Proofs.YtgmbiiocjhkpdaaGreat
open Go.RowKit Go.Shelf
namespace Lt
open Lo
open Num (hid)
open Disk (Mod Fil Sees Stays)
open Mem (Bs bs LAt tI ptr blk_cell blk_free blk_new blk_set blk_other blk_alloc row_kept row_shape row_type)
set_option maxRecDepth 100000 in
set_option maxHeartbeats 8000000 in
theorem exact_walk (v0 : Value) (l0 : List AcC) (w : World) (hL : LAt 5 acV w v0 l0) (hA : ∀ x ∈ l0, AcOk w.heap.size w x) :
    Calls Tryz.prog 3 #[v0] w fun e w' => e = .returned (.bool true) ∧ Below w.heap.size w w' := by
  obtain ⟨ao, cap, rfl, hlm, hlc, -⟩ := hL.ways
  have HL := hid hL
  have HA := hid hA
  obtain ⟨nl, hnl⟩ : ∃ x, l0.length = x := ⟨_, rfl⟩
  rw [hnl] at HL hlm hlc ⊢
  have HNL := hid hnl
  clear hL hA hnl
  go_enter Tryz.func3, Tryz.ntmps3
  go_wp2_with fail
  refine (awake_any w).mono ?_
  rintro e w1 ⟨rfl, hb1⟩
  have HB1 := hid hb1
  clear hb1
  go_wp2_with fail
  refine (new_sees 200 w1).mono ?_
  rintro e w6 ⟨d, m, rfl, h6, hb6⟩
  have H6 := hid h6
  have HB6 := hid hb6
  clear h6 hb6
  go_wp2_with fail
  refine (Ref.rnew_any 200 w6).mono ?_
  rintro e w7 ⟨rfl, h7, hb7⟩
  have H7 := hid (two_new HB1.out H6.out HB6.out h7 hb7 (Ref.Sees.good H6.out))
  clear h7 hb7 H6 HB6
  obtain ⟨r, hr⟩ : ∃ x, w6.heap.size = x := ⟨_, rfl⟩
  rw [hr] at H7 ⊢
  clear hr
  have HOP := hid (two_open H7.out open_new.1)
  have HRO : Hid (∀ j M fs w', Half w d m r j M (Mod.new 200) fs w' → _) := hid (fun j M fs w' (h : Half w d m r j M (Mod.new 200) fs w') => half_ropen h open_new.2)
  go_wp2_with fail
  refine HOP.out.mono ?_
  rintro e w10 ⟨j, rfl, h10⟩
  have H10 := hid h10
  clear h10 HOP H7
  go_wp2_with fail
  refine (HRO.out _ _ _ _ H10.out).mono ?_
  rintro e w11 ⟨c, rfl, h11⟩
  have H11 := hid (ei_first h11)
  clear h11 HRO H10 HB1
  generalize Mod.new 200 = M0 at *
  go_wp2_with fail
  go_loopw [5, 7, 9, 10] (fun lv cv ov iv wr => ∃ (k : Nat) (jj cc : Nat) (o : Bool), k ≤ nl ∧ k ≤ 80 ∧ lv = ptr jj ∧ cv = ptr cc ∧ ov = .bool o ∧ iv = .int .i64 k ∧ Hid (∃ M fs l, EI w d m r jj cc k o M fs l wr)) (fun _ _ _ iv _ => nl - (intOf iv).toNat)
  case atStart => exact ⟨0, j, c, false, Nat.zero_le _, by omega, rfl, rfl, rfl, rfl, hid ⟨_, _, _, H11.out⟩⟩
  case round =>
    obtain ⟨k, jj, cc, o, hk, hk2, rfl, rfl, rfl, rfl, HE⟩ := hrel
    clear H11
    by_cases hgo : k < nl ∧ k < 80
    · obtain ⟨hlt, h80⟩ := hgo
      have HLT : Hid (k < nl ∧ k < 80) := hid ⟨hlt, h80⟩
      have hki : (k : Int) < (nl : Int) := by omega
      have hk80 : (k : Int) < 80 := by omega
      have hkc : (k : Int) < (cap : Int) := by omega
      have i1 : k < l0.length := by have := HNL.out; omega
      obtain ⟨ao', cap', hv', -, -, hq⟩ := HL.out.ways
      rw [HNL.out] at hv'
      cases hv'
      obtain ⟨b, o1, rfl, hbN, hq⟩ := hq k i1
      obtain ⟨M, fs, l, hE⟩ := HE.out
      have hx := (HA.out _ (List.getElem_mem i1)).kept hE.below
      have q : ∀ i, i < 5 → wr.cell? ⟨b, o1 + k * 5 + i, none⟩ = (acV l0[k])[i]? := fun i hi => (hE.below.cell (p := ⟨b, o1 + k * 5 + i, none⟩) hbN).trans (hq i hi)
      obtain ⟨x, hxe⟩ : ∃ x, x = l0[k] := ⟨_, rfl⟩
      rw [← hxe] at q hx
      obtain ⟨fao, fn, fcap, hfv⟩ := hx.one
      obtain ⟨xk, xn, xf, xc, xfv, xq⟩ := x
      simp only at hfv
      subst hfv
      have q0 : wr.cell? ⟨b, o1 + k * 5, none⟩ = some (.int .i64 xk) := q 0 (by omega)
      have q1 : wr.cell? ⟨b, o1 + k * 5 + 1, none⟩ = some (.int .i64 xn) := q 1 (by omega)
      have q2 : wr.cell? ⟨b, o1 + k * 5 + 2, none⟩ = some (.int .u8 (xf.toNat : Int)) := q 2 (by omega)
      have q3 : wr.cell? ⟨b, o1 + k * 5 + 3, none⟩ = some (.bool xc) := q 3 (by omega)
      have q4 : wr.cell? ⟨b, o1 + k * 5 + 4, none⟩ = some (.slice fao fn fcap) := q 4 (by omega)
      have HX := hid hx
      have HEI := hid hE
      have hxm : (⟨xk, xn, xf, xc, .slice fao fn fcap, xq⟩ : AcC) ∈ l0 := hxe ▸ List.getElem_mem i1
      clear q hq hxe hx hE HE
      clear i1
      go_upto_region 15 with fail
      rename_i K hK
      have HK := hid hK
      clear hK
      go_wp2_with fail
      refine HK.out _ _ ?_
      have hq := blk_new wr (.cells #[.int .i64 xk, .int .i64 xn, .int .u8 (xf.toNat : Int), .bool xc, .slice fao fn fcap] tAc)
      have hb2 : Below wr.heap.size wr (wr.alloc (.cells #[.int .i64 xk, .int .i64 xn, .int .u8 (xf.toNat : Int), .bool xc, .slice fao fn fcap] tAc)) := (Below.refl _ _).alloc (Nat.le_refl _) _
      obtain ⟨w2, hw2⟩ : ∃ y, wr.alloc (.cells #[.int .i64 xk, .int .i64 xn, .int .u8 (xf.toNat : Int), .bool xc, .slice fao fn fcap] tAc) = y := ⟨_, rfl⟩
      rw [hw2] at hq hb2 ⊢
      have HB2 := hid hb2
      have HQ := hid hq
      have HA0 := hid (HA.out _ hxm)
      clear hw2 hb2 hq q0 q1 q2 q3 q4 hxm
      refine round_any _ (by rfl) _ HEI HLT HB2 HQ HX HA0 ⟨?_⟩ ⟨?_⟩
      · intros
        rename_i jj' cc' wx o' HI
        clear HEI HB2 HQ HX HA0
        go_wp2_with fail
        go_roundw
        case rel => exact ⟨k + 1, jj', cc', o', HLT.out.1, HLT.out.2, rfl, rfl, rfl, by go_num, HI⟩
        case measure => exact meas_lt' HLT.out.1
      · intros
        rename_i wx HI
        clear HEI HB2 HQ HX HA0
        go_wp2_with fail
        go_roundw
        case rel => exact ⟨k + 1, jj, cc, true, HLT.out.1, HLT.out.2, rfl, rfl, rfl, by go_num, HI⟩
        case measure => exact meas_lt' HLT.out.1
    · have hno : ¬ ((k : Int) < (nl : Int)) ∨ ((k : Int) < (nl : Int) ∧ ¬ ((k : Int) < 80)) := by omega
      clear hgo
      obtain ⟨M, fs, l, hE⟩ := HE.out
      have H2 := hid hE.two
      have HBW := hid hE.below
      have HBY := hid (two_bytes hE.two)
      have HRB := hid (fun wx (hb : Below wr.heap.size wr wx) => two_rbytes (hE.two.on hb))
      have HSZ := hid (fun wx (hb : Below wr.heap.size wr wx) => two_size (hE.two.on hb))
      have HRS := hid (fun wx (hb : Below wr.heap.size wr wx) => two_rsize (hE.two.on hb))
      clear hE HE
      generalize M.size ln = sz at *
      generalize (⟨(M.bytes ln).toArray⟩ : ByteArray) = B at *
      obtain ⟨w5, hw5⟩ : ∃ x, x = wr := ⟨_, rfl⟩
      subst hw5
      go_upto_region 11 with fail
      go_cut [51] (fun cv wx => cv = .bool false ∧ wx = w5)
      case first =>
        rcases hno with hno | ⟨hno1, hno2⟩
        all_goals
          go_wp2_with fail
          go_meet
          exact ⟨rfl, rfl⟩
      case rest =>
      obtain ⟨rfl, rfl⟩ := hcut
      clear hno
      have b1 : (B.toList == B.toList) = true := by simp
      have b2 : (sz == sz) = true := by simp
      go_wp2_with fail
      refine HBY.out.mono ?_
      rintro e w12 ⟨rfl, hb12⟩
      have HB12 := hid hb12
      clear hb12
      go_wp2_with fail
      refine (HRB.out _ HB12.out).mono ?_
      rintro e w13 ⟨rfl, hb13⟩
      have HB13 := hid (HB12.out.trans (hb13.mono HB12.out.size))
      clear hb13
      go_wp2_with fail
      refine (HSZ.out _ HB13.out).mono ?_
      rintro e w14 ⟨rfl, rfl⟩
      go_wp2_with fail
      refine (HRS.out _ HB13.out).mono ?_
      rintro e w15 ⟨rfl, rfl⟩
      go_wp2
      go_ret
      exact ⟨rfl, HBW.out.trans (HB13.out.mono HBW.out.size)⟩
end Lt
end Go.Proofs.YtgmbiiocjhkpdaaGreat
