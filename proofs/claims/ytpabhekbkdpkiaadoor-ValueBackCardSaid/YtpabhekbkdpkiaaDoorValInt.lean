/-
  Contract of the project's parseInt.
-/
import Derived.Test.YtpabhekbkdpkiaaDoorValShows
import Derived.Test.YtpabhekbkdpkiaaDoorValUnkeyed
import Derived.Lib.AtoiErrMem
namespace Go.Proofs.YtpabhekbkdpkiaaDoor
open Go.RowKit
namespace Va
open Num (hid)
theorem atoi_ok (t : ByteArray) (n : Int) (ht : t.size ≤ 20) (h : Lib.atoiAll (bl t) = .ok n) (w : World) : Calls Tryd.prog 53 #[.string t] w fun e w' => e = .returned (.tuple #[.int .i64 n, .nilIface]) ∧ Below w.heap.size w w' := by
  refine (Any.strconv_Atoi_ok Tryd.atoiL t (by omega) n h w).mono ?_
  rintro e w' ⟨rfl, rfl | ⟨t', rfl⟩⟩
  · exact ⟨rfl, Below.refl _ _⟩
  · exact ⟨rfl, Lib.bytesWorld_below _ _ _⟩
def AtBad (w : World) (e : Ending) (w' : World) : Prop := ∃ (v : Int) (N : Nat), e = .returned (.tuple #[.int .i64 v, .iface 95 (.pointer (some ⟨N, 0, none⟩))]) ∧ Below w.heap.size w w'
theorem atoi_bad (t : ByteArray) (ht : t.size ≤ 20) (h : ∀ n, Lib.atoiAll (bl t) ≠ .ok n) (w : World) (g : Glob w) : Calls Tryd.prog 53 #[.string t] w (AtBad w) := by
  cases hr : Lib.atoiAll (bl t) with
  | ok n => exact absurd hr (h n)
  | range =>
    obtain ⟨t1, p1, h1⟩ := g.rng
    refine (Any.strconv_Atoi_range Tryd.atoiL t (by omega) hr (.iface t1 p1) w h1 (Or.inr ⟨t1, p1, rfl⟩)).mono ?_
    rintro e w' ⟨N, rfl, _, _, hb⟩
    exact ⟨_, N, rfl, hb⟩
  | _ =>
    obtain ⟨t1, p1, h1⟩ := g.syn
    refine (Any.strconv_Atoi_syntax Tryd.atoiL t (by omega) hr (.iface t1 p1) w h1 (Or.inr ⟨t1, p1, rfl⟩)).mono ?_
    rintro e w' ⟨N, rfl, _, _, hb⟩
    exact ⟨_, N, rfl, hb⟩
theorem head_list (s : ByteArray) (k : Nat) : bl (s.extract 0 k) = (bl s).take k := by
  show (s.extract 0 k).data.toList = _
  rw [ByteArray.data_extract]
  simp [bl]
set_option maxRecDepth 100000 in
set_option maxHeartbeats 8000000 in
theorem pint_any (s : ByteArray) (hs : s.size ≤ maxLen) (w : World) (g : Glob w) :
    Calls Tryd.prog 40 #[.string s] w fun e w' => e = .returned (uV (numU (pintL (bl s)))) ∧ Below w.heap.size w w' := by
  replace hs : s.size ≤ 9223372036854775807 := by unfold maxLen at hs; omega
  have Hg := hid g
  obtain ⟨M, hM⟩ : ∃ M, M = min s.size 20 := ⟨_, rfl⟩
  obtain ⟨R, hR⟩ : ∃ R, R = pintL (bl s) := ⟨_, rfl⟩
  have HR0 := hid (show R = pint M (bl s) by rw [hR, hM]; unfold pintL; rw [bl_len])
  rw [← hR]
  have hM1 : M ≤ 20 := by omega
  have hM2 : M ≤ s.size := by omega
  have hmin : min (s.size : Int) 20 = (M : Int) := by omega
  have HMin := hid hmin
  clear hR g
  have X1 := hid (Bx.new 0 0 ⟨#[]⟩ w)
  have B1 := hid ((Below.refl w.heap.size w).alloc (Nat.le_refl _) (.cells #[.int .i64 0, .int .i64 0, .string ⟨#[]⟩] 23))
  obtain ⟨W1, hW1⟩ : ∃ W1, W1 = w.alloc (.cells #[.int .i64 0, .int .i64 0, .string ⟨#[]⟩] 23) := ⟨_, rfl⟩
  rw [← hW1] at X1 B1
  have hz1 : W1.heap.size = w.heap.size + 1 := by rw [hW1]; simp
  have Hz1 := hid hz1
  have HW1 := hid hW1
  clear hz1 hW1 hM
  go_enter Tryd.func40, Tryd.ntmps40
  go_wp2
  go_loopw [5] (fun i wr => ∃ j : Nat, j ≤ M ∧ i = .int .i64 j ∧ Hid (R = pint j (bl s)) ∧ Below W1.heap.size W1 wr) (fun i _ => (intOf i).toNat)
  case atStart =>
    refine ⟨M, Nat.le_refl _, rfl, HR0, ?_⟩
    rw [← HW1.out]
    exact Below.refl _ _
  case round =>
    obtain ⟨j, hj, rfl, HU, hbel⟩ := hrel
    have HB := hid hbel
    have hszr : W1.heap.size ≤ wr.heap.size := hbel.size
    have hszw : w.heap.size < wr.heap.size := by have := Hz1.out; omega
    have XR := hid (X1.out.on hbel)
    have BW := hid (B1.out.trans (hbel.mono B1.out.size))
    have HGr := hid (Hg.out.on BW.out)
    clear hbel
    cases j with
    | zero =>
      have HV := hid (show R = none from HU.out)
      obtain ⟨r0, r1, r2⟩ := XR.out.cells
      obtain ⟨f0, f1, f2⟩ := XR.out.free
      go_wp2
      rw [HV.out]
      exact bodyPost_ret (v := uV noneU) (by simp [results, uV, noneU, bs, go_sem, r0, r1, r2]) rfl ⟨rfl, by
        repeat (first | exact BW.out | refine Below.setCell ?_ (by simp) _)⟩
    | succ p =>
      have hU := HU.out
      have hpint : pint (p + 1) (bl s) = (match intAt ((bl s).take (p + 1)) with | some n => some (n, p + 1) | none => pint p (bl s)) := rfl
      rw [hpint] at hU
      have hps : p + 1 ≤ s.size := by omega
      have hps' : ((p : Int) + 1) ≤ (s.size : Int) := by omega
      have hsz : (s.extract 0 (p + 1)).size ≤ 20 := by rw [ByteArray.size_extract]; omega
      have hbl := head_list s (p + 1)
      obtain ⟨T, hT⟩ : ∃ T, T = s.extract 0 (p + 1) := ⟨_, rfl⟩
      rw [← hT] at hsz hbl
      rw [← hbl] at hU
      have HT := hid hT
      clear hT hpint hbl
      cases hat : Lib.atoiAll (bl T) with
      | ok n =>
        have HI := hid (Lib.atoiAll_bounds hat : InI n)
        have Hat := hid (atoi_ok T n hsz hat)
        by_cases hi : Lib.itoa n = bl T
        · have hia : intAt (bl T) = some n := by unfold intAt; rw [hat]; simp only; rw [if_pos hi]
          rw [hia] at hU
          have HV := hid (show R = some (n, p + 1) from hU)
          have hq : ((bs (Lib.itoa n)).toList == T.toList) = true := by
            rw [beq_iff_eq, ByteArray.toList_eq, ByteArray.toList_eq]
            exact hi
          clear hU hia hi hat hsz
          rw [HT.out] at hq Hat
          go_wp2_with fail
          refine (Hat.out _).mono ?_
          rintro e w3 ⟨rfl, hb3⟩
          have HG3 := hid (HGr.out.on hb3)
          have BW3 := hid (BW.out.trans (hb3.mono BW.out.size))
          have XR3 := hid (XR.out.on hb3)
          clear hb3
          go_wp2_with fail
          refine wp_quiet_in (fun wx => Below w3.heap.size w3 wx) (by kernel_rfl) (by kernel_rfl) (Below.refl _ _).drew ?_
          go_big_quiet_want
          go_big_quiet_op
          go_big_quiet_on
          go_big_quiet_want
          go_big_quiet_op
          apply Exists.intro
          refine ⟨fun _ _ => ?_, ?_⟩
          · with_reducible exact Eq.refl _
          go_big_quiet_on
          go_big_quiet_want
          go_big_quiet_op
          go_big_quiet_on
          go_big_quiet_want
          go_big_quiet_op
          go_big_quiet_on
          go_big_quiet_want
          go_big_quiet_op
          refine ⟨.string (bs (Lib.itoa n)), fun wx hx => ?_, ?_⟩
          · refine (itoa_any n HI.out _ ((HG3.out.on hx))).mono ?_
            rintro e w3 ⟨rfl, hb3⟩
            exact ⟨rfl, hx.trans (hb3.mono hx.size)⟩
          go_big_quiet_on
          go_big_quiet_want
          go_big_quiet_op
          go_big_quiet_on
          go_big_quiet_want
          go_big_quiet_op
          go_big_quiet_on
          go_big_quiet_want
          go_big_quiet_op
          apply Exists.intro
          refine ⟨fun _ _ => ?_, ?_⟩
          · with_reducible exact Eq.refl _
          go_big_quiet_on
          go_big_quiet_want
          go_big_quiet_op
          apply Exists.intro
          refine ⟨fun _ _ => ?_, ?_⟩
          · with_reducible exact Eq.refl _
          go_big_quiet_on
          go_big_quiet_want
          go_big_quiet_op
          apply Exists.intro
          refine ⟨fun _ _ => ?_, ?_⟩
          · with_reducible exact Eq.refl _
          go_big_quiet_on
          refine wpQuiet_nil ?_
          intro w5 hb5
          obtain ⟨r0, r1, r2⟩ := (XR3.out.on hb5).cells
          obtain ⟨f0, f1, f2⟩ := (XR3.out.on hb5).free
          have hszw5 := lt_of_block (XR3.out.on hb5)
          have BW := hid (BW3.out.trans (hb5.mono BW3.out.size))
          clear hb5
          go_wp2
          rw [HV.out]
          exact bodyPost_ret (v := uV (numU (some (n, p + 1)))) (by simp [results, uV, numU, bs, go_sem, r0, r1, r2]) rfl ⟨rfl, by
            repeat (first | exact BW.out | refine Below.setCell ?_ (by simp) _)⟩
        · have hia : intAt (bl T) = none := by unfold intAt; rw [hat]; simp only; rw [if_neg hi]
          rw [hia] at hU
          have HV := hid (show R = pint p (bl s) from hU)
          have hq : ((bs (Lib.itoa n)).toList == T.toList) = false := by
            rw [beq_eq_false_iff_ne, ByteArray.toList_eq, ByteArray.toList_eq]
            exact hi
          clear hU hia hi hat hsz
          rw [HT.out] at hq Hat
          go_wp2_with fail
          refine (Hat.out _).mono ?_
          rintro e w3 ⟨rfl, hb3⟩
          have HG3 := hid (HGr.out.on hb3)
          have HB3 := hid (HB.out.trans (hb3.mono hszr))
          clear hb3
          go_wp2_with fail
          refine wp_quiet_in (fun wx => Below w3.heap.size w3 wx) (by kernel_rfl) (by kernel_rfl) (Below.refl _ _).drew ?_
          go_big_quiet_want
          go_big_quiet_op
          go_big_quiet_on
          go_big_quiet_want
          go_big_quiet_op
          apply Exists.intro
          refine ⟨fun _ _ => ?_, ?_⟩
          · with_reducible exact Eq.refl _
          go_big_quiet_on
          go_big_quiet_want
          go_big_quiet_op
          go_big_quiet_on
          go_big_quiet_want
          go_big_quiet_op
          go_big_quiet_on
          go_big_quiet_want
          go_big_quiet_op
          refine ⟨.string (bs (Lib.itoa n)), fun wx hx => ?_, ?_⟩
          · refine (itoa_any n HI.out _ ((HG3.out.on hx))).mono ?_
            rintro e w3 ⟨rfl, hb3⟩
            exact ⟨rfl, hx.trans (hb3.mono hx.size)⟩
          go_big_quiet_on
          go_big_quiet_want
          go_big_quiet_op
          go_big_quiet_on
          go_big_quiet_want
          go_big_quiet_op
          go_big_quiet_on
          go_big_quiet_want
          go_big_quiet_op
          apply Exists.intro
          refine ⟨fun _ _ => ?_, ?_⟩
          · with_reducible exact Eq.refl _
          go_big_quiet_on
          go_big_quiet_want
          go_big_quiet_op
          apply Exists.intro
          refine ⟨fun _ _ => ?_, ?_⟩
          · with_reducible exact Eq.refl _
          go_big_quiet_on
          go_big_quiet_want
          go_big_quiet_op
          apply Exists.intro
          refine ⟨fun _ _ => ?_, ?_⟩
          · with_reducible exact Eq.refl _
          go_big_quiet_on
          refine wpQuiet_nil ?_
          intro w5 hb5
          have HB5 := hid (HB3.out.trans (hb5.mono HB3.out.size))
          clear hb5
          go_wp2
          go_roundw
          case rel => exact ⟨p, by omega, by go_num, HV, HB5.out⟩
          case measure => simp [intOf]
      | range =>
        have hia : intAt (bl T) = none := by unfold intAt; rw [hat]
        rw [hia] at hU
        have HV := hid (show R = pint p (bl s) from hU)
        have Hat := hid (fun w g => atoi_bad T hsz (fun n h => by rw [hat] at h; cases h) w g)
        clear hU hia hat hsz
        rw [HT.out] at Hat
        go_wp2_with fail
        refine (Hat.out _ HGr.out).mono ?_
        rintro e w3 ⟨v, N, rfl, hb3⟩
        have HB3 := hid (HB.out.trans (hb3.mono hszr))
        clear hb3
        go_wp2_with fail
        refine wp_quiet_in (fun wx => Below w3.heap.size w3 wx) (by kernel_rfl) (by kernel_rfl) (Below.refl _ _).drew ?_
        go_big_quiet_want
        go_big_quiet_op
        go_big_quiet_on
        go_big_quiet_want
        go_big_quiet_op
        apply Exists.intro
        refine ⟨fun _ _ => ?_, ?_⟩
        · with_reducible exact Eq.refl _
        go_big_quiet_on
        go_big_quiet_want
        go_big_quiet_op
        go_big_quiet_on
        go_big_quiet_skip
        go_big_quiet_skip
        go_big_quiet_skip
        go_big_quiet_skip
        go_big_quiet_skip
        go_big_quiet_skip
        go_big_quiet_want
        go_big_quiet_op
        apply Exists.intro
        refine ⟨fun _ _ => ?_, ?_⟩
        · with_reducible exact Eq.refl _
        go_big_quiet_on
        refine wpQuiet_nil ?_
        intro w5 hb5
        have HB5 := hid (HB3.out.trans (hb5.mono HB3.out.size))
        clear hb5
        go_wp2
        go_roundw
        case rel => exact ⟨p, by omega, by go_num, HV, HB5.out⟩
        case measure => simp [intOf]
      | _ =>
        have hia : intAt (bl T) = none := by unfold intAt; rw [hat]
        rw [hia] at hU
        have HV := hid (show R = pint p (bl s) from hU)
        have Hat := hid (fun w g => atoi_bad T hsz (fun n h => by rw [hat] at h; cases h) w g)
        clear hU hia hat hsz
        rw [HT.out] at Hat
        go_wp2_with fail
        refine (Hat.out _ HGr.out).mono ?_
        rintro e w3 ⟨v, N, rfl, hb3⟩
        have HB3 := hid (HB.out.trans (hb3.mono hszr))
        clear hb3
        go_wp2_with fail
        refine wp_quiet_in (fun wx => Below w3.heap.size w3 wx) (by kernel_rfl) (by kernel_rfl) (Below.refl _ _).drew ?_
        go_big_quiet_want
        go_big_quiet_op
        go_big_quiet_on
        go_big_quiet_want
        go_big_quiet_op
        apply Exists.intro
        refine ⟨fun _ _ => ?_, ?_⟩
        · with_reducible exact Eq.refl _
        go_big_quiet_on
        go_big_quiet_want
        go_big_quiet_op
        go_big_quiet_on
        go_big_quiet_skip
        go_big_quiet_skip
        go_big_quiet_skip
        go_big_quiet_skip
        go_big_quiet_skip
        go_big_quiet_skip
        go_big_quiet_want
        go_big_quiet_op
        apply Exists.intro
        refine ⟨fun _ _ => ?_, ?_⟩
        · with_reducible exact Eq.refl _
        go_big_quiet_on
        refine wpQuiet_nil ?_
        intro w5 hb5
        have HB5 := hid (HB3.out.trans (hb5.mono HB3.out.size))
        clear hb5
        go_wp2
        go_roundw
        case rel => exact ⟨p, by omega, by go_num, HV, HB5.out⟩
        case measure => simp [intOf]
end Va
end Go.Proofs.YtpabhekbkdpkiaaDoor
