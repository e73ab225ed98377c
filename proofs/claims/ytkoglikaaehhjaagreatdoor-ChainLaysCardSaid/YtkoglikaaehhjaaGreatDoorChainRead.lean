/-
  Contract of read: what a cell stands for, and the pages of its chain, or why not.
-/
import Derived.Test.YtkoglikaaehhjaaGreatDoorShelfArm
import Derived.Test.YtkoglikaaehhjaaGreatDoorChainPage
import Derived.Test.YtkoglikaaehhjaaGreatDoorChainGood
import Derived.Test.YtkoglikaaehhjaaGreatDoorChainBld
import Derived.Test.YtkoglikaaehhjaaGreatDoorNodeGst
namespace Go.Proofs.YtkoglikaaehhjaaGreatDoor
open Go.RowKit
namespace Ch
open Num (hid)
open Mem (Bs bs ptr Chg tI tIs wpList_append_run)
open Sp (Hd FB tBld tU8)
open Sh (ShL St spend Two Own)
open No (okC)
/-- What read leaves. -/
def ReadPost (s d N cnt : Nat) (lim : Int) (h : Hd) (arm : Int) (S : St) (w0 w : World) (c : No.C) (e : Ending) (w' : World) : Prop :=
  ∃ (val : Bs) (pg : List Int) (er : Int) (v : Value) (arm' : Int), e = .returned (.tuple #[.string (bs val), v, .int .i64 er]) ∧ ShL s d N cnt lim h arm' S w0 w' ∧ Chg (Two s d) w w' ∧ Own s d N tI w' v pg.length (ints pg) ∧ (∀ g, v.ownBlock = some g → w.heap.size ≤ g) ∧ (arm < 1 → arm' = arm) ∧ arm' ≤ 1000 ∧ (((val, pg), er) = valM S.f c ∨ (1 ≤ arm ∧ val = [] ∧ pg = [] ∧ er = 11 ∧ okC c = true ∧ 40 < c.z))
/-- How many elements a slice has. -/
def lenOf : Value → Nat
  | .slice _ n _ => n
  | _ => 0
theorem own_nil (s d N : Nat) (w : World) : Own s d N tI w (.slice none 0 0) ([] : List Int).length (ints []) := ⟨World.ownsRow_nil w 0 tI 1, fun g hg => by simp [Value.ownBlock] at hg⟩
theorem nil_new {B : Nat} : ∀ g, (Value.slice none 0 0).ownBlock = some g → B ≤ g := fun g hg => by simp [Value.ownBlock] at hg
variable {s d N cnt : Nat} {lim : Int} {h : Hd} {arm : Int} {S : St} {w0 w : World} {c : No.C}
theorem Rd.start (k : ShL s d N cnt lim h arm S w0 w) (hN : N ≤ w.heap.size) (c : No.C) {w1 : World} (hb : Below (w.heap.size + 1) (w.alloc (cO c)) w1) :
    Rd s d N cnt lim h arm S w0 w.heap.size w1.heap.size w.heap.size c (.slice none 0 0) [] [] (w1.alloc (.cells #[.pointer none, .slice none 0 0] tBld)) := by
  have e1 : (w.alloc (cO c)).heap.size = w.heap.size + 1 := by simp
  have hb' : Below (w.alloc (cO c)).heap.size (w.alloc (cO c)) w1 := by rw [e1]; exact hb
  have hs := hb.size
  rw [e1] at hs
  have k1 := (k.kept ((Below.refl w.heap.size w).alloc (Nat.le_refl _) (cO c))).kept hb'
  have k2 := k1.kept ((Below.refl w1.heap.size w1).alloc (Nat.le_refl _) (.cells #[.pointer none, .slice none 0 0] tBld))
  have l1 := k.at'.lt
  refine ⟨k2, own_nil s d N _, nil_new, FB.fresh w1, ?_, ⟨by omega, by omega, by omega, by omega, by omega⟩, Nat.le_refl _, hN, l1.1, l1.2⟩
  exact Mem.blk_alloc ((hb'.block _ (by rw [e1]; omega)).trans (Mem.blk_new w (cO c))) _
set_option maxRecDepth 100000 in
set_option maxHeartbeats 8000000 in
theorem read_any (k : ShL s d N cnt lim h arm S w0 w) (ham : arm ≤ 1000) (c : No.C) :
    Calls Tryz.prog 28 #[pV s, cV c] w (ReadPost s d N cnt lim h arm S w0 w c) := by
  have K := hid k
  have hN : Hid (N ≤ w.heap.size) := hid k.size
  have hA1 : Below w.heap.size w (w.alloc (cO c)) := (Below.refl w.heap.size w).alloc (Nat.le_refl _) _
  have HA1 := hid hA1
  have hbx := Mem.blk_new w (cO c)
  have HG := hid (fun w => isgood_any c w)
  have c0 := Mem.blk_cell hbx 0
  have c1 := Mem.blk_cell hbx 1
  have c2 := Mem.blk_cell hbx 2
  have HBX := hid hbx
  have e1 : Hid ((w.alloc (cO c)).heap.size = w.heap.size + 1) := hid (by simp)
  have HAM := hid ham
  clear k hA1 hbx ham
  cases hok : okC c with
  | false =>
    rw [hok] at HG
    have HV : Hid (valM S.f c = (([], []), 1)) := hid (if_neg (by rw [hok]; decide))
    clear hok
    go_enter Tryz.func28, Tryz.ntmps28
    go_wp2_with fail
    refine (HG.out _).mono ?_
    rintro e w1 ⟨rfl, hb⟩
    have B1 := hid (HA1.out.trans (hb.mono HA1.out.size))
    clear hb
    go_wp2
    go_ret3
    exact ⟨[], [], 1, _, arm, rfl, K.out.kept B1.out, Chg.of_below B1.out, own_nil s d N _, nil_new, fun _ => rfl, HAM.out, Or.inl HV.out.symm⟩
  | true =>
    rw [hok] at HG
    have HOK := hid hok
    have HI := hid (fun w => inline_any c.z w)
    by_cases hz : c.z ≤ 40
    · have HV : Hid (valM S.f c = ((c.d, []), 0)) := hid (by unfold valM; rw [if_pos hok, if_pos hz])
      rw [decide_eq_true hz] at HI
      have hdl : (bs c.d).size ≤ 281474976710656 := by
        rw [Sp.bs_size]
        rcases (No.okC_ways hok).2.2 with ⟨_, h2, _⟩ | ⟨_, h2, _⟩
        · omega
        · rw [h2]; simp
      have HC := hid (fun w => No.clone_any (bs c.d) w hdl)
      clear hok hz hdl
      go_enter Tryz.func28, Tryz.ntmps28
      go_wp2_with fail
      refine (HG.out _).mono ?_
      rintro e w1 ⟨rfl, hb⟩
      have B1 := hid (HA1.out.trans (hb.mono HA1.out.size))
      have hbx1 := (hb.block _ (lt_of_block HBX.out)).trans HBX.out
      clear hb c0 c1 c2
      have c0 := Mem.blk_cell hbx1 0
      have c1 := Mem.blk_cell hbx1 1
      have c2 := Mem.blk_cell hbx1 2
      clear hbx1
      go_wp2_with fail
      refine (HI.out _).mono ?_
      rintro e w2 ⟨rfl, rfl⟩
      go_wp2_with fail
      refine (HC.out _).mono ?_
      rintro e w2 ⟨rfl, hb⟩
      have B2 := hid (B1.out.trans (hb.mono B1.out.size))
      clear hb c0 c1 c2
      go_wp2
      go_ret3
      exact ⟨c.d, [], 0, _, arm, rfl, K.out.kept B2.out, Chg.of_below B2.out, own_nil s d N _, nil_new, fun _ => rfl, HAM.out, Or.inl HV.out.symm⟩
    · have HV : Hid (valM S.f c = rdM S.f 23 c.p c.z.toNat [] []) := hid (by unfold valM; rw [if_pos hok, if_neg hz])
      rw [decide_eq_false hz] at HI
      have hw := No.okC_ways hok
      have hp : Hid (1 ≤ c.p ∧ c.p < 4096 ∧ 40 < c.z ∧ c.z ≤ 5000) := hid (by
        rcases hw.2.2 with ⟨h1, _⟩ | ⟨h1, h2, h3, h4⟩
        · omega
        · exact ⟨h3, h4, h1, hw.2.1⟩)
      obtain ⟨z, hzn⟩ : ∃ z : Nat, c.z = (z : Int) := ⟨c.z.toNat, by omega⟩
      have HZN := hid hzn
      rw [hzn, Int.toNat_natCast] at HV
      clear hok hz hw hzn
      go_enter Tryz.func28, Tryz.ntmps28
      go_wp2_with fail
      refine (HG.out _).mono ?_
      rintro e w1 ⟨rfl, hb⟩
      have RS := hid (Rd.start K.out hN.out c (w1 := w1) (by rw [← e1.out]; exact hb))
      have CS : Hid (Chg (Two s d) w (w1.alloc (.cells #[.pointer none, .slice none 0 0] tBld))) := hid ((Chg.of_below (HA1.out.trans (hb.mono HA1.out.size))).alloc _)
      have hbx1 := (hb.block _ (lt_of_block HBX.out)).trans HBX.out
      clear hb c0 c1 c2
      have c0 := Mem.blk_cell hbx1 0
      have c1 := Mem.blk_cell hbx1 1
      have c2 := Mem.blk_cell hbx1 2
      clear hbx1
      go_wp2_with fail
      refine (HI.out _).mono ?_
      rintro e w2 ⟨rfl, rfl⟩
      clear c0 c1 c2
      obtain ⟨c0, c1, c2⟩ := RS.out.cells
      go_upto_region 7 with fail
      generalize w1.alloc (.cells #[.pointer none, .slice none 0 0] tBld) = w2 at *
      generalize w1.heap.size = b at *
      clear c0 c1 HG HI HA1 HBX e1
      have hp1 := hp.out
      go_wp2_with fail
      go_loopw [8, 9] (fun pv nv wr => ∃ (m : Nat) (n : Int) (acc : Bs) (pg : List Int) (arm1 : Int), nv = .int .i64 n ∧ m ≤ 23 ∧ 0 ≤ n ∧ n < 4294967296 ∧ Hid (acc.length ≤ z ∧ z - acc.length ≤ 227 * m ∧ pg.length + m = 23) ∧ Hid (rdM S.f m n (z - acc.length) acc pg = rdM S.f 23 c.p z [] []) ∧ Hid (Rd s d N cnt lim h arm1 S w0 w.heap.size b w.heap.size c pv pg acc wr) ∧ Hid (Chg (Two s d) w wr) ∧ Hid ((arm < 1 → arm1 = arm) ∧ arm1 ≤ 1000)) (fun pv _ _ => 5000 - lenOf pv)
      case atStart => exact ⟨23, c.p, [], [], arm, rfl, Nat.le_refl _, by omega, by omega, hid (by have := HZN.out; exact ⟨Nat.zero_le _, by simp; omega, by simp⟩), hid rfl, RS, CS, hid ⟨fun _ => rfl, HAM.out⟩⟩
      case round =>
        obtain ⟨m, n, acc, pg, arm1, rfl, hm, hn0, hn1, HB, HRD, R1, C1, HA⟩ := hrel
        obtain ⟨ao, cap, rfl, -⟩ := Mem.row_shape R1.out.own.row
        by_cases hlt : acc.length < z
        · have hlz : (acc.length : Int) < c.z := by have := HZN.out; omega
          go_upto_region 8 with fail
          refine No.wp_quiet_in (fun wx => Below wr.heap.size wr wx) (by kernel_rfl) (by kernel_rfl) (Below.refl _ wr).drew ?_
          go_big_quiet_want
          go_big_quiet_op
          refine ⟨.int .i64 (acc.length : Int), fun wx hx => ?_, ?_⟩
          · refine (flen_any _ acc wx (R1.out.on hx).fb).mono ?_
            rintro e w9 ⟨rfl, rfl⟩
            exact ⟨rfl, hx⟩
          go_big_quiet_on
          go_big_quiet_want
          go_big_quiet_op
          refine ⟨.pointer (some ⟨w.heap.size, 0, none⟩), fun wx hx => ?_, ?_⟩
          · first | rfl | simp [go_sem]
          go_big_quiet_on
          go_big_quiet_want
          go_big_quiet_op
          refine ⟨.int .i64 c.z, fun wx hx => ?_, ?_⟩
          · have c0 := (R1.out.on hx).cells.1
            simp [go_sem, c0]
          go_big_quiet_on
          go_big_quiet_want
          go_big_quiet_op
          refine ⟨.bool true, fun wx hx => ?_, ?_⟩
          · simp [go_sem]
          go_big_quiet_on
          refine wpQuiet_nil ?_
          intro wq hq
          have R2 := hid (R1.out.on hq)
          have C2 := hid (C1.out.trans (Chg.of_below hq))
          clear hq
          by_cases ha1 : arm1 = 1
          · subst ha1
            have HI := hid (Sh.get_io R2.out.sh.at'.blk n)
            have hpos : Hid (1 ≤ arm) := hid (by have := HA.out.1; omega)
            go_wp2_with fail
            refine HI.out.mono ?_
            rintro e w3 ⟨rfl, rfl⟩
            go_wp2
            go_ret3
            exact ⟨[], [], 11, _, 1, rfl, R2.out.sh, C2.out, own_nil s d N _, nil_new, by have := hpos.out; omega, by decide, Or.inr ⟨hpos.out, rfl, rfl, rfl, HOK.out, by have := hp.out; omega⟩⟩
          · have hcalm : Hid (Sh.Calm arm1) := hid ⟨ha1, HA.out.2⟩
            have HI := hid (R2.out.sh.getA hcalm.out (n := n) (Sh.wf_of (by omega) (by omega)))
            have HA2 : Hid ((arm < 1 → spend arm1 = arm) ∧ spend arm1 ≤ 1000) := hid ⟨fun h0 => by have h1 := HA.out.1 h0; rw [h1, Sh.spend_low h0], Sh.calm_spend hcalm.out⟩
            obtain ⟨m', rfl⟩ : ∃ m', m = m' + 1 := ⟨m - 1, by have := HB.out; omega⟩
            have hz0 : z - acc.length ≠ 0 := by omega
            cases hf : S.f n with
            | none =>
              rw [Sh.get_no hf] at HI
              have HV2 : Hid (valM S.f c = (([], []), 21)) := hid (by rw [HV.out, ← HRD.out]; exact rd_no hz0 hf)
              clear hf hz0 ha1
              go_wp2_with fail
              refine HI.out.mono ?_
              rintro e w3 ⟨rfl, hk3, hc3⟩
              have K3 := hid hk3
              have C3 := hid (C2.out.trans hc3)
              clear hk3 hc3
              go_wp2
              go_ret3
              exact ⟨[], [], 21, _, _, rfl, K3.out, C3.out, own_nil s d N _, nil_new, HA2.out.1, HA2.out.2, Or.inl HV2.out.symm⟩
            | some x =>
              rw [Sh.get_yes hf] at HI
              have HPO := hid (fun w => partof_any x (z - acc.length) (by omega) (by have := hp.out; have := HZN.out; omega) w)
              have hsub : IntKind.i64.wrap (c.z - (acc.length : Int)) = ((z - acc.length : Nat) : Int) := by rw [IntKind.wrap_i64]; have := hp.out; have := HZN.out; omega
              cases hpm : partM x (z - acc.length) with
              | none =>
                rw [hpm] at HPO
                have HV2 : Hid (valM S.f c = (([], []), 30)) := hid (by rw [HV.out, ← HRD.out]; exact rd_bad hz0 hf hpm)
                clear hf hz0 ha1 hpm
                go_wp2_with fail
                refine HI.out.mono ?_
                rintro e w3 ⟨rfl, hk3, hc3⟩
                have R3 := hid (R2.out.asked hk3 hc3)
                have C3 := hid (C2.out.trans hc3)
                clear hk3 hc3
                unfold partV at HPO
                simp only at HPO
                go_upto_region 12 with fail
                refine No.wp_quiet_in (fun wx => Below w3.heap.size w3 wx) (by kernel_rfl) (by kernel_rfl) (Below.refl _ w3).drew ?_
                go_big_quiet_want
                go_big_quiet_op
                go_big_quiet_on
                go_big_quiet_want
                go_big_quiet_op
                refine ⟨.pointer (some ⟨w.heap.size, 0, none⟩), fun wx hx => ?_, ?_⟩
                · first | rfl | simp [go_sem]
                go_big_quiet_on
                go_big_quiet_want
                go_big_quiet_op
                refine ⟨.int .i64 c.z, fun wx hx => ?_, ?_⟩
                · have c0 := (R3.out.on hx).cells.1
                  simp [go_sem, c0]
                go_big_quiet_on
                go_big_quiet_want
                go_big_quiet_op
                refine ⟨.int .i64 (acc.length : Int), fun wx hx => ?_, ?_⟩
                · refine (flen_any _ acc wx (R3.out.on hx).fb).mono ?_
                  rintro e w9 ⟨rfl, rfl⟩
                  exact ⟨rfl, hx⟩
                go_big_quiet_on
                go_big_quiet_want
                go_big_quiet_op
                refine ⟨.int .i64 ((z - acc.length : Nat) : Int), fun wx hx => ?_, ?_⟩
                · simp [go_sem]
                go_big_quiet_on
                go_big_quiet_want
                go_big_quiet_op
                refine ⟨.tuple #[.string ⟨#[]⟩, .int .i64 0, .bool false], fun wx hx => ?_, ?_⟩
                · refine (HPO.out wx).mono ?_
                  rintro e w9 ⟨rfl, hb9⟩
                  exact ⟨rfl, hx.trans (hb9.mono hx.size)⟩
                go_big_quiet_on
                go_big_quiet_want
                go_big_quiet_op
                go_big_quiet_on
                go_big_quiet_want
                go_big_quiet_op
                refine ⟨.string ⟨#[]⟩, fun wx hx => ?_, ?_⟩
                · first | rfl | simp [go_sem]
                go_big_quiet_on
                go_big_quiet_want
                go_big_quiet_op
                refine ⟨.int .i64 0, fun wx hx => ?_, ?_⟩
                · first | rfl | simp [go_sem]
                go_big_quiet_on
                go_big_quiet_want
                go_big_quiet_op
                refine ⟨.bool false, fun wx hx => ?_, ?_⟩
                · first | rfl | simp [go_sem]
                go_big_quiet_on
                go_big_quiet_want
                go_big_quiet_op
                go_big_quiet_on
                go_big_quiet_want
                go_big_quiet_op
                go_big_quiet_on
                go_big_quiet_want
                go_big_quiet_op
                go_big_quiet_on
                refine wpQuiet_nil ?_
                intro wq2 hq2
                have R4 := hid (R3.out.on hq2)
                have C4 := hid (C3.out.trans (Chg.of_below hq2))
                clear hq2
                go_wp2
                go_ret3
                exact ⟨[], [], 30, _, _, rfl, R4.out.sh, C4.out, own_nil s d N _, nil_new, HA2.out.1, HA2.out.2, Or.inl HV2.out.symm⟩
              | some q =>
                obtain ⟨q, nx⟩ := q
                rw [hpm] at HPO
                have hql := part_len hpm
                have HRD2 : Hid (rdM S.f m' nx (z - (acc ++ q).length) (acc ++ q) (pg ++ [n]) = rdM S.f 23 c.p z [] []) := hid (by
                  rw [← HRD.out, rd_next hz0 hf hpm, List.length_append]
                  congr 1
                  omega)
                have HB2 : Hid ((acc ++ q).length ≤ z ∧ z - (acc ++ q).length ≤ 227 * m' ∧ (pg ++ [n]).length + m' = 23) := hid (by
                  have := HB.out
                  rw [List.length_append, List.length_append, List.length_singleton]
                  omega)
                have hqx := hql.2
                have hq5 : Hid (acc.length + q.length ≤ 10000) := hid (by have := hp.out; have := HZN.out; omega)
                clear hf hz0 ha1 hpm hql
                go_wp2_with fail
                refine HI.out.mono ?_
                rintro e w3 ⟨rfl, hk3, hc3⟩
                have R3 := hid (R2.out.asked hk3 hc3)
                have C3 := hid (C2.out.trans hc3)
                clear hk3 hc3
                unfold partV at HPO
                simp only at HPO
                go_upto_region 12 with fail
                refine No.wp_quiet_in (fun wx => Below w3.heap.size w3 wx) (by kernel_rfl) (by kernel_rfl) (Below.refl _ w3).drew ?_
                go_big_quiet_want
                go_big_quiet_op
                go_big_quiet_on
                go_big_quiet_want
                go_big_quiet_op
                refine ⟨.pointer (some ⟨w.heap.size, 0, none⟩), fun wx hx => ?_, ?_⟩
                · first | rfl | simp [go_sem]
                go_big_quiet_on
                go_big_quiet_want
                go_big_quiet_op
                refine ⟨.int .i64 c.z, fun wx hx => ?_, ?_⟩
                · have c0 := (R3.out.on hx).cells.1
                  simp [go_sem, c0]
                go_big_quiet_on
                go_big_quiet_want
                go_big_quiet_op
                refine ⟨.int .i64 (acc.length : Int), fun wx hx => ?_, ?_⟩
                · refine (flen_any _ acc wx (R3.out.on hx).fb).mono ?_
                  rintro e w9 ⟨rfl, rfl⟩
                  exact ⟨rfl, hx⟩
                go_big_quiet_on
                go_big_quiet_want
                go_big_quiet_op
                refine ⟨.int .i64 ((z - acc.length : Nat) : Int), fun wx hx => ?_, ?_⟩
                · simp [go_sem]
                go_big_quiet_on
                go_big_quiet_want
                go_big_quiet_op
                refine ⟨.tuple #[.string (bs q), .int .i64 nx, .bool true], fun wx hx => ?_, ?_⟩
                · refine (HPO.out wx).mono ?_
                  rintro e w9 ⟨rfl, hb9⟩
                  exact ⟨rfl, hx.trans (hb9.mono hx.size)⟩
                go_big_quiet_on
                go_big_quiet_want
                go_big_quiet_op
                go_big_quiet_on
                go_big_quiet_want
                go_big_quiet_op
                refine ⟨.string (bs q), fun wx hx => ?_, ?_⟩
                · first | rfl | simp [go_sem]
                go_big_quiet_on
                go_big_quiet_want
                go_big_quiet_op
                refine ⟨.int .i64 nx, fun wx hx => ?_, ?_⟩
                · first | rfl | simp [go_sem]
                go_big_quiet_on
                go_big_quiet_want
                go_big_quiet_op
                refine ⟨.bool true, fun wx hx => ?_, ?_⟩
                · first | rfl | simp [go_sem]
                go_big_quiet_on
                go_big_quiet_want
                go_big_quiet_op
                go_big_quiet_on
                go_big_quiet_want
                go_big_quiet_op
                go_big_quiet_on
                go_big_quiet_want
                go_big_quiet_op
                go_big_quiet_on
                refine wpQuiet_nil ?_
                intro wq2 hq2
                have R4 := hid (R3.out.on hq2)
                have C4 := hid (C3.out.trans (Chg.of_below hq2))
                have HW := hid (Sp.fstr_any b acc q wq2 R4.out.fb (by have := hq5.out; omega) (Nat.le_of_lt (fb_lt R4.out.fb)))
                clear hq2
                go_wp2_with fail
                refine HW.out.mono ?_
                rintro e w5 ⟨rfl, hfb, hbl, hot⟩
                have R5 := hid (R4.out.wrote hfb hbl hot)
                have C5 : Hid (Chg (Two s d) w w5) := hid (C4.out.then (G := fun k => b ≤ k) (chg_up hbl) (fun i hi hG => Or.inl (by have := R4.out.ap; omega)))
                clear hfb hbl hot HW
                obtain ⟨v6, w6, hr6, R6'⟩ := R5.out.push n (by have := HB.out; omega)
                have HR6 := hid hr6
                have R6 := hid R6'
                have C6 : Hid (Chg (Two s d) w w6) := hid (C5.out.then (G := fun k => w.heap.size ≤ k) (push_chg R5.out.own (by have := HB.out; omega) R5.out.new hr6) (fun i hi hG => Or.inl hG))
                obtain ⟨ao6, cap6, e6, -⟩ := Mem.row_shape R6'.own.row
                subst e6
                have hml : lenOf (.slice ao6 (pg ++ [n]).length cap6) = pg.length + 1 := by show (pg ++ [n]).length = _; simp
                have hml0 : lenOf (.slice ao pg.length cap) = pg.length := rfl
                have HML := hid (And.intro hml hml0)
                have hpl : Hid (pg.length ≤ 23) := hid (by have := HB.out; omega)
                clear hr6 R6' hml hml0
                generalize Value.slice ao6 (pg ++ [n]).length cap6 = v6 at *
                generalize pg ++ [n] = pg6 at *
                generalize acc ++ q = acc6 at *
                go_wp2_with (at_builtin; refine wpList_append_run rfl (.tmp 53) (.tmp 55) tIs tIs rfl _ _ (by simp [Act.eval]) (by simp [Act.eval]) HR6.out ?_)
                go_roundw
                case rel => exact ⟨m', nx, acc6, pg6, _, rfl, by omega, by omega, by omega, HB2, HRD2, R6, C6, HA2⟩
                case measure => have := HML.out; have := hpl.out; omega
        · have HV2 : Hid (valM S.f c = ((acc, pg), 0)) := hid (by
            rw [HV.out, ← HRD.out]
            have : z - acc.length = 0 := by omega
            rw [this]
            exact rd_done _ _ _ _ _)
          have hlz : ¬ (acc.length : Int) < c.z := by have := HZN.out; omega
          go_upto_region 8 with fail
          refine No.wp_quiet_in (fun wx => Below wr.heap.size wr wx) (by kernel_rfl) (by kernel_rfl) (Below.refl _ wr).drew ?_
          go_big_quiet_want
          go_big_quiet_op
          refine ⟨.int .i64 (acc.length : Int), fun wx hx => ?_, ?_⟩
          · refine (flen_any _ acc wx (R1.out.on hx).fb).mono ?_
            rintro e w9 ⟨rfl, rfl⟩
            exact ⟨rfl, hx⟩
          go_big_quiet_on
          go_big_quiet_want
          go_big_quiet_op
          refine ⟨.pointer (some ⟨w.heap.size, 0, none⟩), fun wx hx => ?_, ?_⟩
          · first | rfl | simp [go_sem]
          go_big_quiet_on
          go_big_quiet_want
          go_big_quiet_op
          refine ⟨.int .i64 c.z, fun wx hx => ?_, ?_⟩
          · have c0 := (R1.out.on hx).cells.1
            simp [go_sem, c0]
          go_big_quiet_on
          go_big_quiet_want
          go_big_quiet_op
          refine ⟨.bool false, fun wx hx => ?_, ?_⟩
          · simp [go_sem]
          go_big_quiet_on
          refine wpQuiet_nil ?_
          intro wq hq
          have R2 := hid (R1.out.on hq)
          have C2 := hid (C1.out.trans (Chg.of_below hq))
          have HE := hid (fendk_any b acc wq R2.out.fb (Nat.le_of_lt (fb_lt R2.out.fb)))
          clear hq
          go_wp2_with fail
          refine HE.out.mono ?_
          rintro e w5 ⟨rfl, hfb, hbl, hot⟩
          have R5 := hid (R2.out.wrote hfb hbl hot)
          have C5 : Hid (Chg (Two s d) w w5) := hid (C2.out.then (G := fun k => b ≤ k) (chg_up hbl) (fun i hi hG => Or.inl (by have := R2.out.ap; omega)))
          clear hfb hbl hot HE
          go_wp2
          go_ret3
          exact ⟨acc, pg, 0, _, arm1, rfl, R5.out.sh, C5.out, R5.out.own, R5.out.new, HA.out.1, HA.out.2, Or.inl HV2.out.symm⟩
end Ch
end Go.Proofs.YtkoglikaaehhjaaGreatDoor
