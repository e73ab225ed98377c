/-
  Contract of lay: a long value is laid on new pages, or the pages' error is answered.
-/
import Derived.Test.YtkoglikaaehhjaaGreatDoorShelfArm
import Derived.Test.YtkoglikaaehhjaaGreatDoorChainPage
import Derived.Test.YtkoglikaaehhjaaGreatDoorQuietTail
namespace Go.Proofs.YtkoglikaaehhjaaGreatDoor
open Go.RowKit
namespace Ch
open Num (hid)
open Mem (Bs bs ptr Chg)
open Sp (zeros Hd)
open Sh (ShL Inv St Calm spend Two)
theorem nil_put (k s : Nat) (w : World) : Sem.run Tryz.prog (nilAhead (k + 1) tShp (ptr s) "Put") w = .ok (some false) w := by kernel_rfl
/-- What stands, with the parts from k on laid. -/
structure Laid (v : Bs) (k : Nat) (n : Int) (lim : Int) (h : Hd) (arm : Int) (S : St) (U F : List Int) (ps F' : List Int) (h' : Hd) (arm' : Int) (S' : St) : Prop where
  ch : Chn S'.f ps n (v.drop (227 * k))
  inv : Inv h' S' (U ++ ps.reverse) F'
  same : ∀ x ∈ U, S'.f x = S.f x
  fl : F'.length = F.length - ps.length
  pg : h'.pages = h.pages + ((ps.length - F.length : Nat) : Int)
  pl : h'.pages ≤ lim
  ar : arm < 1 → arm' = arm
  am : arm' ≤ 1000
  len : ps.length + k = (v.length + 226) / 227
variable {s d N cnt : Nat} {lim : Int} {h : Hd} {arm : Int} {S : St} {U F : List Int} {w0 w : World} {v : Bs}
theorem Laid.start (inv : Inv h S U F) (hp : h.pages ≤ lim) (ha : arm ≤ 1000) : Laid v ((v.length + 226) / 227) 0 lim h arm S U F [] F h arm S :=
  ⟨⟨rfl, List.drop_of_length_le (by omega)⟩, by simpa using inv, fun _ _ => rfl, by simp, by simp, hp, fun _ => rfl, ha, by simp⟩
/-- A part more. -/
theorem Laid.next {k : Nat} {n m : Int} {ps F1 F2 : List Int} {h1 h2 : Hd} {arm1 arm2 : Int} {S1 S2 : St} (L : Laid v (k + 1) n lim h arm S U F ps F1 h1 arm1 S1)
    (inv : Inv h2 S2 ((U ++ ps.reverse) ++ [m]) F2) (hpl : h2.pages ≤ lim) (hl : lim ≤ 4096) (hpg : h2.pages = h1.pages + (if F1.length = 0 then 1 else 0)) (hfl : F2.length = F1.length - 1)
    (hm : m ∉ U ++ ps.reverse) (hm1 : 1 ≤ m ∧ m < h2.pages) (hs : ∀ x, x ∈ U ++ ps.reverse → S2.f x = S1.f x) (har : arm1 < 1 → arm2 = arm1) (ham : arm2 ≤ 1000) :
    Laid v k m lim h arm S U F (m :: ps) F2 h2 arm2 (S2.set m (pageB ((v.drop (227 * k)).take 227) n)) := by
  have hlen := L.len
  have e1 : (U ++ ps.reverse) ++ [m] = U ++ (m :: ps).reverse := by simp
  refine ⟨?_, ?_, ?_, ?_, ?_, hpl, fun h0 => ?_, ham, ?_⟩
  · refine Chn.push (L.ch.same (fun x hx => ?_)) (by omega) ⟨hm1.1, by omega⟩ (Sh.set_same _ _ _)
    have hx2 : x ∈ U ++ ps.reverse := by simp [hx]
    rw [Sh.set_other (fun e => hm (by rw [← e]; exact hx2)), hs x hx2]
  · rw [← e1]
    exact inv.put (by simp) _
  · intro x hx
    have hx2 : x ∈ U ++ ps.reverse := by simp [hx]
    rw [Sh.set_other (fun e => hm (by rw [← e]; exact hx2)), hs x hx2, L.same x hx]
  · rw [hfl, L.fl, List.length_cons]
    omega
  · rw [hpg, L.pg, L.fl, List.length_cons]
    split <;> omega
  · have := L.ar h0
    rw [har (by omega), this]
  · rw [List.length_cons]
    omega
/-- What lay answers. -/
def LayOut (v : Bs) (n er : Int) (lim : Int) (h : Hd) (arm : Int) (S : St) (U F : List Int) (h' : Hd) (arm' : Int) (S' : St) : Prop :=
  (er = 0 ∧ ∃ ps F', Laid v 0 n lim h arm S U F ps F' h' arm' S') ∨ (er = 11 ∧ n = 0 ∧ 1 ≤ arm) ∨ (er = 22 ∧ n = 0 ∧ lim < h.pages + ((((v.length + 226) / 227 - F.length : Nat)) : Int))
theorem Laid.full {k : Nat} {n : Int} {ps F1 : List Int} {h1 : Hd} {arm1 : Int} {S1 : St} (L : Laid v (k + 1) n lim h arm S U F ps F1 h1 arm1 S1) (h0 : F1.length = 0) (h2 : lim ≤ h1.pages) : lim < h.pages + ((((v.length + 226) / 227 - F.length : Nat)) : Int) := by
  have a := L.len
  have b := L.fl
  have c := L.pg
  omega
/-- The part from k on. -/
theorem part_cut (v : Bs) (k : Nat) (h : 227 * k ≤ v.length) (m : Nat) (hm : m = min (227 * k + 227) v.length) : (bs v).extract (227 * k) m = bs ((v.drop (227 * k)).take 227) := by
  rw [Sp.ex_mid]
  subst hm
  by_cases hq : 227 * k + 227 ≤ v.length
  · congr 2
    omega
  · rw [List.take_of_length_le (l := v.drop (227 * k)) (i := 227) (by rw [List.length_drop]; omega), List.take_of_length_le (by rw [List.length_drop]; omega)]
theorem first_at (z : Nat) (h : 1 ≤ z) : ((z : Int) - 1).tdiv 227 * 227 = 227 * (((z + 226) / 227 : Nat) : Int) - 227 := by
  rw [Int.tdiv_eq_ediv_of_nonneg (by omega)]
  omega
def LayPost (s d N cnt : Nat) (lim : Int) (h : Hd) (arm : Int) (S : St) (U F : List Int) (w0 w : World) (v : Bs) (e : Ending) (w' : World) : Prop :=
  ∃ (n er : Int) (h' : Hd) (arm' : Int) (S' : St), e = .returned (.tuple #[.int .i64 n, .int .i64 er]) ∧ ShL s d N (cnt + 200) lim h' arm' S' w0 w' ∧ Chg (Two s d) w w' ∧ LayOut v n er lim h arm S U F h' arm' S'
set_option maxRecDepth 100000 in
set_option maxHeartbeats 8000000 in
theorem lay_any (k : ShL s d N cnt lim h arm S w0 w) (hcn : cnt ≤ 10000) (inv : Inv h S U F) (hl : lim ≤ 4096) (hp : h.pages ≤ lim) (ham : arm ≤ 1000) (hv1 : 1 ≤ v.length) (hv2 : v.length ≤ 5000) :
    Calls Tryz.prog 33 #[pV s, .string (bs v)] w (LayPost s d N cnt lim h arm S U F w0 w v) := by
  have hz := Sp.bs_size v
  have K := hid k
  have L0 := hid (Laid.start (v := v) inv hp ham)
  have hf := first_at (bs v).size (by omega)
  rw [hz] at hf
  obtain ⟨P, hP⟩ : ∃ P, P = (v.length + 226) / 227 := ⟨_, rfl⟩
  rw [← hP] at hf L0
  have HP := hid hP
  have hP2 : P ≤ 23 := by omega
  clear k inv hp ham hP
  have HZ := hid hz
  have hzb : (bs v).size ≤ 5000 := by omega
  have hzc : 1 ≤ (bs v).size := by omega
  have hf2 : wrap64 (wrap64 (((bs v).size : Int) - 1)) = ((bs v).size : Int) - 1 := by rw [Num.wrap_i, Num.wrap_i]; omega
  rw [← hz] at hf
  clear hz hv1 hv2 hf2
  go_enter Tryz.func33, Tryz.ntmps33
  go_wp2_with fail
  go_loopw [6, 7] (fun nv av wr => ∃ (j : Nat) (n : Int) (ps F1 : List Int) (h1 : Hd) (arm1 : Int) (S1 : St), nv = .int .i64 n ∧ av = .int .i64 (227 * (j : Int) - 227) ∧ j ≤ 23 ∧ 0 ≤ n ∧ n ≤ 4095 ∧ Hid (ShL s d N (cnt + 8 * ps.length) lim h1 arm1 S1 w0 wr) ∧ Hid (Chg (Two s d) w wr) ∧ Hid (Laid v j n lim h arm S U F ps F1 h1 arm1 S1)) (fun _ av _ => (227 + intOf av).toNat)
  case atStart => exact ⟨P, 0, [], F, h, arm, S, rfl, rfl, hP2, by decide, by decide, K, hid (Chg.refl _ _), L0⟩
  case round =>
    obtain ⟨j, n, ps, F1, h1, arm1, S1, rfl, rfl, hj, hn0, hn1, HK, HC, HL⟩ := hrel
    cases j with
    | zero =>
      have hlow : ¬ (0 : Int) ≤ 227 * ((0 : Nat) : Int) - 227 := by decide
      go_wp2
      go_ret2
      have hpl : ps.length ≤ 23 := by have := HL.out.len; have := HP.out; omega
      exact ⟨n, 0, h1, arm1, S1, rfl, HK.out.more (by omega), HC.out, Or.inl ⟨rfl, ps, F1, HL.out⟩⟩
    | succ j =>
      have ecast : (227 * ((j + 1 : Nat) : Int) - 227) = ((227 * j : Nat) : Int) := by omega
      rw [ecast]
      have hup : (0 : Int) ≤ ((227 * j : Nat) : Int) := by omega
      have hpl : Hid (ps.length ≤ 22) := hid (by have := HL.out.len; have := HP.out; omega)
      have hcnt : Hid (cnt + 8 * ps.length ≤ 11000) := hid (by have := hpl.out; omega)
      by_cases ha1 : arm1 = 1
      · subst ha1
        have HN := hid (Sh.new_io1 HK.out.at'.blk)
        have hpos : Hid (1 ≤ arm) := hid (by
          have := HL.out.ar
          omega)
        go_wp2_with fail
        refine HN.out.mono ?_
        rintro e w1 ⟨rfl, rfl⟩
        go_wp2
        go_ret2
        exact ⟨0, 11, h1, 1, S1, rfl, HK.out.more (by have := hpl.out; omega), HC.out, Or.inr (Or.inl ⟨rfl, rfl, hpos.out⟩)⟩
      · have hcalm : Hid (Sh.Calm arm1) := hid ⟨ha1, HL.out.am⟩
        by_cases hfull : F1.length = 0 ∧ lim ≤ h1.pages
        · have HN := hid (HK.out.fullA hcalm.out (by have := hcnt.out; omega) HL.out.inv (by have := HL.out.pl; omega) hfull.1 hfull.2)
          have HQ := hid (HL.out.full hfull.1 hfull.2)
          go_wp2_with fail
          refine HN.out.mono ?_
          rintro e w1 ⟨rfl, hk1, hc1⟩
          have K1 := hid (hk1.more (cnt' := cnt + 200) (by have := hpl.out; omega))
          have C1 := hid (HC.out.trans hc1)
          clear hk1 hc1
          go_wp2
          go_ret2
          exact ⟨0, 22, h1, _, S1, rfl, K1.out, C1.out, Or.inr (Or.inr ⟨rfl, rfl, HQ.out⟩)⟩
        · have HN := hid (HK.out.takeA hcalm.out (by have := hcnt.out; omega) HL.out.inv hl HL.out.pl hfull)
          go_wp2_with fail
          refine HN.out.mono ?_
          rintro e w1 ⟨m, h2, S2, F2, rfl, hk1, hinv, hpp, hm, hm1, hm2, hfl, hs, hc1⟩
          have K1 := hid hk1
          have C1 := hid (HC.out.trans hc1)
          have hsp := Sh.calm_spend hcalm.out
          clear hk1 hc1
          have hjl : 227 * j < v.length := by have := HL.out.len; omega
          obtain ⟨q, hq⟩ : ∃ q : Nat, q = min (227 * j + 227) v.length := ⟨_, rfl⟩
          have hzz := HZ.out
          have he : min (((227 * j : Nat) : Int) + 227) ((bs v).size : Int) = (q : Int) := by omega
          have he2 : min (227 * (j : Int) + 227) ((bs v).size : Int) = (q : Int) := by omega
          have hq1 : 227 * j ≤ q := by omega
          have hq2 : q ≤ (bs v).size := by omega
          have hX := part_cut v j (by omega) q hq
          have hXl : ((v.drop (227 * j)).take 227).length ≤ 227 := by rw [List.length_take]; omega
          obtain ⟨nn, hnn⟩ : ∃ nn : Nat, n = (nn : Int) := ⟨n.toNat, by omega⟩
          subst hnn
          have HPO := hid (fun w => pageof_any ((v.drop (227 * j)).take 227) hXl nn (by omega) w)
          have HPL := hid (page_len hXl (nn : Int))
          have LN := hid (fun (arm2 : Int) (har : arm1 < 1 → arm2 = arm1) (ham : arm2 ≤ 1000) => HL.out.next hinv hpp.1 hl hpp.2 hfl hm ⟨hm1, hm2⟩ hs har ham)
          have HPT := hid (fun (wz : World) (kz : ShL s d N (cnt + 8 * ps.length + 3) lim h2 (spend arm1) S2 w0 wz) (hz : Sh.Calm (spend arm1)) => kz.putA hz (by have := hcnt.out; omega) hinv (by omega) (n := m) (by simp) (pageB ((v.drop (227 * j)).take 227) nn) HPL.out)
          have HM := hid (And.intro hm1 (And.intro hm2 hpp.1))
          have HHL := hid hl
          clear hinv hpp hm hm1 hm2 hfl hs hzz hjl hq hXl
          generalize (v.drop (227 * j)).take 227 = X at *
          generalize pageB X nn = PB at *
          go_upto_region 9 with fail
          refine Tail.wp_region_quiet_tail 8 (fun wx => Below w1.heap.size w1 wx) (by kernel_rfl) (by kernel_rfl) (Below.refl _ w1).drew ?_
          simp only [List.take_succ_cons, List.take_zero, List.drop_succ_cons, List.drop_zero]
          go_big_quiet_want
          go_big_quiet_op
          go_big_quiet_on
          go_big_quiet_want
          go_big_quiet_op
          go_big_quiet_on
          go_big_quiet_want
          go_big_quiet_op
          go_big_quiet_on
          go_big_quiet_want
          go_big_quiet_op
          go_big_quiet_on
          go_big_quiet_want
          go_big_quiet_op
          refine ⟨.string (bs PB), fun wx hx => ?_, ?_⟩
          · with_reducible refine (HPO.out wx).mono ?_
            rintro e w9 ⟨rfl, hb9⟩
            exact ⟨rfl, hx.trans (hb9.mono hx.size)⟩
          go_big_quiet_on
          go_big_quiet_want
          go_big_quiet_op
          apply Exists.intro
          refine ⟨fun _ _ => ?_, ?_⟩
          · with_reducible exact Eq.refl _
          go_big_quiet_on
          go_big_quiet_want
          go_big_quiet_op
          refine ⟨.func (.method "Put") #[pV s] #[], fun wx hx => ?_, ?_⟩
          · rw [nil_put]
            exact ⟨rfl, rfl⟩
          go_big_quiet_on
          go_big_quiet_want
          go_big_quiet_op
          go_big_quiet_on
          refine wpQuiet_nil ?_
          intro wq hq
          have KQ := hid (K1.out.kept hq)
          have CQ := hid (C1.out.trans (Chg.of_below hq))
          clear hq
          by_cases hb1 : spend arm1 = 1
          · rw [hb1] at KQ
            have HI := hid (Sh.put_io KQ.out.at'.blk m (bs PB))
            have hpos : Hid (1 ≤ arm) := hid (by
              have h1 := HL.out.ar
              have h2 : spend arm1 = 1 := hb1
              unfold Sh.spend at h2
              split at h2 <;> omega)
            clear hb1
            go_wp2_with fail
            refine HI.out.mono ?_
            rintro e w10 ⟨rfl, rfl⟩
            go_wp2
            go_ret2
            exact ⟨0, 11, h2, 1, S2, rfl, KQ.out.more (by have := hpl.out; omega), CQ.out, Or.inr (Or.inl ⟨rfl, rfl, hpos.out⟩)⟩
          · have hcal2 : Hid (Sh.Calm (spend arm1)) := hid ⟨hb1, hsp⟩
            have HI := hid (HPT.out wq KQ.out hcal2.out)
            have L2 := hid (LN.out (spend (spend arm1)) (fun h0 => by rw [Sh.spend_low h0, Sh.spend_low h0]) (Sh.calm_spend hcal2.out))
            clear hb1
            go_wp2_with fail
            refine HI.out.mono ?_
            rintro e w10 ⟨rfl, hk2, -, hc2⟩
            have K2 := hid hk2
            have C2 := hid (CQ.out.trans hc2)
            clear hk2 hc2
            go_wp2
            go_roundw
            case rel => exact ⟨j, m, m :: ps, F2, h2, _, _, rfl, by go_num, by omega, by have := HM.out; omega, by have := HM.out; have := HHL.out; omega, hid (K2.out.more (by rw [List.length_cons]; omega)), C2, L2⟩
            case measure => simp [intOf]; omega
end Ch
end Go.Proofs.YtkoglikaaehhjaaGreatDoor
