/-
  Put together: ChainLay, ChainRead.
-/
import Derived.Test.YtoifhcmgeackdaaGreatDoorGrpTrShC
import Derived.Test.YtoifhcmgeackdaaGreatDoorGrpTrChA
import Derived.Test.YtoifhcmgeackdaaGreatDoorQuietTail
import Derived.Test.YtoifhcmgeackdaaGreatDoorGrpTrNoE
/-
  Contract of lay: a long value is laid on new pages, or the pages' error is answered.
-/
namespace Go.Proofs.YtoifhcmgeackdaaGreatDoor
open Go.RowKit
namespace Ch
open Num (hid)
open Mem (Bs bs ptr Chg)
open Sp (zeros Hd)
open Sh (ShL Inv St Calm spend Two)
theorem nil_put (k s : Nat) (w : World) : Sem.run Tryz.prog (nilAhead (k + 1) tShp (ptr s) "Put") w = .ok (some false) w := by kernel_rfl
/-- What stands, with the parts from k on laid. -/
structure Laid (v : Bs) (k : Nat) (n : Int) (lim : Int) (h : Hd) (arm : Int) (S : St) (U F : List Int) (ps F' : List Int) (h' : Hd) (arm' : Int) (S' : St) : Prop where
  ch : Chn S'.f ps n (v.drop (227 * k))
  inv : Inv h' S' (U ++ ps.reverse) F'
  same : ∀ x ∈ U, S'.f x = S.f x
  fl : F'.length = F.length - ps.length
  pg : h'.pages = h.pages + ((ps.length - F.length : Nat) : Int)
  pl : h'.pages ≤ lim
  ar : arm < 1 → arm' = arm
  am : arm' ≤ 1000
  len : ps.length + k = (v.length + 226) / 227
variable {s d N cnt : Nat} {lim : Int} {h : Hd} {arm : Int} {S : St} {U F : List Int} {w0 w : World} {v : Bs}
theorem Laid.start (inv : Inv h S U F) (hp : h.pages ≤ lim) (ha : arm ≤ 1000) : Laid v ((v.length + 226) / 227) 0 lim h arm S U F [] F h arm S :=
  ⟨⟨rfl, List.drop_of_length_le (by omega)⟩, by simpa using inv, fun _ _ => rfl, by simp, by simp, hp, fun _ => rfl, ha, by simp⟩
/-- A part more. -/
theorem Laid.next {k : Nat} {n m : Int} {ps F1 F2 : List Int} {h1 h2 : Hd} {arm1 arm2 : Int} {S1 S2 : St} (L : Laid v (k + 1) n lim h arm S U F ps F1 h1 arm1 S1)
    (inv : Inv h2 S2 ((U ++ ps.reverse) ++ [m]) F2) (hpl : h2.pages ≤ lim) (hl : lim ≤ 4096) (hpg : h2.pages = h1.pages + (if F1.length = 0 then 1 else 0)) (hfl : F2.length = F1.length - 1)
    (hm : m ∉ U ++ ps.reverse) (hm1 : 1 ≤ m ∧ m < h2.pages) (hs : ∀ x, x ∈ U ++ ps.reverse → S2.f x = S1.f x) (har : arm1 < 1 → arm2 = arm1) (ham : arm2 ≤ 1000) :
    Laid v k m lim h arm S U F (m :: ps) F2 h2 arm2 (S2.set m (pageB ((v.drop (227 * k)).take 227) n)) := by
  have hlen := L.len
  have e1 : (U ++ ps.reverse) ++ [m] = U ++ (m :: ps).reverse := by simp
  refine ⟨?_, ?_, ?_, ?_, ?_, hpl, fun h0 => ?_, ham, ?_⟩
  · refine Chn.push (L.ch.same (fun x hx => ?_)) (by omega) ⟨hm1.1, by omega⟩ (Sh.set_same _ _ _)
    have hx2 : x ∈ U ++ ps.reverse := by simp [hx]
    rw [Sh.set_other (fun e => hm (by rw [← e]; exact hx2)), hs x hx2]
  · rw [← e1]
    exact inv.put (by simp) _
  · intro x hx
    have hx2 : x ∈ U ++ ps.reverse := by simp [hx]
    rw [Sh.set_other (fun e => hm (by rw [← e]; exact hx2)), hs x hx2, L.same x hx]
  · rw [hfl, L.fl, List.length_cons]
    omega
  · rw [hpg, L.pg, L.fl, List.length_cons]
    split <;> omega
  · have := L.ar h0
    rw [har (by omega), this]
  · rw [List.length_cons]
    omega
/-- What lay answers. -/
def LayOut (v : Bs) (n er : Int) (lim : Int) (h : Hd) (arm : Int) (S : St) (U F : List Int) (h' : Hd) (arm' : Int) (S' : St) : Prop :=
  (er = 0 ∧ ∃ ps F', Laid v 0 n lim h arm S U F ps F' h' arm' S') ∨ (er = 11 ∧ n = 0 ∧ 1 ≤ arm) ∨ (er = 22 ∧ n = 0 ∧ lim < h.pages + ((((v.length + 226) / 227 - F.length : Nat)) : Int))
theorem Laid.full {k : Nat} {n : Int} {ps F1 : List Int} {h1 : Hd} {arm1 : Int} {S1 : St} (L : Laid v (k + 1) n lim h arm S U F ps F1 h1 arm1 S1) (h0 : F1.length = 0) (h2 : lim ≤ h1.pages) : lim < h.pages + ((((v.length + 226) / 227 - F.length : Nat)) : Int) := by
  have a := L.len
  have b := L.fl
  have c := L.pg
  omega
/-- The part from k on. -/
theorem part_cut (v : Bs) (k : Nat) (h : 227 * k ≤ v.length) (m : Nat) (hm : m = min (227 * k + 227) v.length) : (bs v).extract (227 * k) m = bs ((v.drop (227 * k)).take 227) := by
  rw [Sp.ex_mid]
  subst hm
  by_cases hq : 227 * k + 227 ≤ v.length
  · congr 2
    omega
  · rw [List.take_of_length_le (l := v.drop (227 * k)) (i := 227) (by rw [List.length_drop]; omega), List.take_of_length_le (by rw [List.length_drop]; omega)]
theorem first_at (z : Nat) (h : 1 ≤ z) : ((z : Int) - 1).tdiv 227 * 227 = 227 * (((z + 226) / 227 : Nat) : Int) - 227 := by
  rw [Int.tdiv_eq_ediv_of_nonneg (by omega)]
  omega
def LayPost (s d N cnt : Nat) (lim : Int) (h : Hd) (arm : Int) (S : St) (U F : List Int) (w0 w : World) (v : Bs) (e : Ending) (w' : World) : Prop :=
  ∃ (n er : Int) (h' : Hd) (arm' : Int) (S' : St), e = .returned (.tuple #[.int .i64 n, .int .i64 er]) ∧ ShL s d N (cnt + 200) lim h' arm' S' w0 w' ∧ Chg (Two s d) w w' ∧ LayOut v n er lim h arm S U F h' arm' S'
set_option maxRecDepth 100000 in
set_option maxHeartbeats 8000000 in
theorem lay_any (k : ShL s d N cnt lim h arm S w0 w) (hcn : cnt ≤ 10000) (inv : Inv h S U F) (hl : lim ≤ 4096) (hp : h.pages ≤ lim) (ham : arm ≤ 1000) (hv1 : 1 ≤ v.length) (hv2 : v.length ≤ 5000) :
    Calls Tryz.prog 128 #[pV s, .string (bs v)] w (LayPost s d N cnt lim h arm S U F w0 w v) := by
  have hz := Sp.bs_size v
  have K := hid k
  have L0 := hid (Laid.start (v := v) inv hp ham)
  have hf := first_at (bs v).size (by omega)
  rw [hz] at hf
  obtain ⟨P, hP⟩ : ∃ P, P = (v.length + 226) / 227 := ⟨_, rfl⟩
  rw [← hP] at hf L0
  have HP := hid hP
  have hP2 : P ≤ 23 := by omega
  clear k inv hp ham hP
  have HZ := hid hz
  have hzb : (bs v).size ≤ 5000 := by omega
  have hzc : 1 ≤ (bs v).size := by omega
  have hf2 : wrap64 (wrap64 (((bs v).size : Int) - 1)) = ((bs v).size : Int) - 1 := by rw [Num.wrap_i, Num.wrap_i]; omega
  rw [← hz] at hf
  clear hz hv1 hv2 hf2
  go_enter Tryz.func128, Tryz.ntmps128
  go_wp2_with fail
  go_loopw [6, 7] (fun nv av wr => ∃ (j : Nat) (n : Int) (ps F1 : List Int) (h1 : Hd) (arm1 : Int) (S1 : St), nv = .int .i64 n ∧ av = .int .i64 (227 * (j : Int) - 227) ∧ j ≤ 23 ∧ 0 ≤ n ∧ n ≤ 4095 ∧ Hid (ShL s d N (cnt + 8 * ps.length) lim h1 arm1 S1 w0 wr) ∧ Hid (Chg (Two s d) w wr) ∧ Hid (Laid v j n lim h arm S U F ps F1 h1 arm1 S1)) (fun _ av _ => (227 + intOf av).toNat)
  case atStart => exact ⟨P, 0, [], F, h, arm, S, rfl, rfl, hP2, by decide, by decide, K, hid (Chg.refl _ _), L0⟩
  case round =>
    obtain ⟨j, n, ps, F1, h1, arm1, S1, rfl, rfl, hj, hn0, hn1, HK, HC, HL⟩ := hrel
    cases j with
    | zero =>
      have hlow : ¬ (0 : Int) ≤ 227 * ((0 : Nat) : Int) - 227 := by decide
      go_wp2
      go_ret2
      have hpl : ps.length ≤ 23 := by have := HL.out.len; have := HP.out; omega
      exact ⟨n, 0, h1, arm1, S1, rfl, HK.out.more (by omega), HC.out, Or.inl ⟨rfl, ps, F1, HL.out⟩⟩
    | succ j =>
      have ecast : (227 * ((j + 1 : Nat) : Int) - 227) = ((227 * j : Nat) : Int) := by omega
      rw [ecast]
      have hup : (0 : Int) ≤ ((227 * j : Nat) : Int) := by omega
      have hpl : Hid (ps.length ≤ 22) := hid (by have := HL.out.len; have := HP.out; omega)
      have hcnt : Hid (cnt + 8 * ps.length ≤ 11000) := hid (by have := hpl.out; omega)
      by_cases ha1 : arm1 = 1
      · subst ha1
        have HN := hid (Sh.new_io1 HK.out.at'.blk)
        have hpos : Hid (1 ≤ arm) := hid (by
          have := HL.out.ar
          omega)
        go_wp2_with fail
        refine HN.out.mono ?_
        rintro e w1 ⟨rfl, rfl⟩
        go_wp2
        go_ret2
        exact ⟨0, 11, h1, 1, S1, rfl, HK.out.more (by have := hpl.out; omega), HC.out, Or.inr (Or.inl ⟨rfl, rfl, hpos.out⟩)⟩
      · have hcalm : Hid (Sh.Calm arm1) := hid ⟨ha1, HL.out.am⟩
        by_cases hfull : F1.length = 0 ∧ lim ≤ h1.pages
        · have HN := hid (HK.out.fullA hcalm.out (by have := hcnt.out; omega) HL.out.inv (by have := HL.out.pl; omega) hfull.1 hfull.2)
          have HQ := hid (HL.out.full hfull.1 hfull.2)
          go_wp2_with fail
          refine HN.out.mono ?_
          rintro e w1 ⟨rfl, hk1, hc1⟩
          have K1 := hid (hk1.more (cnt' := cnt + 200) (by have := hpl.out; omega))
          have C1 := hid (HC.out.trans hc1)
          clear hk1 hc1
          go_wp2
          go_ret2
          exact ⟨0, 22, h1, _, S1, rfl, K1.out, C1.out, Or.inr (Or.inr ⟨rfl, rfl, HQ.out⟩)⟩
        · have HN := hid (HK.out.takeA hcalm.out (by have := hcnt.out; omega) HL.out.inv hl HL.out.pl hfull)
          go_wp2_with fail
          refine HN.out.mono ?_
          rintro e w1 ⟨m, h2, S2, F2, rfl, hk1, hinv, hpp, hm, hm1, hm2, hfl, hs, hc1⟩
          have K1 := hid hk1
          have C1 := hid (HC.out.trans hc1)
          have hsp := Sh.calm_spend hcalm.out
          clear hk1 hc1
          have hjl : 227 * j < v.length := by have := HL.out.len; omega
          obtain ⟨q, hq⟩ : ∃ q : Nat, q = min (227 * j + 227) v.length := ⟨_, rfl⟩
          have hzz := HZ.out
          have he : min (((227 * j : Nat) : Int) + 227) ((bs v).size : Int) = (q : Int) := by omega
          have he2 : min (227 * (j : Int) + 227) ((bs v).size : Int) = (q : Int) := by omega
          have hq1 : 227 * j ≤ q := by omega
          have hq2 : q ≤ (bs v).size := by omega
          have hX := part_cut v j (by omega) q hq
          have hXl : ((v.drop (227 * j)).take 227).length ≤ 227 := by rw [List.length_take]; omega
          obtain ⟨nn, hnn⟩ : ∃ nn : Nat, n = (nn : Int) := ⟨n.toNat, by omega⟩
          subst hnn
          have HPO := hid (fun w => pageof_any ((v.drop (227 * j)).take 227) hXl nn (by omega) w)
          have HPL := hid (page_len hXl (nn : Int))
          have LN := hid (fun (arm2 : Int) (har : arm1 < 1 → arm2 = arm1) (ham : arm2 ≤ 1000) => HL.out.next hinv hpp.1 hl hpp.2 hfl hm ⟨hm1, hm2⟩ hs har ham)
          have HPT := hid (fun (wz : World) (kz : ShL s d N (cnt + 8 * ps.length + 3) lim h2 (spend arm1) S2 w0 wz) (hz : Sh.Calm (spend arm1)) => kz.putA hz (by have := hcnt.out; omega) hinv (by omega) (n := m) (by simp) (pageB ((v.drop (227 * j)).take 227) nn) HPL.out)
          have HM := hid (And.intro hm1 (And.intro hm2 hpp.1))
          have HHL := hid hl
          clear hinv hpp hm hm1 hm2 hfl hs hzz hjl hq hXl
          generalize (v.drop (227 * j)).take 227 = X at *
          generalize pageB X nn = PB at *
          go_upto_region 9 with fail
          refine Tail.wp_region_quiet_tail 8 (fun wx => Below w1.heap.size w1 wx) (by kernel_rfl) (by kernel_rfl) (Below.refl _ w1).drew ?_
          simp only [List.take_succ_cons, List.take_zero, List.drop_succ_cons, List.drop_zero]
          go_big_quiet_want
          go_big_quiet_op
          go_big_quiet_on
          go_big_quiet_want
          go_big_quiet_op
          go_big_quiet_on
          go_big_quiet_want
          go_big_quiet_op
          go_big_quiet_on
          go_big_quiet_want
          go_big_quiet_op
          go_big_quiet_on
          go_big_quiet_want
          go_big_quiet_op
          refine ⟨.string (bs PB), fun wx hx => ?_, ?_⟩
          · with_reducible refine (HPO.out wx).mono ?_
            rintro e w9 ⟨rfl, hb9⟩
            exact ⟨rfl, hx.trans (hb9.mono hx.size)⟩
          go_big_quiet_on
          go_big_quiet_want
          go_big_quiet_op
          apply Exists.intro
          refine ⟨fun _ _ => ?_, ?_⟩
          · with_reducible exact Eq.refl _
          go_big_quiet_on
          go_big_quiet_want
          go_big_quiet_op
          refine ⟨.func (.method "Put") #[pV s] #[], fun wx hx => ?_, ?_⟩
          · rw [nil_put]
            exact ⟨rfl, rfl⟩
          go_big_quiet_on
          go_big_quiet_want
          go_big_quiet_op
          go_big_quiet_on
          refine wpQuiet_nil ?_
          intro wq hq
          have KQ := hid (K1.out.kept hq)
          have CQ := hid (C1.out.trans (Chg.of_below hq))
          clear hq
          by_cases hb1 : spend arm1 = 1
          · rw [hb1] at KQ
            have HI := hid (Sh.put_io KQ.out.at'.blk m (bs PB))
            have hpos : Hid (1 ≤ arm) := hid (by
              have h1 := HL.out.ar
              have h2 : spend arm1 = 1 := hb1
              unfold Sh.spend at h2
              split at h2 <;> omega)
            clear hb1
            go_wp2_with fail
            refine HI.out.mono ?_
            rintro e w10 ⟨rfl, rfl⟩
            go_wp2
            go_ret2
            exact ⟨0, 11, h2, 1, S2, rfl, KQ.out.more (by have := hpl.out; omega), CQ.out, Or.inr (Or.inl ⟨rfl, rfl, hpos.out⟩)⟩
          · have hcal2 : Hid (Sh.Calm (spend arm1)) := hid ⟨hb1, hsp⟩
            have HI := hid (HPT.out wq KQ.out hcal2.out)
            have L2 := hid (LN.out (spend (spend arm1)) (fun h0 => by rw [Sh.spend_low h0, Sh.spend_low h0]) (Sh.calm_spend hcal2.out))
            clear hb1
            go_wp2_with fail
            refine HI.out.mono ?_
            rintro e w10 ⟨rfl, hk2, -, hc2⟩
            have K2 := hid hk2
            have C2 := hid (CQ.out.trans hc2)
            clear hk2 hc2
            go_wp2
            go_roundw
            case rel => exact ⟨j, m, m :: ps, F2, h2, _, _, rfl, by go_num, by omega, by have := HM.out; omega, by have := HM.out; have := HHL.out; omega, hid (K2.out.more (by rw [List.length_cons]; omega)), C2, L2⟩
            case measure => simp [intOf]; omega
end Ch
end Go.Proofs.YtoifhcmgeackdaaGreatDoor

/-
  Contract of read: what a cell stands for, and the pages of its chain, or why not.
-/
namespace Go.Proofs.YtoifhcmgeackdaaGreatDoor
open Go.RowKit
namespace Ch
open Num (hid)
open Mem (Bs bs ptr Chg tI tIs wpList_append_run)
open Sp (Hd FB tBld tU8)
open Sh (ShL St spend Two Own)
open No (okC)
/-- What read leaves. -/
def ReadPost (s d N cnt : Nat) (lim : Int) (h : Hd) (arm : Int) (S : St) (w0 w : World) (c : No.C) (e : Ending) (w' : World) : Prop :=
  ∃ (val : Bs) (pg : List Int) (er : Int) (v : Value) (arm' : Int), e = .returned (.tuple #[.string (bs val), v, .int .i64 er]) ∧ ShL s d N cnt lim h arm' S w0 w' ∧ Chg (Two s d) w w' ∧ Own s d N tI w' v pg.length (ints pg) ∧ (∀ g, v.ownBlock = some g → w.heap.size ≤ g) ∧ (arm < 1 → arm' = arm) ∧ arm' ≤ 1000 ∧ (((val, pg), er) = valM S.f c ∨ (1 ≤ arm ∧ val = [] ∧ pg = [] ∧ er = 11 ∧ okC c = true ∧ 40 < c.z))
/-- How many elements a slice has. -/
def lenOf : Value → Nat
  | .slice _ n _ => n
  | _ => 0
theorem own_nil (s d N : Nat) (w : World) : Own s d N tI w (.slice none 0 0) ([] : List Int).length (ints []) := ⟨World.ownsRow_nil w 0 tI 1, fun g hg => by simp [Value.ownBlock] at hg⟩
theorem nil_new {B : Nat} : ∀ g, (Value.slice none 0 0).ownBlock = some g → B ≤ g := fun g hg => by simp [Value.ownBlock] at hg
variable {s d N cnt : Nat} {lim : Int} {h : Hd} {arm : Int} {S : St} {w0 w : World} {c : No.C}
theorem Rd.start (k : ShL s d N cnt lim h arm S w0 w) (hN : N ≤ w.heap.size) (c : No.C) {w1 : World} (hb : Below (w.heap.size + 1) (w.alloc (cO c)) w1) :
    Rd s d N cnt lim h arm S w0 w.heap.size w1.heap.size w.heap.size c (.slice none 0 0) [] [] (w1.alloc (.cells #[.pointer none, .slice none 0 0] tBld)) := by
  have e1 : (w.alloc (cO c)).heap.size = w.heap.size + 1 := by simp
  have hb' : Below (w.alloc (cO c)).heap.size (w.alloc (cO c)) w1 := by rw [e1]; exact hb
  have hs := hb.size
  rw [e1] at hs
  have k1 := (k.kept ((Below.refl w.heap.size w).alloc (Nat.le_refl _) (cO c))).kept hb'
  have k2 := k1.kept ((Below.refl w1.heap.size w1).alloc (Nat.le_refl _) (.cells #[.pointer none, .slice none 0 0] tBld))
  have l1 := k.at'.lt
  refine ⟨k2, own_nil s d N _, nil_new, FB.fresh w1, ?_, ⟨by omega, by omega, by omega, by omega, by omega⟩, Nat.le_refl _, hN, l1.1, l1.2⟩
  exact Mem.blk_alloc ((hb'.block _ (by rw [e1]; omega)).trans (Mem.blk_new w (cO c))) _
set_option maxRecDepth 100000 in
set_option maxHeartbeats 8000000 in
theorem read_any (k : ShL s d N cnt lim h arm S w0 w) (ham : arm ≤ 1000) (c : No.C) :
    Calls Tryz.prog 122 #[pV s, cV c] w (ReadPost s d N cnt lim h arm S w0 w c) := by
  have K := hid k
  have hN : Hid (N ≤ w.heap.size) := hid k.size
  have hA1 : Below w.heap.size w (w.alloc (cO c)) := (Below.refl w.heap.size w).alloc (Nat.le_refl _) _
  have HA1 := hid hA1
  have hbx := Mem.blk_new w (cO c)
  have HG := hid (fun w => isgood_any c w)
  have c0 := Mem.blk_cell hbx 0
  have c1 := Mem.blk_cell hbx 1
  have c2 := Mem.blk_cell hbx 2
  have HBX := hid hbx
  have e1 : Hid ((w.alloc (cO c)).heap.size = w.heap.size + 1) := hid (by simp)
  have HAM := hid ham
  clear k hA1 hbx ham
  cases hok : okC c with
  | false =>
    rw [hok] at HG
    have HV : Hid (valM S.f c = (([], []), 1)) := hid (if_neg (by rw [hok]; decide))
    clear hok
    go_enter Tryz.func122, Tryz.ntmps122
    go_wp2_with fail
    refine (HG.out _).mono ?_
    rintro e w1 ⟨rfl, hb⟩
    have B1 := hid (HA1.out.trans (hb.mono HA1.out.size))
    clear hb
    go_wp2
    go_ret3
    exact ⟨[], [], 1, _, arm, rfl, K.out.kept B1.out, Chg.of_below B1.out, own_nil s d N _, nil_new, fun _ => rfl, HAM.out, Or.inl HV.out.symm⟩
  | true =>
    rw [hok] at HG
    have HOK := hid hok
    have HI := hid (fun w => inline_any c.z w)
    by_cases hz : c.z ≤ 40
    · have HV : Hid (valM S.f c = ((c.d, []), 0)) := hid (by unfold valM; rw [if_pos hok, if_pos hz])
      rw [decide_eq_true hz] at HI
      have hdl : (bs c.d).size ≤ 281474976710656 := by
        rw [Sp.bs_size]
        rcases (No.okC_ways hok).2.2 with ⟨_, h2, _⟩ | ⟨_, h2, _⟩
        · omega
        · rw [h2]; simp
      have HC := hid (fun w => No.clone_any (bs c.d) w hdl)
      clear hok hz hdl
      go_enter Tryz.func122, Tryz.ntmps122
      go_wp2_with fail
      refine (HG.out _).mono ?_
      rintro e w1 ⟨rfl, hb⟩
      have B1 := hid (HA1.out.trans (hb.mono HA1.out.size))
      have hbx1 := (hb.block _ (lt_of_block HBX.out)).trans HBX.out
      clear hb c0 c1 c2
      have c0 := Mem.blk_cell hbx1 0
      have c1 := Mem.blk_cell hbx1 1
      have c2 := Mem.blk_cell hbx1 2
      clear hbx1
      go_wp2_with fail
      refine (HI.out _).mono ?_
      rintro e w2 ⟨rfl, rfl⟩
      go_wp2_with fail
      refine (HC.out _).mono ?_
      rintro e w2 ⟨rfl, hb⟩
      have B2 := hid (B1.out.trans (hb.mono B1.out.size))
      clear hb c0 c1 c2
      go_wp2
      go_ret3
      exact ⟨c.d, [], 0, _, arm, rfl, K.out.kept B2.out, Chg.of_below B2.out, own_nil s d N _, nil_new, fun _ => rfl, HAM.out, Or.inl HV.out.symm⟩
    · have HV : Hid (valM S.f c = rdM S.f 23 c.p c.z.toNat [] []) := hid (by unfold valM; rw [if_pos hok, if_neg hz])
      rw [decide_eq_false hz] at HI
      have hw := No.okC_ways hok
      have hp : Hid (1 ≤ c.p ∧ c.p < 4096 ∧ 40 < c.z ∧ c.z ≤ 5000) := hid (by
        rcases hw.2.2 with ⟨h1, _⟩ | ⟨h1, h2, h3, h4⟩
        · omega
        · exact ⟨h3, h4, h1, hw.2.1⟩)
      obtain ⟨z, hzn⟩ : ∃ z : Nat, c.z = (z : Int) := ⟨c.z.toNat, by omega⟩
      have HZN := hid hzn
      rw [hzn, Int.toNat_natCast] at HV
      clear hok hz hw hzn
      go_enter Tryz.func122, Tryz.ntmps122
      go_wp2_with fail
      refine (HG.out _).mono ?_
      rintro e w1 ⟨rfl, hb⟩
      have RS := hid (Rd.start K.out hN.out c (w1 := w1) (by rw [← e1.out]; exact hb))
      have CS : Hid (Chg (Two s d) w (w1.alloc (.cells #[.pointer none, .slice none 0 0] tBld))) := hid ((Chg.of_below (HA1.out.trans (hb.mono HA1.out.size))).alloc _)
      have hbx1 := (hb.block _ (lt_of_block HBX.out)).trans HBX.out
      clear hb c0 c1 c2
      have c0 := Mem.blk_cell hbx1 0
      have c1 := Mem.blk_cell hbx1 1
      have c2 := Mem.blk_cell hbx1 2
      clear hbx1
      go_wp2_with fail
      refine (HI.out _).mono ?_
      rintro e w2 ⟨rfl, rfl⟩
      clear c0 c1 c2
      obtain ⟨c0, c1, c2⟩ := RS.out.cells
      go_upto_region 7 with fail
      generalize w1.alloc (.cells #[.pointer none, .slice none 0 0] tBld) = w2 at *
      generalize w1.heap.size = b at *
      clear c0 c1 HG HI HA1 HBX e1
      have hp1 := hp.out
      go_wp2_with fail
      go_loopw [8, 9] (fun pv nv wr => ∃ (m : Nat) (n : Int) (acc : Bs) (pg : List Int) (arm1 : Int), nv = .int .i64 n ∧ m ≤ 23 ∧ 0 ≤ n ∧ n < 4294967296 ∧ Hid (acc.length ≤ z ∧ z - acc.length ≤ 227 * m ∧ pg.length + m = 23) ∧ Hid (rdM S.f m n (z - acc.length) acc pg = rdM S.f 23 c.p z [] []) ∧ Hid (Rd s d N cnt lim h arm1 S w0 w.heap.size b w.heap.size c pv pg acc wr) ∧ Hid (Chg (Two s d) w wr) ∧ Hid ((arm < 1 → arm1 = arm) ∧ arm1 ≤ 1000)) (fun pv _ _ => 5000 - lenOf pv)
      case atStart => exact ⟨23, c.p, [], [], arm, rfl, Nat.le_refl _, by omega, by omega, hid (by have := HZN.out; exact ⟨Nat.zero_le _, by simp; omega, by simp⟩), hid rfl, RS, CS, hid ⟨fun _ => rfl, HAM.out⟩⟩
      case round =>
        obtain ⟨m, n, acc, pg, arm1, rfl, hm, hn0, hn1, HB, HRD, R1, C1, HA⟩ := hrel
        obtain ⟨ao, cap, rfl, -⟩ := Mem.row_shape R1.out.own.row
        by_cases hlt : acc.length < z
        · have hlz : (acc.length : Int) < c.z := by have := HZN.out; omega
          go_upto_region 8 with fail
          refine No.wp_quiet_in (fun wx => Below wr.heap.size wr wx) (by kernel_rfl) (by kernel_rfl) (Below.refl _ wr).drew ?_
          go_big_quiet_want
          go_big_quiet_op
          refine ⟨.int .i64 (acc.length : Int), fun wx hx => ?_, ?_⟩
          · refine (flen_any _ acc wx (R1.out.on hx).fb).mono ?_
            rintro e w9 ⟨rfl, rfl⟩
            exact ⟨rfl, hx⟩
          go_big_quiet_on
          go_big_quiet_want
          go_big_quiet_op
          refine ⟨.pointer (some ⟨w.heap.size, 0, none⟩), fun wx hx => ?_, ?_⟩
          · first | rfl | simp [go_sem]
          go_big_quiet_on
          go_big_quiet_want
          go_big_quiet_op
          refine ⟨.int .i64 c.z, fun wx hx => ?_, ?_⟩
          · have c0 := (R1.out.on hx).cells.1
            simp [go_sem, c0]
          go_big_quiet_on
          go_big_quiet_want
          go_big_quiet_op
          refine ⟨.bool true, fun wx hx => ?_, ?_⟩
          · simp [go_sem]
          go_big_quiet_on
          refine wpQuiet_nil ?_
          intro wq hq
          have R2 := hid (R1.out.on hq)
          have C2 := hid (C1.out.trans (Chg.of_below hq))
          clear hq
          by_cases ha1 : arm1 = 1
          · subst ha1
            have HI := hid (Sh.get_io R2.out.sh.at'.blk n)
            have hpos : Hid (1 ≤ arm) := hid (by have := HA.out.1; omega)
            go_wp2_with fail
            refine HI.out.mono ?_
            rintro e w3 ⟨rfl, rfl⟩
            go_wp2
            go_ret3
            exact ⟨[], [], 11, _, 1, rfl, R2.out.sh, C2.out, own_nil s d N _, nil_new, by have := hpos.out; omega, by decide, Or.inr ⟨hpos.out, rfl, rfl, rfl, HOK.out, by have := hp.out; omega⟩⟩
          · have hcalm : Hid (Sh.Calm arm1) := hid ⟨ha1, HA.out.2⟩
            have HI := hid (R2.out.sh.getA hcalm.out (n := n) (Sh.wf_of (by omega) (by omega)))
            have HA2 : Hid ((arm < 1 → spend arm1 = arm) ∧ spend arm1 ≤ 1000) := hid ⟨fun h0 => by have h1 := HA.out.1 h0; rw [h1, Sh.spend_low h0], Sh.calm_spend hcalm.out⟩
            obtain ⟨m', rfl⟩ : ∃ m', m = m' + 1 := ⟨m - 1, by have := HB.out; omega⟩
            have hz0 : z - acc.length ≠ 0 := by omega
            cases hf : S.f n with
            | none =>
              rw [Sh.get_no hf] at HI
              have HV2 : Hid (valM S.f c = (([], []), 21)) := hid (by rw [HV.out, ← HRD.out]; exact rd_no hz0 hf)
              clear hf hz0 ha1
              go_wp2_with fail
              refine HI.out.mono ?_
              rintro e w3 ⟨rfl, hk3, hc3⟩
              have K3 := hid hk3
              have C3 := hid (C2.out.trans hc3)
              clear hk3 hc3
              go_wp2
              go_ret3
              exact ⟨[], [], 21, _, _, rfl, K3.out, C3.out, own_nil s d N _, nil_new, HA2.out.1, HA2.out.2, Or.inl HV2.out.symm⟩
            | some x =>
              rw [Sh.get_yes hf] at HI
              have HPO := hid (fun w => partof_any x (z - acc.length) (by omega) (by have := hp.out; have := HZN.out; omega) w)
              have hsub : IntKind.i64.wrap (c.z - (acc.length : Int)) = ((z - acc.length : Nat) : Int) := by rw [IntKind.wrap_i64]; have := hp.out; have := HZN.out; omega
              cases hpm : partM x (z - acc.length) with
              | none =>
                rw [hpm] at HPO
                have HV2 : Hid (valM S.f c = (([], []), 30)) := hid (by rw [HV.out, ← HRD.out]; exact rd_bad hz0 hf hpm)
                clear hf hz0 ha1 hpm
                go_wp2_with fail
                refine HI.out.mono ?_
                rintro e w3 ⟨rfl, hk3, hc3⟩
                have R3 := hid (R2.out.asked hk3 hc3)
                have C3 := hid (C2.out.trans hc3)
                clear hk3 hc3
                unfold partV at HPO
                simp only at HPO
                go_upto_region 12 with fail
                refine No.wp_quiet_in (fun wx => Below w3.heap.size w3 wx) (by kernel_rfl) (by kernel_rfl) (Below.refl _ w3).drew ?_
                go_big_quiet_want
                go_big_quiet_op
                go_big_quiet_on
                go_big_quiet_want
                go_big_quiet_op
                refine ⟨.pointer (some ⟨w.heap.size, 0, none⟩), fun wx hx => ?_, ?_⟩
                · first | rfl | simp [go_sem]
                go_big_quiet_on
                go_big_quiet_want
                go_big_quiet_op
                refine ⟨.int .i64 c.z, fun wx hx => ?_, ?_⟩
                · have c0 := (R3.out.on hx).cells.1
                  simp [go_sem, c0]
                go_big_quiet_on
                go_big_quiet_want
                go_big_quiet_op
                refine ⟨.int .i64 (acc.length : Int), fun wx hx => ?_, ?_⟩
                · refine (flen_any _ acc wx (R3.out.on hx).fb).mono ?_
                  rintro e w9 ⟨rfl, rfl⟩
                  exact ⟨rfl, hx⟩
                go_big_quiet_on
                go_big_quiet_want
                go_big_quiet_op
                refine ⟨.int .i64 ((z - acc.length : Nat) : Int), fun wx hx => ?_, ?_⟩
                · simp [go_sem]
                go_big_quiet_on
                go_big_quiet_want
                go_big_quiet_op
                refine ⟨.tuple #[.string ⟨#[]⟩, .int .i64 0, .bool false], fun wx hx => ?_, ?_⟩
                · refine (HPO.out wx).mono ?_
                  rintro e w9 ⟨rfl, hb9⟩
                  exact ⟨rfl, hx.trans (hb9.mono hx.size)⟩
                go_big_quiet_on
                go_big_quiet_want
                go_big_quiet_op
                go_big_quiet_on
                go_big_quiet_want
                go_big_quiet_op
                refine ⟨.string ⟨#[]⟩, fun wx hx => ?_, ?_⟩
                · first | rfl | simp [go_sem]
                go_big_quiet_on
                go_big_quiet_want
                go_big_quiet_op
                refine ⟨.int .i64 0, fun wx hx => ?_, ?_⟩
                · first | rfl | simp [go_sem]
                go_big_quiet_on
                go_big_quiet_want
                go_big_quiet_op
                refine ⟨.bool false, fun wx hx => ?_, ?_⟩
                · first | rfl | simp [go_sem]
                go_big_quiet_on
                go_big_quiet_want
                go_big_quiet_op
                go_big_quiet_on
                go_big_quiet_want
                go_big_quiet_op
                go_big_quiet_on
                go_big_quiet_want
                go_big_quiet_op
                go_big_quiet_on
                refine wpQuiet_nil ?_
                intro wq2 hq2
                have R4 := hid (R3.out.on hq2)
                have C4 := hid (C3.out.trans (Chg.of_below hq2))
                clear hq2
                go_wp2
                go_ret3
                exact ⟨[], [], 30, _, _, rfl, R4.out.sh, C4.out, own_nil s d N _, nil_new, HA2.out.1, HA2.out.2, Or.inl HV2.out.symm⟩
              | some q =>
                obtain ⟨q, nx⟩ := q
                rw [hpm] at HPO
                have hql := part_len hpm
                have HRD2 : Hid (rdM S.f m' nx (z - (acc ++ q).length) (acc ++ q) (pg ++ [n]) = rdM S.f 23 c.p z [] []) := hid (by
                  rw [← HRD.out, rd_next hz0 hf hpm, List.length_append]
                  congr 1
                  omega)
                have HB2 : Hid ((acc ++ q).length ≤ z ∧ z - (acc ++ q).length ≤ 227 * m' ∧ (pg ++ [n]).length + m' = 23) := hid (by
                  have := HB.out
                  rw [List.length_append, List.length_append, List.length_singleton]
                  omega)
                have hqx := hql.2
                have hq5 : Hid (acc.length + q.length ≤ 10000) := hid (by have := hp.out; have := HZN.out; omega)
                clear hf hz0 ha1 hpm hql
                go_wp2_with fail
                refine HI.out.mono ?_
                rintro e w3 ⟨rfl, hk3, hc3⟩
                have R3 := hid (R2.out.asked hk3 hc3)
                have C3 := hid (C2.out.trans hc3)
                clear hk3 hc3
                unfold partV at HPO
                simp only at HPO
                go_upto_region 12 with fail
                refine No.wp_quiet_in (fun wx => Below w3.heap.size w3 wx) (by kernel_rfl) (by kernel_rfl) (Below.refl _ w3).drew ?_
                go_big_quiet_want
                go_big_quiet_op
                go_big_quiet_on
                go_big_quiet_want
                go_big_quiet_op
                refine ⟨.pointer (some ⟨w.heap.size, 0, none⟩), fun wx hx => ?_, ?_⟩
                · first | rfl | simp [go_sem]
                go_big_quiet_on
                go_big_quiet_want
                go_big_quiet_op
                refine ⟨.int .i64 c.z, fun wx hx => ?_, ?_⟩
                · have c0 := (R3.out.on hx).cells.1
                  simp [go_sem, c0]
                go_big_quiet_on
                go_big_quiet_want
                go_big_quiet_op
                refine ⟨.int .i64 (acc.length : Int), fun wx hx => ?_, ?_⟩
                · refine (flen_any _ acc wx (R3.out.on hx).fb).mono ?_
                  rintro e w9 ⟨rfl, rfl⟩
                  exact ⟨rfl, hx⟩
                go_big_quiet_on
                go_big_quiet_want
                go_big_quiet_op
                refine ⟨.int .i64 ((z - acc.length : Nat) : Int), fun wx hx => ?_, ?_⟩
                · simp [go_sem]
                go_big_quiet_on
                go_big_quiet_want
                go_big_quiet_op
                refine ⟨.tuple #[.string (bs q), .int .i64 nx, .bool true], fun wx hx => ?_, ?_⟩
                · refine (HPO.out wx).mono ?_
                  rintro e w9 ⟨rfl, hb9⟩
                  exact ⟨rfl, hx.trans (hb9.mono hx.size)⟩
                go_big_quiet_on
                go_big_quiet_want
                go_big_quiet_op
                go_big_quiet_on
                go_big_quiet_want
                go_big_quiet_op
                refine ⟨.string (bs q), fun wx hx => ?_, ?_⟩
                · first | rfl | simp [go_sem]
                go_big_quiet_on
                go_big_quiet_want
                go_big_quiet_op
                refine ⟨.int .i64 nx, fun wx hx => ?_, ?_⟩
                · first | rfl | simp [go_sem]
                go_big_quiet_on
                go_big_quiet_want
                go_big_quiet_op
                refine ⟨.bool true, fun wx hx => ?_, ?_⟩
                · first | rfl | simp [go_sem]
                go_big_quiet_on
                go_big_quiet_want
                go_big_quiet_op
                go_big_quiet_on
                go_big_quiet_want
                go_big_quiet_op
                go_big_quiet_on
                go_big_quiet_want
                go_big_quiet_op
                go_big_quiet_on
                refine wpQuiet_nil ?_
                intro wq2 hq2
                have R4 := hid (R3.out.on hq2)
                have C4 := hid (C3.out.trans (Chg.of_below hq2))
                have HW := hid (Sp.fstr_any b acc q wq2 R4.out.fb (by have := hq5.out; omega) (Nat.le_of_lt (fb_lt R4.out.fb)))
                clear hq2
                go_wp2_with fail
                refine HW.out.mono ?_
                rintro e w5 ⟨rfl, hfb, hbl, hot⟩
                have R5 := hid (R4.out.wrote hfb hbl hot)
                have C5 : Hid (Chg (Two s d) w w5) := hid (C4.out.then (G := fun k => b ≤ k) (chg_up hbl) (fun i hi hG => Or.inl (by have := R4.out.ap; omega)))
                clear hfb hbl hot HW
                obtain ⟨v6, w6, hr6, R6'⟩ := R5.out.push n (by have := HB.out; omega)
                have HR6 := hid hr6
                have R6 := hid R6'
                have C6 : Hid (Chg (Two s d) w w6) := hid (C5.out.then (G := fun k => w.heap.size ≤ k) (push_chg R5.out.own (by have := HB.out; omega) R5.out.new hr6) (fun i hi hG => Or.inl hG))
                obtain ⟨ao6, cap6, e6, -⟩ := Mem.row_shape R6'.own.row
                subst e6
                have hml : lenOf (.slice ao6 (pg ++ [n]).length cap6) = pg.length + 1 := by show (pg ++ [n]).length = _; simp
                have hml0 : lenOf (.slice ao pg.length cap) = pg.length := rfl
                have HML := hid (And.intro hml hml0)
                have hpl : Hid (pg.length ≤ 23) := hid (by have := HB.out; omega)
                clear hr6 R6' hml hml0
                generalize Value.slice ao6 (pg ++ [n]).length cap6 = v6 at *
                generalize pg ++ [n] = pg6 at *
                generalize acc ++ q = acc6 at *
                go_wp2_with (at_builtin; refine wpList_append_run rfl (.tmp 53) (.tmp 55) tIs tIs rfl _ _ (by simp [Act.eval]) (by simp [Act.eval]) HR6.out ?_)
                go_roundw
                case rel => exact ⟨m', nx, acc6, pg6, _, rfl, by omega, by omega, by omega, HB2, HRD2, R6, C6, HA2⟩
                case measure => have := HML.out; have := hpl.out; omega
        · have HV2 : Hid (valM S.f c = ((acc, pg), 0)) := hid (by
            rw [HV.out, ← HRD.out]
            have : z - acc.length = 0 := by omega
            rw [this]
            exact rd_done _ _ _ _ _)
          have hlz : ¬ (acc.length : Int) < c.z := by have := HZN.out; omega
          go_upto_region 8 with fail
          refine No.wp_quiet_in (fun wx => Below wr.heap.size wr wx) (by kernel_rfl) (by kernel_rfl) (Below.refl _ wr).drew ?_
          go_big_quiet_want
          go_big_quiet_op
          refine ⟨.int .i64 (acc.length : Int), fun wx hx => ?_, ?_⟩
          · refine (flen_any _ acc wx (R1.out.on hx).fb).mono ?_
            rintro e w9 ⟨rfl, rfl⟩
            exact ⟨rfl, hx⟩
          go_big_quiet_on
          go_big_quiet_want
          go_big_quiet_op
          refine ⟨.pointer (some ⟨w.heap.size, 0, none⟩), fun wx hx => ?_, ?_⟩
          · first | rfl | simp [go_sem]
          go_big_quiet_on
          go_big_quiet_want
          go_big_quiet_op
          refine ⟨.int .i64 c.z, fun wx hx => ?_, ?_⟩
          · have c0 := (R1.out.on hx).cells.1
            simp [go_sem, c0]
          go_big_quiet_on
          go_big_quiet_want
          go_big_quiet_op
          refine ⟨.bool false, fun wx hx => ?_, ?_⟩
          · simp [go_sem]
          go_big_quiet_on
          refine wpQuiet_nil ?_
          intro wq hq
          have R2 := hid (R1.out.on hq)
          have C2 := hid (C1.out.trans (Chg.of_below hq))
          have HE := hid (fendk_any b acc wq R2.out.fb (Nat.le_of_lt (fb_lt R2.out.fb)))
          clear hq
          go_wp2_with fail
          refine HE.out.mono ?_
          rintro e w5 ⟨rfl, hfb, hbl, hot⟩
          have R5 := hid (R2.out.wrote hfb hbl hot)
          have C5 : Hid (Chg (Two s d) w w5) := hid (C2.out.then (G := fun k => b ≤ k) (chg_up hbl) (fun i hi hG => Or.inl (by have := R2.out.ap; omega)))
          clear hfb hbl hot HE
          go_wp2
          go_ret3
          exact ⟨acc, pg, 0, _, arm1, rfl, R5.out.sh, C5.out, R5.out.own, R5.out.new, HA.out.1, HA.out.2, Or.inl HV2.out.symm⟩
end Ch
end Go.Proofs.YtoifhcmgeackdaaGreatDoor
