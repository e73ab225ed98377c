/-
  ChainLays: the walk of the statement.
-/
import Derived.Test.YtkoglikaaehhjaaGreatDoorChainReadsW
namespace Go.Proofs.YtkoglikaaehhjaaGreatDoor
open Go.RowKit
namespace Rf
open Sp (Hd hV Book getB putB zeros zeros_len)
open Num (hid)
open Mem (Bs bs tI tIs tS Chg ptr)
open Sh (ShL St Two Own h1 S0 Inv Dom)
open Ch (Pf ints cV cO pV valM tC CellOf Bx)
/-- The project's shelf, and the first cell's box. -/
structure Kl (s d N cnt g : Nat) (c : No.C) (h : Hd) (S : St) (w0 w : World) : Prop where
  sh : ShL s d N cnt 100 h 0 S w0 w
  bx : Bx s d g c w
theorem Kl.on {s d N cnt g : Nat} {c : No.C} {h : Hd} {S : St} {w0 w w' : World} (k : Kl s d N cnt g c h S w0 w) (hb : Below w.heap.size w w') : Kl s d N cnt g c h S w0 w' := ⟨k.sh.kept hb, k.bx.on hb⟩
theorem RAt.hole {N : Nat → Prop} {r b : Nat} {lim : Int} {h : Hd} {B : Book} {w : World} (A : RAt N r b lim h B w) (o : Obj) : RAt (fun k => N k ∧ k ≠ w.heap.size) r b lim h B (w.alloc o) := by
  have hb : Below w.heap.size w (w.alloc o) := (Below.refl w.heap.size w).alloc (Nat.le_refl _) o
  have hl := A.lt
  have h2 : Sp.BookR (Bk (fun k => N k ∧ k ≠ w.heap.size) r) w b B := A.book.mono (fun g hg e => ⟨⟨e.1, by omega⟩, e.2⟩)
  exact ⟨(hb.block _ hl.1).trans A.blk, h2.on hb, ⟨A.nr, by omega⟩, A.len, A.cnt, fun k hk => ⟨A.up k (by simp at hk; omega), by simp at hk; omega⟩⟩
/-- What the loop carries: the pages below i stand on both. -/
structure Lb (s d N r b gh g : Nat) (Q : Nat → Prop) (w0 w : World) (i : Nat) (c : No.C) (h3 : Hd) (S3 : St) (hr : Hd) (B : Book) : Prop where
  kl : Kl s d N 2000 g c h3 S3 w0 w
  rf : RAt Q r b 100 hr B w
  hb : Sp.Hb gh h3 w
  hp : hr.pages = (i : Int) ∧ hr.spare = 0
  cn : B.length ≤ 2 * i
  eq : ∀ n : Int, n < (i : Int) → S3.f n = pf hr B n
  ap : ∀ k, Q k → N ≤ k ∧ k ≠ s ∧ k ≠ d ∧ k ≠ g ∧ k ≠ gh
  ne : gh ≠ s ∧ gh ≠ d ∧ gh ≠ g
variable {s d N r b gh g i : Nat} {Q : Nat → Prop} {w0 w w' : World} {c : No.C} {h3 hr : Hd} {S3 : St} {B : Book}
theorem Lb.on (k : Lb s d N r b gh g Q w0 w i c h3 S3 hr B) (hb : Below w.heap.size w w') : Lb s d N r b gh g Q w0 w' i c h3 S3 hr B := ⟨k.kl.on hb, k.rf.on hb, k.hb.on hb, k.hp, k.cn, k.eq, k.ap, k.ne⟩
theorem Kl.beside {cnt : Nat} {h : Hd} {S : St} (k : Kl s d N cnt g c h S w0 w) (hc : Chg Q w w') (ap : ∀ k, Q k → N ≤ k ∧ k ≠ s ∧ k ≠ d ∧ k ≠ g ∧ k ≠ gh) : Kl s d N cnt g c h S w0 w' :=
  ⟨k.sh.beside hc (fun j hj => ⟨(ap j hj).1, (ap j hj).2.1, (ap j hj).2.2.1⟩), ⟨hc.at k.bx.blk (fun e => (ap g e).2.2.2.1 rfl), k.bx.ne⟩⟩
theorem Lb.turned {hr' : Hd} {B' : Book} (k : Lb s d N r b gh g Q w0 w i c h3 S3 hr B) (A : RAt Q r b 100 hr' B' w') (hc : Chg Q w w') : Kl s d N 2000 g c h3 S3 w0 w' ∧ Sp.Hb gh h3 w' ∧ RAt Q r b 100 hr' B' w' :=
  ⟨k.kl.beside hc k.ap, k.hb.at hc (fun e => (k.ap gh e).2.2.2.2 rfl), A⟩
theorem Lb.next {w1 w2 : World} {tp : Bs} (k : Lb s d N r b gh g Q w0 w i c h3 S3 hr B) (hi : 1 ≤ i) (kl : Kl s d N 2000 g c h3 S3 w0 w1) (hb : Sp.Hb gh h3 w1) (A : RAt Q r b 100 (more1 hr) (putB (putB B hr.pages (zeros 232)) (i : Int) tp) w2) (hc : Chg Q w1 w2) (ht : S3.f (i : Int) = some tp) :
    Lb s d N r b gh g Q w0 w2 (i + 1) c h3 S3 (more1 hr) (putB (putB B hr.pages (zeros 232)) (i : Int) tp) := by
  have hp := k.hp
  have l1 := Sp.put_len hr.pages (zeros 232) B
  have l2 := Sp.put_len (i : Int) tp (putB B hr.pages (zeros 232))
  have hcn := k.cn
  have hm1 : (more1 hr).pages = hr.pages + 1 := rfl
  refine ⟨kl.beside hc k.ap, A, hb.at hc (fun e => (k.ap gh e).2.2.2.2 rfl), ⟨by show hr.pages + 1 = _; omega, hp.2⟩, by omega, fun n hn => ?_, k.ap, k.ne⟩
  rw [pf_again (hr := more1 hr) ⟨by omega, by omega⟩ n, pf_put (d := zeros 232) rfl (by omega) n]
  by_cases e : n = (i : Int)
  · rw [if_pos e, e]
    exact ht
  · rw [if_neg e, if_neg (by omega)]
    exact k.eq n (by omega)
theorem cell_size {f : Pf} {c : No.C} {v : Bs} {ps : List Int} (h : CellOf f c v ps) : c.z = (v.length : Int) := by
  rcases h with ⟨_, ⟨_, rfl, _⟩ | ⟨_, rfl, _⟩⟩ <;> rfl
set_option maxRecDepth 100000 in
set_option maxHeartbeats 8000000 in
theorem lays_walk (v o : ByteArray) (first : Bool) (hvs : v.size ≤ 140737488351232) (hos : o.size ≤ 140737488351232) (w : World) : Calls Tryz.prog 4 #[.string v, .string o, .bool first] w fun e w' => e = .returned (.bool true) ∧ Below w.heap.size w w' := by
  obtain ⟨lv, hlv⟩ : ∃ l : Bs, v = bs l := ⟨v.data.toList, (Ch.bs_bl v).symm⟩
  obtain ⟨lo, hlo⟩ : ∃ l : Bs, o = bs l := ⟨o.data.toList, (Ch.bs_bl o).symm⟩
  subst hlv hlo
  have hzv := Sp.bs_size lv
  have hzo := Sp.bs_size lo
  have HZV := hid hzv
  have HZO := hid hzo
  have HAW := hid (fun w => Ch.awake_any w)
  by_cases hlong : 5000 < lv.length ∨ 5000 < lo.length
  · have hq : (5000 : Int) < ((bs lv).size : Int) ∨ (¬ (5000 : Int) < ((bs lv).size : Int) ∧ (5000 : Int) < ((bs lo).size : Int)) := by
      by_cases h : 5000 < lv.length
      · exact Or.inl (by omega)
      · exact Or.inr ⟨by omega, by omega⟩
    have hcs : ¬ 9223372036854775807 < (bs lv).size + (bs lo).size := by omega
    have hcat := Sp.bs_append lv lo
    have HLL := hid (show 5000 < (lv ++ lo).length by rw [List.length_append]; omega)
    have HLM := hid (show (lv ++ lo).length ≤ 9223372036854775807 by rw [List.length_append]; omega)
    clear hzv hzo hvs hos hlong
    rcases hq with hq | ⟨hq, hq2⟩
    all_goals
      go_enter Tryz.func4, Tryz.ntmps4
      go_wp2_with fail
      refine (HAW.out _).mono ?_
      rintro e wa ⟨rfl, hb⟩
      have HB := hid hb
      clear hb
      go_wp2_with fail
      refine (ShL.new 2 (by decide) (by decide) HB.out).mono ?_
      rintro e w1 ⟨s, d, rfl, k1⟩
      have HC := hid (Ch.cell_any k1 (by decide) Ch.inv0 (by decide) (by decide) (by decide) (lv ++ lo) HLM.out)
      clear k1
      go_wp2_with fail
      refine HC.out.mono ?_
      rintro e w2 ⟨c, er, h2, arm2, S2, rfl, k2, -, out⟩
      obtain ⟨rfl, rfl, -⟩ := out.long HLL.out
      have BE := hid (k2.be.trans ((((Below.refl w2.heap.size w2).alloc (Nat.le_refl _) (cO Ch.c0))).mono k2.size))
      clear k2 out HC
      dsimp only [cV, cO, Ch.c0] at BE ⊢
      have e0 : bs [] = ⟨#[]⟩ := rfl
      rw [e0] at BE ⊢
      clear e0
      go_wp2
      go_ret
      exact ⟨rfl, BE.out⟩
  · have hq1 : ¬ (5000 : Int) < ((bs lv).size : Int) := by omega
    have hq2 : ¬ (5000 : Int) < ((bs lo).size : Int) := by omega
    have HLV := hid (show lv.length ≤ 5000 by omega)
    have HLO := hid (show lo.length ≤ 5000 by omega)
    clear hzv hzo hvs hos hlong
    go_enter Tryz.func4, Tryz.ntmps4
    go_wp2_with fail
    refine (HAW.out _).mono ?_
    rintro e wa ⟨rfl, hb⟩
    have HB := hid hb
    clear hb
    go_wp2_with fail
    refine (ShL.new 100 (by decide) (by decide) HB.out).mono ?_
    rintro e w1 ⟨s, d, rfl, k1⟩
    have HC := hid (Ch.cell_any k1 (by decide) Ch.inv0 (by decide) (by decide) (by decide) lv (by have := HLV.out; omega))
    clear k1
    go_wp2_with fail
    refine HC.out.mono ?_
    rintro e w2 ⟨c, er, h2, arm2, S2, rfl, k2, -, out⟩
    obtain ⟨rfl, rfl, ps, F2, hcell, inv2, -, hfl2, hpg2, hpl2⟩ := out.ok (by decide) HLV.out (by have := HLV.out; have e1 : h1.pages = 1 := rfl; rw [e1, List.length_nil]; omega)
    have hF2 : F2 = [] := List.length_eq_zero_iff.1 (by simpa using hfl2)
    subst hF2
    have hlen1 := hcell.len
    have HP2 : Hid (h2.pages = 1 + ((Ch.partsN lv.length : Nat) : Int) ∧ Ch.partsN lv.length ≤ 23) := hid (by
      have e1 : h1.pages = 1 := rfl
      refine ⟨by rw [hpg2, e1, List.length_nil, hlen1]; simp, ?_⟩
      have := HLV.out
      unfold Ch.partsN
      split <;> omega)
    obtain ⟨bx, k3⟩ := Bx.new k2 c
    have BX3 := hid bx
    have K3 := hid k3
    have INV2 := hid inv2
    have HC2 := hid hcell
    clear HC k2 out hcell inv2 hfl2 hpg2 hpl2 hlen1 bx k3
    dsimp only [cV]
    go_upto_region 8 with fail
    dsimp only [cO] at BX3 K3
    generalize w2.alloc (.cells #[.int .i64 c.z, .string (bs c.d), .int .i64 c.p] tC) = w3 at *
    generalize w2.heap.size = g10 at *
    have HC := hid (Ch.cell_any K3.out (by decide) INV2.out (by decide) (by have := HP2.out; omega) (by decide) lo (by have := HLO.out; omega))
    go_wp2_with fail
    refine HC.out.mono ?_
    rintro e w4 ⟨c2, er, h4, arm4, S4, rfl, k4, cc4, out⟩
    obtain ⟨rfl, rfl, ps2, F4, hcell, inv4, hs4, hfl4, hpg4, hpl4⟩ := out.ok (by decide) HLO.out (by have := HLO.out; have := HP2.out; rw [List.length_nil]; omega)
    have hF4 : F4 = [] := List.length_eq_zero_iff.1 (by simpa using hfl4)
    subst hF4
    have hlen2 := hcell.len
    have HP4 : Hid (h4.pages = 1 + ((Ch.partsN lv.length : Nat) : Int) + ((Ch.partsN lo.length : Nat) : Int) ∧ Ch.partsN lo.length ≤ 23) := hid (by
      refine ⟨by rw [hpg4, HP2.out.1, List.length_nil, hlen2]; simp, ?_⟩
      have := HLO.out
      unfold Ch.partsN
      split <;> omega)
    have HC4 : Hid (CellOf S4.f c lv ps) := hid (HC2.out.same (fun x hx => hs4 x (by simp [hx])))
    have HD4 := hid hcell
    have INV4 := hid inv4
    obtain ⟨bx2, k5⟩ := Bx.new k4 c2
    have BY5 := hid bx2
    have BX5 := hid ((BX3.out.turned cc4).on ((Below.refl w4.heap.size w4).alloc (Nat.le_refl _) (cO c2)))
    have K5 := hid k5
    have hsz := cell_size HC4.out
    have HSZ : Hid ((c.z != ((bs lv).size : Int)) = false) := hid (by rw [hsz, HZV.out]; simp)
    have hszn := HSZ.out
    have HG := hid (fun w => rgood_any c w)
    rw [HC4.out.ok] at HG
    clear HC k4 out hcell inv4 hs4 hfl4 hpg4 hpl4 hlen2 bx2 k5 cc4 hsz K3 BX3
    dsimp only [cV]
    go_upto_region 9 with fail
    dsimp only [cO] at BX5 BY5 K5
    generalize w4.alloc (.cells #[.int .i64 c2.z, .string (bs c2.d), .int .i64 c2.p] tC) = w5 at *
    generalize w4.heap.size = g12 at *
    obtain ⟨x0, x1, x2⟩ := BX5.out.cells
    go_wp2_with fail
    refine (HG.out _).mono ?_
    rintro e w6 ⟨rfl, hb⟩
    have K6 := hid (K5.out.kept hb)
    have BX6 := hid (BX5.out.on hb)
    have BY6 := hid (BY5.out.on hb)
    clear hb HG x0 x1 x2 K5 BX5 BY5
    obtain ⟨x0, x1, x2⟩ := BX6.out.cells
    obtain ⟨y0, y1, y2⟩ := BY6.out.cells
    have HS1 : Hid (wrap64 (1 + ((Ch.partsN lv.length : Nat) : Int)) = 1 + ((Ch.partsN lv.length : Nat) : Int)) := hid (by rw [Num.wrap_i]; have := HP2.out; omega)
    cases first with
    | true =>
      have hnd : ps2.Nodup := Ch.inv_nodup INV4.out
      have HDIS : Hid (∀ x ∈ ps, x ∉ ps2) := hid (fun x hx e => by
        have h5 := INV4.out.nd
        rw [List.nodup_append, List.nodup_append] at h5
        exact h5.1.2.2 x (by simp [hx]) x (by simp [e]) rfl)
      have HF := hid (Ch.free_any (c := c2) (v := lo) (ps := ps2) (U := [] ++ ps.reverse ++ ps2.reverse) (F := []) K6.out (by decide) (by decide) INV4.out (by have := HP4.out; have := HP2.out; omega) HD4.out hnd (fun x hx => by simp [hx]))
      clear hnd
      go_wp2_with fail
      refine HF.out.mono ?_
      rintro e wf ⟨h3, S3, U3, F3, rfl, k7, cc7, fr⟩
      have KL : Hid (Kl s d w.heap.size 2000 g10 c h3 S3 w wf) := hid ⟨k7.more (by decide), BX6.out.turned cc7⟩
      have DOM : Hid (Dom h3 S3) := hid fr.inv.dom
      have HCF : Hid (CellOf S3.f c lv ps) := hid (HC4.out.same (fun x hx => (fr.st x (by simp [hx]) (by rw [List.take_length]; exact HDIS.out x hx)).2))
      have hp3 : h3.pages = h4.pages := fr.pg
      have HPG : Hid (1 ≤ h3.pages ∧ h3.pages ≤ 50) := hid (by have := HP4.out; have := HP2.out; omega)
      have HS2 : Hid (wrap64 (1 + ((Ch.partsN lv.length : Nat) : Int) + ((Ch.partsN lo.length : Nat) : Int)) = h3.pages) := hid (by rw [Num.wrap_i]; have := HP4.out; have := HP2.out; omega)
      clear k7 cc7 fr hp3 HF x0 x1 x2 y0 y1 y2 K6 BX6 BY6
      go_wp2_with fail
      refine (rnewS_any 100 (by decide) (by decide) wf).mono ?_
      rintro e w8 ⟨r, b, rfl, hA, hb⟩
      have KF := hid (KL.out.on hb)
      have RF := hid hA
      have HH := hid (Sh.head_ok KF.out.sh.at'.blk)
      unfold hV at HH
      clear hA hb
      go_wp2_with fail
      refine HH.out.mono ?_
      rintro e w9 ⟨rfl, hb⟩
      have ba : Below w9.heap.size w9 (w9.alloc (Sp.hObj h3)) := (Below.refl w9.heap.size w9).alloc (Nat.le_refl _) _
      have L0 : Hid (Lb s d w.heap.size r b w9.heap.size g10 (fun k => wf.heap.size ≤ k ∧ k ≠ w9.heap.size) w (w9.alloc (Sp.hObj h3)) 1 c h3 S3 h1 []) := hid (by
        have k9 := (KF.out.on hb)
        have r9 := RF.out.on hb
        refine ⟨k9.on ba, r9.hole _, Sp.Hb.new h3 w9, ⟨rfl, rfl⟩, Nat.zero_le _, fun n hn => ?_, fun k hk => ?_, ?_⟩
        · have e1 : h1.pages = 1 := rfl
          unfold pf
          rw [if_neg (by omega)]
          exact DOM.out.no (Or.inl hn)
        · have h4 := KL.out.sh.at'.lt
          have h5 := KL.out.sh.size
          have h6 := lt_of_block KL.out.bx.blk
          omega
        · have h4 := k9.sh.at'.lt
          have h6 := lt_of_block k9.bx.blk
          omega)
      clear hb ba HH RF KF
      go_upto_region 16 with fail
      generalize w9.alloc (.cells #[.int .i64 h3.mode, .int .i64 h3.pages, .int .i64 h3.trunk, .int .i64 h3.spare, .int .i64 h3.root, .int .u64 (h3.change : Nat)] Sp.tH) = w10 at *
      generalize hQ : (fun k => wf.heap.size ≤ k ∧ k ≠ w9.heap.size) = Q at *
      generalize w9.heap.size = gh at *
      clear hQ
      go_wp2_with fail
      go_loopw [16] (fun iv wr => ∃ (i : Nat) (hr : Hd) (B : Book), iv = .int .i64 (i : Int) ∧ 1 ≤ i ∧ (i : Int) ≤ h3.pages ∧ Hid (Lb s d w.heap.size r b gh g10 Q w wr i c h3 S3 hr B)) (fun iv _ => 100 - (intOf iv).toNat)
      case atStart => exact ⟨1, h1, [], rfl, Nat.le_refl _, by have := HPG.out; omega, L0⟩
      case round =>
        obtain ⟨i, hr, B, rfl, hi1, hi2, HQ⟩ := hrel
        obtain ⟨g0, g1, g2, g3, g4, g5⟩ := HQ.out.hb.cells
        have gl := HQ.out.hb.lt
        by_cases hlt : (i : Int) < h3.pages
        · have hi4 : i ≤ 60 := by have := HPG.out; omega
          obtain ⟨tp, htp⟩ := DOM.out.yes (x := (i : Int)) (by omega) hlt
          have htl := HQ.out.kl.sh.at'.pages.len (i : Int) tp htp
          have HTL := hid htl
          have HTP := hid htp
          have H1 := hid (rnew_any HQ.out.rf (by have := HQ.out.cn; omega) HQ.out.hp.2 (by have := HQ.out.hp.1; omega) (by have := HQ.out.hp.1; omega) (by decide))
          clear htl htp
          go_wp2_with fail
          refine H1.out.mono ?_
          rintro e w11 ⟨rfl, hA, hC⟩
          have K11 := hid (HQ.out.turned hA hC)
          have H2 := hid (K11.out.1.sh.get (by decide) (Sh.wf_of (by omega) (by omega)) HTP.out)
          clear hA hC H1 g0 g1 g2 g3 g4 g5 gl
          go_wp2_with fail
          refine H2.out.mono ?_
          rintro e w12 ⟨rfl, hb⟩
          have RF12 := hid (K11.out.2.2.on hb)
          have HL2 := HQ.out.cn
          have hpl := Sp.put_len hr.pages (zeros 232) B
          have H3 := hid (rput_any RF12.out (by omega) (i : Int) ⟨by omega, by have := HQ.out.hp.1; show (i : Int) < hr.pages + 1; omega⟩ tp HTL.out)
          have K12 := hid (And.intro (K11.out.1.on hb) (K11.out.2.1.on hb))
          clear hb H2 HL2 hpl
          go_wp2_with fail
          refine H3.out.mono ?_
          rintro e w13 ⟨rfl, hA, hC⟩
          have LN := hid (HQ.out.next hi1 K12.out.1 K12.out.2 hA hC HTP.out)
          clear hA hC H3
          go_wp2
          go_roundw
          case rel => exact ⟨i + 1, _, _, by go_num, by omega, by omega, LN⟩
          case measure => simp [intOf]; omega
        · have HFE : Hid (S3.f = pf hr B) := hid (funext fun n => by
            by_cases hn : n < (i : Int)
            · exact HQ.out.eq n hn
            · have h7 : h3.pages ≤ n := by omega
              rw [DOM.out.no (Or.inr h7)]
              unfold pf
              have := HQ.out.hp.1
              rw [if_neg (by omega)])
          obtain ⟨x0, x1, x2⟩ := HQ.out.kl.bx.cells
          have HRV := hid (rvalue_any HQ.out.rf c)
          go_wp2_with fail
          refine HRV.out.mono ?_
          rintro e w14 ⟨val, pg, er, pv, rfl, hb, hpg, hv⟩
          rw [← HFE.out, HCF.out.val] at hv
          simp only [Prod.mk.injEq] at hv
          obtain ⟨⟨rfl, rfl⟩, rfl⟩ := hv
          obtain ⟨ao5, cap5, rfl, -⟩ := pg_cell hpg
          have HQ := hid (HQ.out.on hb)
          have HPS := HCF.out.len
          rw [HPS]
          have HREF := hid (Ch.str_refl (bs val))
          clear hb hpg HRV x0 x1 x2 HPS g0 g1 g2 g3 g4 g5 gl
          go_wp2_with fail
          refine No.wp_quiet_in (fun wx => Below w14.heap.size w14 wx) (by kernel_rfl) (by kernel_rfl) (Below.refl _ w14).drew ?_
          go_big_quiet_want
          go_big_quiet_op
          go_big_quiet_on
          go_big_quiet_want
          go_big_quiet_op
          refine ⟨.bool true, fun wx hx => ?_, ?_⟩
          · first | rfl | simp [go_sem]
          go_big_quiet_on
          go_big_quiet_want
          go_big_quiet_op
          go_big_quiet_on
          go_big_quiet_want
          go_big_quiet_op
          go_big_quiet_on
          go_big_quiet_want
          go_big_quiet_op
          go_big_quiet_on
          go_big_quiet_want
          go_big_quiet_op
          refine ⟨.bool true, fun wx hx => ?_, ?_⟩
          · first | rfl | simp [go_sem]
          go_big_quiet_on
          go_big_quiet_want
          go_big_quiet_op
          refine ⟨.bool true, fun wx hx => ?_, ?_⟩
          · simp [go_sem]
          go_big_quiet_on
          go_big_quiet_want
          go_big_quiet_op
          go_big_quiet_on
          go_big_quiet_want
          go_big_quiet_op
          go_big_quiet_on
          go_big_quiet_want
          go_big_quiet_op
          refine ⟨.int .i64 ((Ch.partsN val.length : Nat) : Int), fun wx hx => ?_, ?_⟩
          · first | rfl | simp [go_sem]
          go_big_quiet_on
          go_big_quiet_want
          go_big_quiet_op
          go_big_quiet_on
          go_big_quiet_want
          go_big_quiet_op
          refine ⟨.int .i64 (val.length : Int), fun wx hx => ?_, ?_⟩
          · have c := HZV.out
            simp [go_sem, c]
          go_big_quiet_on
          go_big_quiet_want
          go_big_quiet_op
          refine ⟨.int .i64 ((Ch.partsN val.length : Nat) : Int), fun wx hx => ?_, ?_⟩
          · have c := parts_any val.length (by have := HLV.out; omega) wx
            refine c.mono ?_
            rintro e w99 ⟨rfl, rfl⟩
            exact ⟨rfl, hx⟩
          go_big_quiet_on
          go_big_quiet_want
          go_big_quiet_op
          refine ⟨.bool true, fun wx hx => ?_, ?_⟩
          · first | rfl | simp [go_sem]
          go_big_quiet_on
          go_big_quiet_want
          go_big_quiet_op
          refine ⟨.bool true, fun wx hx => ?_, ?_⟩
          · simp [go_sem]
          go_big_quiet_on
          go_big_quiet_want
          go_big_quiet_op
          go_big_quiet_on
          go_big_quiet_want
          go_big_quiet_op
          refine ⟨.pointer (some ⟨gh, 1, none⟩), fun wx hx => ?_, ?_⟩
          · first | rfl | simp [go_sem]
          go_big_quiet_on
          go_big_quiet_want
          go_big_quiet_op
          refine ⟨.int .i64 h3.pages, fun wx hx => ?_, ?_⟩
          · have c := (HQ.out.on hx).hb.cells.2.1
            simp [go_sem, c]
          go_big_quiet_on
          go_big_quiet_want
          go_big_quiet_op
          go_big_quiet_on
          go_big_quiet_want
          go_big_quiet_op
          refine ⟨.int .i64 (val.length : Int), fun wx hx => ?_, ?_⟩
          · have c := HZV.out
            simp [go_sem, c]
          go_big_quiet_on
          go_big_quiet_want
          go_big_quiet_op
          refine ⟨.int .i64 ((Ch.partsN val.length : Nat) : Int), fun wx hx => ?_, ?_⟩
          · have c := parts_any val.length (by have := HLV.out; omega) wx
            refine c.mono ?_
            rintro e w99 ⟨rfl, rfl⟩
            exact ⟨rfl, hx⟩
          go_big_quiet_on
          go_big_quiet_want
          go_big_quiet_op
          refine ⟨.int .i64 (1 + ((Ch.partsN val.length : Nat) : Int)), fun wx hx => ?_, ?_⟩
          · have c := HS1.out
            simp [go_sem, c]
          go_big_quiet_on
          go_big_quiet_want
          go_big_quiet_op
          go_big_quiet_on
          go_big_quiet_want
          go_big_quiet_op
          refine ⟨.int .i64 (lo.length : Int), fun wx hx => ?_, ?_⟩
          · have c := HZO.out
            simp [go_sem, c]
          go_big_quiet_on
          go_big_quiet_want
          go_big_quiet_op
          refine ⟨.int .i64 ((Ch.partsN lo.length : Nat) : Int), fun wx hx => ?_, ?_⟩
          · have c := parts_any lo.length (by have := HLO.out; omega) wx
            refine c.mono ?_
            rintro e w99 ⟨rfl, rfl⟩
            exact ⟨rfl, hx⟩
          go_big_quiet_on
          go_big_quiet_want
          go_big_quiet_op
          refine ⟨.int .i64 h3.pages, fun wx hx => ?_, ?_⟩
          · have c := HS2.out
            simp [go_sem, c]
          go_big_quiet_on
          go_big_quiet_want
          go_big_quiet_op
          refine ⟨.bool true, fun wx hx => ?_, ?_⟩
          · first | rfl | simp [go_sem]
          go_big_quiet_on
          go_big_quiet_want
          go_big_quiet_op
          refine ⟨.bool true, fun wx hx => ?_, ?_⟩
          · simp [go_sem]
          go_big_quiet_on
          go_big_quiet_want
          go_big_quiet_op
          go_big_quiet_on
          refine wpQuiet_nil ?_
          intro wq hq
          have HB := hid (HQ.out.on hq).kl.sh.be
          clear hq
          go_wp2
          go_ret
          exact ⟨rfl, HB.out⟩
    | false =>
      have KL : Hid (Kl s d w.heap.size 2000 g10 c h4 S4 w w6) := hid ⟨K6.out.more (by decide), BX6.out⟩
      have DOM : Hid (Dom h4 S4) := hid INV4.out.dom
      have HCF := HC4
      have HPG : Hid (1 ≤ h4.pages ∧ h4.pages ≤ 50) := hid (by have := HP4.out; have := HP2.out; omega)
      have HS2 : Hid (wrap64 (1 + ((Ch.partsN lv.length : Nat) : Int) + ((Ch.partsN lo.length : Nat) : Int)) = h4.pages) := hid (by rw [Num.wrap_i]; have := HP4.out; have := HP2.out; omega)
      clear y0 y1 y2 K6 BX6 BY6
      generalize h4 = h3 at *
      generalize S4 = S3 at *
      generalize w6 = wf at *
      go_wp2_with fail
      refine (rnewS_any 100 (by decide) (by decide) wf).mono ?_
      rintro e w8 ⟨r, b, rfl, hA, hb⟩
      have KF := hid (KL.out.on hb)
      have RF := hid hA
      have HH := hid (Sh.head_ok KF.out.sh.at'.blk)
      unfold hV at HH
      clear hA hb
      go_wp2_with fail
      refine HH.out.mono ?_
      rintro e w9 ⟨rfl, hb⟩
      have ba : Below w9.heap.size w9 (w9.alloc (Sp.hObj h3)) := (Below.refl w9.heap.size w9).alloc (Nat.le_refl _) _
      have L0 : Hid (Lb s d w.heap.size r b w9.heap.size g10 (fun k => wf.heap.size ≤ k ∧ k ≠ w9.heap.size) w (w9.alloc (Sp.hObj h3)) 1 c h3 S3 h1 []) := hid (by
        have k9 := (KF.out.on hb)
        have r9 := RF.out.on hb
        refine ⟨k9.on ba, r9.hole _, Sp.Hb.new h3 w9, ⟨rfl, rfl⟩, Nat.zero_le _, fun n hn => ?_, fun k hk => ?_, ?_⟩
        · have e1 : h1.pages = 1 := rfl
          unfold pf
          rw [if_neg (by omega)]
          exact DOM.out.no (Or.inl hn)
        · have h4 := KL.out.sh.at'.lt
          have h5 := KL.out.sh.size
          have h6 := lt_of_block KL.out.bx.blk
          omega
        · have h4 := k9.sh.at'.lt
          have h6 := lt_of_block k9.bx.blk
          omega)
      clear hb ba HH RF KF
      go_upto_region 16 with fail
      generalize w9.alloc (.cells #[.int .i64 h3.mode, .int .i64 h3.pages, .int .i64 h3.trunk, .int .i64 h3.spare, .int .i64 h3.root, .int .u64 (h3.change : Nat)] Sp.tH) = w10 at *
      generalize hQ : (fun k => wf.heap.size ≤ k ∧ k ≠ w9.heap.size) = Q at *
      generalize w9.heap.size = gh at *
      clear hQ
      go_wp2_with fail
      go_loopw [16] (fun iv wr => ∃ (i : Nat) (hr : Hd) (B : Book), iv = .int .i64 (i : Int) ∧ 1 ≤ i ∧ (i : Int) ≤ h3.pages ∧ Hid (Lb s d w.heap.size r b gh g10 Q w wr i c h3 S3 hr B)) (fun iv _ => 100 - (intOf iv).toNat)
      case atStart => exact ⟨1, h1, [], rfl, Nat.le_refl _, by have := HPG.out; omega, L0⟩
      case round =>
        obtain ⟨i, hr, B, rfl, hi1, hi2, HQ⟩ := hrel
        obtain ⟨g0, g1, g2, g3, g4, g5⟩ := HQ.out.hb.cells
        have gl := HQ.out.hb.lt
        by_cases hlt : (i : Int) < h3.pages
        · have hi4 : i ≤ 60 := by have := HPG.out; omega
          obtain ⟨tp, htp⟩ := DOM.out.yes (x := (i : Int)) (by omega) hlt
          have htl := HQ.out.kl.sh.at'.pages.len (i : Int) tp htp
          have HTL := hid htl
          have HTP := hid htp
          have H1 := hid (rnew_any HQ.out.rf (by have := HQ.out.cn; omega) HQ.out.hp.2 (by have := HQ.out.hp.1; omega) (by have := HQ.out.hp.1; omega) (by decide))
          clear htl htp
          go_wp2_with fail
          refine H1.out.mono ?_
          rintro e w11 ⟨rfl, hA, hC⟩
          have K11 := hid (HQ.out.turned hA hC)
          have H2 := hid (K11.out.1.sh.get (by decide) (Sh.wf_of (by omega) (by omega)) HTP.out)
          clear hA hC H1 g0 g1 g2 g3 g4 g5 gl
          go_wp2_with fail
          refine H2.out.mono ?_
          rintro e w12 ⟨rfl, hb⟩
          have RF12 := hid (K11.out.2.2.on hb)
          have HL2 := HQ.out.cn
          have hpl := Sp.put_len hr.pages (zeros 232) B
          have H3 := hid (rput_any RF12.out (by omega) (i : Int) ⟨by omega, by have := HQ.out.hp.1; show (i : Int) < hr.pages + 1; omega⟩ tp HTL.out)
          have K12 := hid (And.intro (K11.out.1.on hb) (K11.out.2.1.on hb))
          clear hb H2 HL2 hpl
          go_wp2_with fail
          refine H3.out.mono ?_
          rintro e w13 ⟨rfl, hA, hC⟩
          have LN := hid (HQ.out.next hi1 K12.out.1 K12.out.2 hA hC HTP.out)
          clear hA hC H3
          go_wp2
          go_roundw
          case rel => exact ⟨i + 1, _, _, by go_num, by omega, by omega, LN⟩
          case measure => simp [intOf]; omega
        · have HFE : Hid (S3.f = pf hr B) := hid (funext fun n => by
            by_cases hn : n < (i : Int)
            · exact HQ.out.eq n hn
            · have h7 : h3.pages ≤ n := by omega
              rw [DOM.out.no (Or.inr h7)]
              unfold pf
              have := HQ.out.hp.1
              rw [if_neg (by omega)])
          obtain ⟨x0, x1, x2⟩ := HQ.out.kl.bx.cells
          have HRV := hid (rvalue_any HQ.out.rf c)
          go_wp2_with fail
          refine HRV.out.mono ?_
          rintro e w14 ⟨val, pg, er, pv, rfl, hb, hpg, hv⟩
          rw [← HFE.out, HCF.out.val] at hv
          simp only [Prod.mk.injEq] at hv
          obtain ⟨⟨rfl, rfl⟩, rfl⟩ := hv
          obtain ⟨ao5, cap5, rfl, -⟩ := pg_cell hpg
          have HQ := hid (HQ.out.on hb)
          have HPS := HCF.out.len
          rw [HPS]
          have HREF := hid (Ch.str_refl (bs val))
          clear hb hpg HRV x0 x1 x2 HPS g0 g1 g2 g3 g4 g5 gl
          go_wp2_with fail
          refine No.wp_quiet_in (fun wx => Below w14.heap.size w14 wx) (by kernel_rfl) (by kernel_rfl) (Below.refl _ w14).drew ?_
          go_big_quiet_want
          go_big_quiet_op
          go_big_quiet_on
          go_big_quiet_want
          go_big_quiet_op
          refine ⟨.bool true, fun wx hx => ?_, ?_⟩
          · first | rfl | simp [go_sem]
          go_big_quiet_on
          go_big_quiet_want
          go_big_quiet_op
          go_big_quiet_on
          go_big_quiet_want
          go_big_quiet_op
          go_big_quiet_on
          go_big_quiet_want
          go_big_quiet_op
          go_big_quiet_on
          go_big_quiet_want
          go_big_quiet_op
          refine ⟨.bool true, fun wx hx => ?_, ?_⟩
          · first | rfl | simp [go_sem]
          go_big_quiet_on
          go_big_quiet_want
          go_big_quiet_op
          refine ⟨.bool true, fun wx hx => ?_, ?_⟩
          · simp [go_sem]
          go_big_quiet_on
          go_big_quiet_want
          go_big_quiet_op
          go_big_quiet_on
          go_big_quiet_want
          go_big_quiet_op
          go_big_quiet_on
          go_big_quiet_want
          go_big_quiet_op
          refine ⟨.int .i64 ((Ch.partsN val.length : Nat) : Int), fun wx hx => ?_, ?_⟩
          · first | rfl | simp [go_sem]
          go_big_quiet_on
          go_big_quiet_want
          go_big_quiet_op
          go_big_quiet_on
          go_big_quiet_want
          go_big_quiet_op
          refine ⟨.int .i64 (val.length : Int), fun wx hx => ?_, ?_⟩
          · have c := HZV.out
            simp [go_sem, c]
          go_big_quiet_on
          go_big_quiet_want
          go_big_quiet_op
          refine ⟨.int .i64 ((Ch.partsN val.length : Nat) : Int), fun wx hx => ?_, ?_⟩
          · have c := parts_any val.length (by have := HLV.out; omega) wx
            refine c.mono ?_
            rintro e w99 ⟨rfl, rfl⟩
            exact ⟨rfl, hx⟩
          go_big_quiet_on
          go_big_quiet_want
          go_big_quiet_op
          refine ⟨.bool true, fun wx hx => ?_, ?_⟩
          · first | rfl | simp [go_sem]
          go_big_quiet_on
          go_big_quiet_want
          go_big_quiet_op
          refine ⟨.bool true, fun wx hx => ?_, ?_⟩
          · simp [go_sem]
          go_big_quiet_on
          go_big_quiet_want
          go_big_quiet_op
          go_big_quiet_on
          go_big_quiet_want
          go_big_quiet_op
          refine ⟨.pointer (some ⟨gh, 1, none⟩), fun wx hx => ?_, ?_⟩
          · first | rfl | simp [go_sem]
          go_big_quiet_on
          go_big_quiet_want
          go_big_quiet_op
          refine ⟨.int .i64 h3.pages, fun wx hx => ?_, ?_⟩
          · have c := (HQ.out.on hx).hb.cells.2.1
            simp [go_sem, c]
          go_big_quiet_on
          go_big_quiet_want
          go_big_quiet_op
          go_big_quiet_on
          go_big_quiet_want
          go_big_quiet_op
          refine ⟨.int .i64 (val.length : Int), fun wx hx => ?_, ?_⟩
          · have c := HZV.out
            simp [go_sem, c]
          go_big_quiet_on
          go_big_quiet_want
          go_big_quiet_op
          refine ⟨.int .i64 ((Ch.partsN val.length : Nat) : Int), fun wx hx => ?_, ?_⟩
          · have c := parts_any val.length (by have := HLV.out; omega) wx
            refine c.mono ?_
            rintro e w99 ⟨rfl, rfl⟩
            exact ⟨rfl, hx⟩
          go_big_quiet_on
          go_big_quiet_want
          go_big_quiet_op
          refine ⟨.int .i64 (1 + ((Ch.partsN val.length : Nat) : Int)), fun wx hx => ?_, ?_⟩
          · have c := HS1.out
            simp [go_sem, c]
          go_big_quiet_on
          go_big_quiet_want
          go_big_quiet_op
          go_big_quiet_on
          go_big_quiet_want
          go_big_quiet_op
          refine ⟨.int .i64 (lo.length : Int), fun wx hx => ?_, ?_⟩
          · have c := HZO.out
            simp [go_sem, c]
          go_big_quiet_on
          go_big_quiet_want
          go_big_quiet_op
          refine ⟨.int .i64 ((Ch.partsN lo.length : Nat) : Int), fun wx hx => ?_, ?_⟩
          · have c := parts_any lo.length (by have := HLO.out; omega) wx
            refine c.mono ?_
            rintro e w99 ⟨rfl, rfl⟩
            exact ⟨rfl, hx⟩
          go_big_quiet_on
          go_big_quiet_want
          go_big_quiet_op
          refine ⟨.int .i64 h3.pages, fun wx hx => ?_, ?_⟩
          · have c := HS2.out
            simp [go_sem, c]
          go_big_quiet_on
          go_big_quiet_want
          go_big_quiet_op
          refine ⟨.bool true, fun wx hx => ?_, ?_⟩
          · first | rfl | simp [go_sem]
          go_big_quiet_on
          go_big_quiet_want
          go_big_quiet_op
          refine ⟨.bool true, fun wx hx => ?_, ?_⟩
          · simp [go_sem]
          go_big_quiet_on
          go_big_quiet_want
          go_big_quiet_op
          go_big_quiet_on
          refine wpQuiet_nil ?_
          intro wq hq
          have HB := hid (HQ.out.on hq).kl.sh.be
          clear hq
          go_wp2
          go_ret
          exact ⟨rfl, HB.out⟩

end Rf
end Go.Proofs.YtkoglikaaehhjaaGreatDoor
