/-
  ChainBack: the walk of the statement.
-/
import Derived.Test.YtkoglikaaehhjaaGreatDoorChainBackM
namespace Go.Proofs.YtkoglikaaehhjaaGreatDoor
open Go.RowKit
namespace Ch
open Num (hid)
open Mem (Bs bs ptr Chg tI tIs wpList_append_run)
open Sp (Hd hV tH hObj)
open Sh (ShL St Inv Two Own h1 S0 head_ok)
open No (okC)
/-- What the first loop carries. -/
structure B1 (s d : Nat) (w wr : World) (cv : Value) (l : List Bs) (i : Nat) (cl : List No.C) (pss : List (List Int)) (U : List Int) (h : Hd) (S : St) : Prop where
  sh : ShL s d w.heap.size (200 * i) 300 h 0 S w wr
  cs : Cs s d w.heap.size wr cv cl
  inv : Inv h S U []
  many : Many S.f U l cl pss
  pg : h.pages ≤ 1 + 23 * i
  ln : cl.length = i
theorem val_at {w : World} {v : Value} {l : List Bs} (h : No.SAt w v l) : ∃ ao cap, v = .slice ao l.length cap ∧ ∀ j (hj : j < l.length), ∃ b o, ao = some ⟨b, o, none⟩ ∧ ∀ w', Below w.heap.size w w' → w'.cell? ⟨b, o + j, none⟩ = some (.string (bs l[j])) := by
  obtain ⟨ao, cap, h1, h2, h3, h4⟩ := No.SAt.ways1 h
  refine ⟨ao, cap, h1, fun j hj => ?_⟩
  obtain ⟨b, o, e1, e2, e3⟩ := h4 j hj
  exact ⟨b, o, e1, fun w' hb => (hb.cell (p := ⟨b, o + j, none⟩) e2).trans e3⟩
set_option maxRecDepth 100000 in
set_option maxHeartbeats 8000000 in
theorem back_walk {w0 : World} (v0 : Value) (l : List Bs) (a : Int) (hv0 : No.SAt w0 v0 l) (hls : ∀ x ∈ l, x.length ≤ reachBytes) : Calls Tryz.prog 5 #[v0, .int .i64 a] w0 fun e w' => e = .returned (.bool true) ∧ Below w0.heap.size w0 w' := by
  obtain ⟨w, hw⟩ : ∃ w, w = w0 := ⟨_, rfl⟩
  rw [← hw] at hv0 ⊢
  clear hw
  obtain ⟨ao0, cap0, rfl, hval⟩ := val_at hv0
  have HVAL := hid hval
  have HLS : Hid (∀ x ∈ l, x.length ≤ 140737488351232) := hid hls
  have HAW := hid (fun w => awake_any w)
  clear hval hv0 hls
  by_cases hout : 6 < l.length ∨ l.length = 0
  · have hq : ((6 : Int) < (l.length : Int)) ∨ (¬ (6 : Int) < (l.length : Int) ∧ ((l.length : Int) == 0) = true) := by
      rcases hout with h | h
      · exact Or.inl (by omega)
      · exact Or.inr ⟨by omega, by rw [h]; rfl⟩
    rcases hq with hq | ⟨hq, hq2⟩
    all_goals
      go_enter Tryz.func5, Tryz.ntmps5
      go_wp2_with fail
      refine (HAW.out _).mono ?_
      rintro e w1 ⟨rfl, hb⟩
      have HB := hid hb
      clear hb
      go_wp2
      go_ret
      exact ⟨rfl, HB.out⟩
  · have hq : ¬ (6 : Int) < (l.length : Int) := by omega
    have hq2 : ((l.length : Int) == 0) = false := by rw [beq_eq_false_iff_ne]; omega
    have HN : Hid (1 ≤ l.length ∧ l.length ≤ 6) := hid (by omega)
    obtain ⟨nl, hnl⟩ : ∃ nl, nl = l.length := ⟨_, rfl⟩
    have HNL := hid hnl
    rw [← hnl] at hq hq2 ⊢
    clear hout hnl
    go_enter Tryz.func5, Tryz.ntmps5
    go_wp2_with fail
    refine (HAW.out _).mono ?_
    rintro e wa ⟨rfl, hb⟩
    have HB := hid hb
    clear hb
    go_wp2_with fail
    refine (ShL.new 300 (by decide) (by decide) HB.out).mono ?_
    rintro e w1 ⟨s, d, rfl, k1⟩
    have k2 := k1.kept ((Below.refl w1.heap.size w1).alloc (Nat.le_refl _) (.cells #[] tC))
    have B0 : Hid (B1 s d w (w1.alloc (.cells #[] tC)) (.slice (some ⟨w1.heap.size, 0, none⟩) 0 0) l 0 [] [] [] h1 S0) := hid ⟨k2, Cs.start k1, inv0, Many.nil _ _, by decide, rfl⟩
    clear k1 k2
    go_upto_region 7 with fail
    generalize w1.alloc (.cells #[] tC) = w2 at *
    generalize w1.heap.size = gc at *
    go_wp2_with fail
    go_loopw [6, 7] (fun cv iv wr => ∃ (i : Nat) (cl : List No.C) (pss : List (List Int)) (U : List Int) (h : Hd) (S : St), iv = .int .i64 (i : Int) ∧ i ≤ nl ∧ Hid (B1 s d w wr cv l i cl pss U h S)) (fun _ iv _ => nl - (intOf iv).toNat)
    case atStart => exact ⟨0, [], [], [], h1, S0, rfl, Nat.zero_le _, B0⟩
    case round =>
      obtain ⟨i, cl, pss, U, h, S, rfl, hi, HB1⟩ := hrel
      obtain ⟨aoc, capc, rfl, -⟩ := HB1.out.cs.cells
      by_cases hlt : i < nl
      · have hlt' : (i : Int) < (nl : Int) := by omega
        have hil : i < l.length := by have := HNL.out; omega
        obtain ⟨b, o, rfl, hcell⟩ := HVAL.out i hil
        have HCELL := hid hcell
        have x0 := hcell _ HB1.out.sh.be
        have HX := hid (HLS.out _ (List.getElem_mem hil))
        have hle : Hid (cl.length < l.length ∧ cl.length = i) := hid (by have := HB1.out.ln; omega)
        have HGE : Hid (∀ x, l[i] = x → ∀ (h : cl.length < l.length), l[cl.length] = x) := hid (fun x hx h => by have := HB1.out.ln; subst this; exact hx)
        clear hcell
        generalize hxi : l[i] = x at *
        have HXI := hid hxi
        have hz := Sp.bs_size x
        have HZ := hid hz
        have HC := hid (cell_any HB1.out.sh (by have := HN.out; omega) HB1.out.inv (by decide) (by have := HB1.out.pg; have := HN.out; have := HNL.out; omega) (by decide) x (by have := HX.out; omega))
        clear hxi hz
        go_wp2_with fail
        refine HC.out.mono ?_
        rintro e w3 ⟨c, er, h3, arm3, S3, rfl, k3, cc3, out⟩
        obtain ⟨bx, k4⟩ := Bx.new k3 c
        have CS4 := hid ((HB1.out.cs.turned cc3).on ((Below.refl w3.heap.size w3).alloc (Nat.le_refl _) (cO c)))
        have K4 := hid k4
        have y0 := HCELL.out _ k4.be
        obtain ⟨z0, z1, z2⟩ := bx.cells
        have hgl := lt_of_block bx.blk
        have hpl : Hid (h.pages + ((((x.length + 226) / 227 - ([] : List Int).length : Nat)) : Int) ≤ 300 ∨ 5000 < x.length) := hid (by
          have := HB1.out.pg
          have := HN.out
          have := HNL.out
          rw [List.length_nil]
          omega)
        clear HC bx k4 k3 cc3
        dsimp only [cV]
        by_cases hlong : 5000 < x.length
        · obtain ⟨rfl, rfl, -⟩ := out.long hlong
          have hlg : (5000 : Int) < ((bs x).size : Int) := by have := HZ.out; omega
          dsimp only [cO, c0] at y0 z0 z1 z2 hgl CS4 K4 ⊢
          have e0 : bs [] = ⟨#[]⟩ := rfl
          rw [e0] at y0 z0 z1 z2 hgl CS4 K4 ⊢
          clear e0 out hlong
          go_wp2
          go_ret
          exact ⟨rfl, K4.out.be⟩
        · have hlg : ¬ (5000 : Int) < ((bs x).size : Int) := by have := HZ.out; omega
          obtain ⟨rfl, rfl, ps, F3, hcellof, inv3, hs3, hfl, hpg, hpl3⟩ := out.ok (by decide) (by omega) (by have := hpl.out; omega)
          have hF3 : F3 = [] := List.length_eq_zero_iff.1 (by simpa using hfl)
          subst hF3
          obtain ⟨v5, w5, hr5, C5, K5⟩ := CS4.out.push K4.out c (by have := HB1.out.ln; have := HN.out; have := HNL.out; omega)
          have HB5 : Hid (B1 s d w w5 v5 l (i + 1) (cl ++ [c]) (pss ++ [ps]) (U ++ ps.reverse) h3 S3) := hid (by
            have hln := HB1.out.ln
            have h5 : ps.length ≤ 23 := by
              have h6 := hcellof.len
              unfold partsN at h6
              split at h6 <;> omega
            refine ⟨K5.more (by omega), C5, inv3, HB1.out.many.push hle.out.1 ?_ hs3 inv3, ?_, by simp [hln]⟩
            · rw [HGE.out x rfl hle.out.1]
              exact hcellof
            · have := HB1.out.pg
              rw [hpg, List.length_nil]
              omega)
          have HR5 := hid hr5
          clear hr5 C5 K5 hcellof inv3 hs3 hfl hpg hpl3 out hlong
          dsimp only [cO] at y0 z0 z1 z2 hgl HR5 CS4 K4
          generalize w3.heap.size = g8 at *
          go_wp2_with (at_builtin; refine wpList_append_run rfl (.tmp 62) (.tmp 64) tCs tCs rfl _ _ (by simp [Act.eval]) (by simp [Act.eval]) HR5.out ?_)
          go_roundw
          case rel => exact ⟨i + 1, _, _, _, _, _, by go_num, by omega, HB5⟩
          case measure => simp [intOf]; omega
      · have hlt' : ¬ (i : Int) < (nl : Int) := by omega
        have hie : i = nl := by omega
        subst hie
        have hcl : cl.length = i := HB1.out.ln
        obtain ⟨kk, hkk, hmod⟩ := mod_u a i (by have := HN.out; have := HNL.out; omega) (by have := HN.out; have := HNL.out; omega)
        have hu := Part.u64_nat i (by have := HN.out; have := HNL.out; omega)
        have hkc : kk < cl.length := by omega
        have HKC := hid hkc
        have hki : (kk : Int) < (cl.length : Int) := by omega
        have hkl : kk < l.length := by have := HNL.out; omega
        have hkp : kk < pss.length := by have := HB1.out.many.ln; omega
        obtain ⟨ao2, cap2, e2, hcc⟩ := HB1.out.cs.cells
        obtain ⟨gc, rfl, hgc, x0, x1, x2⟩ := hcc kk hkc
        cases e2
        have HCOF := hid (HB1.out.many.cell kk hkc hkp hkl)
        have hnd := HB1.out.many.nd kk hkp
        have hsub := HB1.out.many.sub kk hkp
        have HMF := hid (fun (h' : Hd) (S' : St) (U' F' : List Int) (fr : Freed h S U [] pss[kk] pss[kk].length h' S' U' F') (j : Nat) (hj : j < cl.length) (hl : j < l.length) (hne : j ≠ kk) => HB1.out.many.freed rfl hkp fr hj hl hne)
        have hx5 : l[kk].length ≤ 5000 := (HCOF.out).1
        obtain ⟨b, o, e9, hcell⟩ := HVAL.out kk hkl
        cases e9
        have HCELL := hid hcell
        have HX5 := hid hx5
        have HPL : Hid (pss[kk].length ≤ 23 ∧ pss[kk].length = partsN l[kk].length) := hid (by
          have h6 := HCOF.out.len
          refine ⟨?_, h6⟩
          unfold partsN at h6
          split at h6 <;> omega)
        have HB3 := hid (And.intro HB1.out.sh (And.intro HB1.out.cs (And.intro HB1.out.inv HB1.out.pg)))
        have HILE := hid (show i ≤ 6 by have := HN.out; have := HNL.out; omega)
        have HIL : Hid (i = l.length) := HNL
        clear hcell hcc hx5 HB1 hi
        generalize hce : cl[kk] = c at *
        have HCE := hid hce
        generalize hps : pss[kk] = ps at *
        generalize hxk : l[kk] = xk at *
        have HL := hid (list_any HB3.out.1 (by decide) c)
        clear hce hxk hps hkk
        go_wp2_with fail
        refine HL.out.mono ?_
        rintro e w4 ⟨val, pg, er, pv, arm4, rfl, k4, cc4, ho, -, ha4, -, hv⟩
        obtain ⟨-, rfl, rfl⟩ := val_ok HCOF.out (by decide) hv
        obtain rfl := ha4 (by decide)
        obtain ⟨aol, capl, rfl, -⟩ := own_cell ho
        have CS4 := hid (HB3.out.2.1.turned cc4)
        have K4 := hid k4
        have HH := hid (head_ok k4.at'.blk)
        unfold hV at HH
        clear ho hv ha4 k4 cc4 HL x0 x1 x2 hgc hmod hu
        go_wp2_with fail
        refine HH.out.mono ?_
        rintro e w5 ⟨rfl, hb⟩
        have ba : Below w5.heap.size w5 (w5.alloc (hObj h)) := (Below.refl w5.heap.size w5).alloc (Nat.le_refl _) _
        have K5 := K4.out.kept hb
        have B6 : Hid (B2 s d w (w5.alloc (hObj h)) gc cl.length capc w5.heap.size (200 * i) cl h h S) := hid ⟨K5.kept ba, (CS4.out.on hb).on ba, Sp.Hb.new h w5, Nat.ne_of_gt K5.at'.lt.1, Nat.ne_of_gt K5.at'.lt.2⟩
        have hsp0 : h.spare = 0 := by rw [HB3.out.2.2.1.sp]; rfl
        have HSP0 := hid hsp0
        clear hb ba K5 HH CS4 K4 hsp0
        go_upto_region 21 with fail
        generalize w5.alloc (.cells #[.int .i64 h.mode, .int .i64 h.pages, .int .i64 h.trunk, .int .i64 h.spare, .int .i64 h.root, .int .u64 (h.change : Nat)] tH) = w6 at *
        generalize w5.heap.size = gh at *
        have J0 := hid ((B6.out.on (Below.refl w6.heap.size w6).drew).hold HKC.out HCE.out)
        have HF := hid (free_any (c := c) (v := xk) (ps := pg) (U := U) (F := []) (B6.out.on (Below.refl w6.heap.size w6).drew).sh (by have := HILE.out; omega) (by decide) HB3.out.2.2.1 (by have := HB3.out.2.2.2; have := HILE.out; omega) HCOF.out hnd hsub)
        have hpl2 : wrap64 (pg.length : Int) = (pg.length : Int) := by rw [Num.wrap_i]; have := HPL.out; omega
        have hsp1 : wrap64 (h.spare + (pg.length : Int)) = (pg.length : Int) := by rw [HSP0.out, Num.wrap_i]; have := HPL.out; omega
        have hsp3 : IntKind.i64.wrap (h.spare + (pg.length : Int)) = (pg.length : Int) := by rw [HSP0.out, IntKind.wrap_i64]; have := HPL.out; omega
        have F1 := Sh.fld1
        have F3 := Sh.fld3
        have hk0 : (0 : Int) ≤ (kk : Int) := by omega
        have hki2 : (kk : Int) < (i : Int) := by omega
        have HCLI := hid hcl
        clear hcl
        go_region_held3 (fun W => (W.cell? ⟨gc, kk * 3, none⟩ = some (.int .i64 c.z) ∧ W.cell? ⟨gc, kk * 3 + 1, none⟩ = some (.string (bs c.d)) ∧ W.cell? ⟨gc, kk * 3 + 2, none⟩ = some (.int .i64 c.p)) ∧ W.cell? ⟨gh, 1, none⟩ = some (.int .i64 h.pages) ∧ W.cell? ⟨gh, 3, none⟩ = some (.int .i64 h.spare))
          (first | with_reducible exact J0.out | with_reducible exact J1.out | with_reducible exact J2.out | with_reducible exact J3.out)
          (first
            | go_at_call 16; (with_reducible refine HF.out.mono ?_); rintro e w7 ⟨h7, S7, U7, F7, rfl, k7, cc7, fr⟩; have FR := hid fr; have B7 := hid ((B6.out.on (Below.refl w6.heap.size w6).drew).turned k7 cc7); have J1 := hid (B7.out.hold HKC.out HCE.out); have HA7 := hid (head_ok k7.at'.blk); have hs7 : h7.spare = (pg.length : Int) := (by rw [fr.inv.sp, fr.fl]; simp); have hp7 : h7.pages = h.pages := fr.pg; clear fr k7 cc7; unfold hV at HA7
            | go_at_call 18; (with_reducible refine HA7.out.mono ?_); rintro e w8 ⟨rfl, hb8⟩; have B8 := hid (B7.out.on hb8); have J2 := hid (B8.out.hold HKC.out HCE.out); have HA8 := hid (head_ok B8.out.sh.at'.blk); clear hb8; unfold hV at HA8
            | go_at_call 18; (with_reducible refine HA8.out.mono ?_); rintro e w9 ⟨rfl, hb9⟩; have B9 := hid (B8.out.on hb9); have J3 := hid (B9.out.hold HKC.out HCE.out); clear hb9)
        clear J0 J1 J2 J3 HF HA7 HA8 hpl2 hsp1 hsp3 hs7 hp7 F1 F3 B6 B7 B8 hnd hsub hki hkp
        go_wp2_with fail
        go_loopw [14] (fun iv wr => ∃ j : Nat, iv = .int .i64 (j : Int) ∧ j ≤ i ∧ Hid (B2 s d w wr gc cl.length capc gh (200 * i + 200) cl h h7 S7)) (fun iv _ => i - (intOf iv).toNat)
        case atStart => exact ⟨0, rfl, Nat.zero_le _, B9⟩
        case round =>
          obtain ⟨j, rfl, hj, HB9⟩ := hrel
          by_cases hlt2 : j < i
          · have hlt2' : (j : Int) < (i : Int) := by omega
            by_cases hjk : j = kk
            · have hq3 : ((j : Int) == (kk : Int)) = true := by rw [hjk]; simp
              clear hjk
              go_wp2
              go_roundw
              case rel => exact ⟨j + 1, by go_num, by omega, HB9⟩
              case measure => simp [intOf]; omega
            · have hq3 : ((j : Int) == (kk : Int)) = false := by rw [beq_eq_false_iff_ne]; omega
              have hjc : j < cl.length := by have := HCLI.out; omega
              have hjl : j < l.length := by have := HIL.out; omega
              obtain ⟨-, x0, x1, x2⟩ := HB9.out.cs.at hjc
              obtain ⟨psj, hco⟩ := HMF.out h7 S7 U7 F7 FR.out j hjc hjl hjk
              obtain ⟨bj, oj, ej, hcj⟩ := HVAL.out j hjl
              cases ej
              have HCJ := hid hcj
              have HCO := hid hco
              clear hcj hco hjk
              generalize cl[j] = cj at *
              generalize l[j] = xj at *
              have hjc2 : (j : Int) < (cl.length : Int) := by omega
              have HV := hid (value_any HB9.out.sh (by decide) cj)
              clear hjc hjl
              go_wp2_with fail
              refine HV.out.mono ?_
              rintro e w10 ⟨val, pg2, er, arm10, rfl, k10, cc10, ha10, -, hv⟩
              obtain ⟨rfl, -, rfl⟩ := val_ok HCO.out (by decide) hv
              obtain rfl := ha10 (by decide)
              have B10 := hid (HB9.out.turned k10 cc10)
              have y0 := HCJ.out _ k10.be
              have hrefl := str_refl (bs val)
              clear hv ha10 k10 cc10 HV x0 x1 x2
              go_wp2
              go_roundw
              case rel => exact ⟨j + 1, by go_num, by omega, B10⟩
              case measure => simp [intOf]; omega
          · have hlt2' : ¬ (j : Int) < (i : Int) := by omega
            have y0 := HCELL.out _ HB9.out.sh.be
            have hpl7 : Hid (h7.pages ≤ 200) := hid (by have := FR.out.pg; have := HB3.out.2.2.2; have := HILE.out; omega)
            have HC := hid (cell_any HB9.out.sh (by have := HILE.out; omega) FR.out.inv (by decide) (by have := hpl7.out; omega) (by decide) xk (by have := HX5.out; omega))
            go_wp2_with fail
            refine HC.out.mono ?_
            rintro e w11 ⟨c2, er, h8, arm11, S8, rfl, k11, cc11, out⟩
            obtain ⟨rfl, rfl, ps2, F8, hcell8, inv8, -, hfl8, hpg8, -⟩ := out.ok (by decide) HX5.out (by have := hpl7.out; have := HX5.out; omega)
            have hps2 : ps2.length = pg.length := by rw [hcell8.len]; exact HPL.out.2.symm
            have hf7 : F7.length = pg.length := by rw [FR.out.fl]; simp
            have HPG8 : Hid (h8.pages = h.pages) := hid (by rw [hpg8, hps2, hf7, Nat.sub_self, FR.out.pg]; simp)
            have HSP8 : Hid (h8.spare = h.spare) := hid (by rw [inv8.sp, hfl8, hps2, hf7, Nat.sub_self, HSP0.out]; rfl)
            obtain ⟨bx, k12⟩ := Bx.new k11 c2
            have BX := hid bx
            have B8 := hid ((HB9.out.turned k11 cc11).on ((Below.refl w11.heap.size w11).alloc (Nat.le_refl _) (cO c2)))
            have HC8 := hid hcell8
            clear HC bx k12 k11 cc11 out hcell8 inv8 hfl8 hpg8 hps2 hf7 y0 HB9
            dsimp only [cV]
            go_upto_region 31 with fail
            generalize w11.alloc (.cells #[.int .i64 c2.z, .string (bs c2.d), .int .i64 c2.p] tC) = w12 at *
            generalize w11.heap.size = g12 at *
            refine No.wp_quiet_in (fun wx => Below w12.heap.size w12 wx) (by kernel_rfl) (by kernel_rfl) (Below.refl _ w12).drew ?_
            go_big_quiet_want
            go_big_quiet_op
            go_big_quiet_on
            go_big_quiet_want
            go_big_quiet_op
            refine ⟨.bool false, fun wx hx => ?_, ?_⟩
            · first | rfl | simp [go_sem]
            go_big_quiet_on
            go_big_quiet_want
            go_big_quiet_op
            go_big_quiet_on
            go_big_quiet_want
            go_big_quiet_op
            go_big_quiet_on
            go_big_quiet_want
            go_big_quiet_op
            refine ⟨hV h8, fun wx hx => ?_, ?_⟩
            · refine (head_ok (B8.out.on hx).sh.at'.blk).mono ?_
              rintro e w99 ⟨rfl, hb99⟩
              exact ⟨rfl, hx.trans (hb99.mono hx.size)⟩
            go_big_quiet_on
            go_big_quiet_want
            go_big_quiet_op
            refine ⟨.int .i64 h.pages, fun wx hx => ?_, ?_⟩
            · have c := HPG8.out
              simp [hV, c, Sh.fld1]
            go_big_quiet_on
            go_big_quiet_want
            go_big_quiet_op
            refine ⟨.pointer (some ⟨gh, 1, none⟩), fun wx hx => ?_, ?_⟩
            · first | rfl | simp [go_sem]
            go_big_quiet_on
            go_big_quiet_want
            go_big_quiet_op
            refine ⟨.int .i64 h.pages, fun wx hx => ?_, ?_⟩
            · have c := ((B8.out.on hx).hold HKC.out HCE.out).2.1
              simp [go_sem, c]
            go_big_quiet_on
            go_big_quiet_want
            go_big_quiet_op
            refine ⟨.bool false, fun wx hx => ?_, ?_⟩
            · first | rfl | simp [go_sem]
            go_big_quiet_on
            go_big_quiet_want
            go_big_quiet_op
            refine ⟨.bool false, fun wx hx => ?_, ?_⟩
            · first | rfl | simp [go_sem]
            go_big_quiet_on
            go_big_quiet_want
            go_big_quiet_op
            go_big_quiet_on
            go_big_quiet_want
            go_big_quiet_op
            go_big_quiet_on
            go_big_quiet_want
            go_big_quiet_op
            refine ⟨hV h8, fun wx hx => ?_, ?_⟩
            · refine (head_ok (B8.out.on hx).sh.at'.blk).mono ?_
              rintro e w99 ⟨rfl, hb99⟩
              exact ⟨rfl, hx.trans (hb99.mono hx.size)⟩
            go_big_quiet_on
            go_big_quiet_want
            go_big_quiet_op
            refine ⟨.int .i64 h.spare, fun wx hx => ?_, ?_⟩
            · have c := HSP8.out
              simp [hV, c, Sh.fld3]
            go_big_quiet_on
            go_big_quiet_want
            go_big_quiet_op
            refine ⟨.pointer (some ⟨gh, 3, none⟩), fun wx hx => ?_, ?_⟩
            · first | rfl | simp [go_sem]
            go_big_quiet_on
            go_big_quiet_want
            go_big_quiet_op
            refine ⟨.int .i64 h.spare, fun wx hx => ?_, ?_⟩
            · have c := ((B8.out.on hx).hold HKC.out HCE.out).2.2
              simp [go_sem, c]
            go_big_quiet_on
            go_big_quiet_want
            go_big_quiet_op
            refine ⟨.bool false, fun wx hx => ?_, ?_⟩
            · first | rfl | simp [go_sem]
            go_big_quiet_on
            go_big_quiet_want
            go_big_quiet_op
            refine ⟨.bool false, fun wx hx => ?_, ?_⟩
            · first | rfl | simp [go_sem]
            go_big_quiet_on
            refine wpQuiet_nil ?_
            intro wq hq9
            have B13 := hid (B8.out.on hq9)
            have BX13 := hid (BX.out.on hq9)
            have HV := hid (value_any B13.out.sh (by decide) c2)
            clear hq9
            obtain ⟨x0, x1, x2⟩ := BX13.out.cells
            go_wp2_with fail
            refine HV.out.mono ?_
            rintro e w14 ⟨val, pg2, er, arm14, rfl, k14, cc14, ha14, -, hv⟩
            obtain ⟨rfl, -, rfl⟩ := val_ok HC8.out (by decide) hv
            have y0 := HCELL.out _ k14.be
            have hrefl := str_refl (bs val)
            have BE := hid k14.be
            clear hv ha14 k14 cc14 HV x0 x1 x2
            go_wp2
            go_ret
            exact ⟨rfl, BE.out⟩
end Ch
end Go.Proofs.YtkoglikaaehhjaaGreatDoor
