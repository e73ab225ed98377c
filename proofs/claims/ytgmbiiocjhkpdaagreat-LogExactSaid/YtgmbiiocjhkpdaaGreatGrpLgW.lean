/-
  Put together: RefWriteOld, RefWriteNew, RefWrite.
-/
import Derived.Test.YtgmbiiocjhkpdaaGreatGrpJRc
import Derived.Deep.QuietTactic
import Derived.Test.YtgmbiiocjhkpdaaGreatGrpJRd
import Derived.BigQuiet
/-
  Contract of the reference's Write.
-/

namespace Go.Proofs.YtgmbiiocjhkpdaaGreat
open Go.RowKit
namespace Ref
open Disk
open Num (hid bcells)

theorem begun_room (c : Ctl) (fit : Bool) : (c.begun fit).room = c.room := by
  unfold Ctl.begun
  repeat' split
  all_goals first | rfl | skip
  all_goals unfold Ctl.counted Ctl.stepped
  all_goals (repeat' split)
  all_goals rfl

section
variable {R : Nat → Prop} {w : World} {r : Nat} {v : Value} {E : Ens} {c : Ctl} {a k m : Int}
theorem totalQ (h : DiskR R w r v E c a k m) (hE : E.length ≤ 100) (hl : ∀ x ∈ E, x.2.2.ps.length ≤ 20000) :
    Calls Tryz.prog 101 #[ptr r] w fun e w' => e = .returned (.int .i64 (lensD (Ens.dir E) : Nat)) ∧ w' = w := (total_any h hE hl).mono fun _ _ h => ⟨h.1, h.2.symm⟩

theorem ref_out {c0 : Ctl} {fs : Dir} {W : World} (h : DiskR R W r v E c0 a k m) (hE : Ens.dir E = fs) (hc : Chg R w W) : RefOut R w r ⟨c0, fs⟩ W.drew :=
  ⟨⟨v, E, a, k, m, h.drew, hE⟩, hc.drew⟩

set_option maxRecDepth 100000 in
set_option maxHeartbeats 4000000 in
theorem rwrite_found {M : Mod} (hG : Good M) (h : Refs R r M w) (hR : ∀ b, w.heap.size ≤ b → R b) (s : ByteArray) (hs : s.size ≤ maxLen) (q : Nat) (l : ByteArray) (h256 : l.size = 256) (hr : M.c.refusal (nameFit s.data.toList) = 0) (hx : (get? M.fs s.data.toList).isSome = true) :
    Calls Tryz.prog 64 #[ptr r, .string s, .int .i64 q, .string l] w fun e w' => e = .returned (.int .i64 (M.write s.data.toList q l.data.toList).1) ∧ RefOut R w r (M.write s.data.toList q l.data.toList).2 w' := by
  obtain ⟨v, E, a, k, m, D, hE⟩ := h
  have hRr := D.own
  have hfit : (nameFit s.data.toList && decide ((0 : Int) ≤ q) && decide (l.data.toList.length = 256)) = nameFit s.data.toList := by
    have hll : l.data.toList.length = l.size := by simp
    rw [hll, decide_eq_true (by omega), decide_eq_true h256, Bool.and_true, Bool.and_true]
  have hb := begin_any D hG.ok s hs false (nameFit s.data.toList) (by simp)
  have HBG := hid hb
  have h8 := hG.len hE
  have hl256 : ((l.size : Int) != 256) = false := by simp; omega
  have H256 := hid h256
  clear hb D h256
  have e1 : M.write s.data.toList q l.data.toList = ((writeD M.c.room s.data.toList q l.data.toList M.fs).1, ⟨M.c.begun (nameFit s.data.toList), (writeD M.c.room s.data.toList q l.data.toList M.fs).2⟩) := by
    unfold Mod.write
    rw [hfit]
    exact run_good hr
  have HE1 := hid e1
  have HRF := hid hr
  clear e1 hr hfit
  go_enter Tryz.func64, Tryz.ntmps64
  go_wp2_with fail
  refine HBG.out.mono ?_
  rintro e w1 ⟨rfl, hbeg⟩
  have HB := hid hbeg
  obtain ⟨a', k', m', D1, hc1⟩ := hbeg
  rw [HRF.out]
  have H := hid D1
  have HC1 := hid hc1
  clear D1 HBG hc1
  have hlens : ∀ x ∈ E, x.2.2.ps.length ≤ 20000 := fun x hx => by
    have := hG.lens x.2 (by rw [← hE]; exact List.mem_map_of_mem hx)
    omega
  have HL := hid hlens
  clear hlens
  have hrise := hid hG.rise
  go_wp2_with fail
  refine (place_any H.out (by omega) s).mono ?_
  rintro e w2 ⟨⟨j, rfl, hp⟩, rfl⟩
  obtain ⟨q0, q1, -⟩ := H.out.roots
  rw [begun_room] at q1
  have hroom0 := hG.ok.room
  have hlsum := lens_le E HL.out
  have hlb : (lensD (Ens.dir E) : Int) ≤ 2000000 := by omega
  have hR1 : Hid (∀ b, w1.heap.size ≤ b → R b) := hid (fun b hb => hR b (Nat.le_trans HC1.out.size hb))
  have hmade : Hid (∀ wx, Below w1.heap.size w1 wx → Calls Tryz.prog 87 #[ptr r, .string s] wx (MadeOut R wx r E (M.c.begun (nameFit s.data.toList)) a' k' m' s)) := hid (fun wx hx => made_any (H.out.kept (F := fun _ => False) (Chg.of_below hx) (fun h => h) (fun _ _ h => h) (Apart.none w1)) (fun b hb => hR1.out b (Nat.le_trans hx.size hb)) (by omega) (by rw [hE]; exact hrise.out) s)
  have hrr := lt_of_block H.out.blk
  have htot : Hid (∀ wx, Below w1.heap.size w1 wx → Calls Tryz.prog 101 #[ptr r] wx fun e w' => e = .returned (.int .i64 (lensD M.fs : Nat)) ∧ wx = w') := hid (fun wx hx => by
    have := total_any (H.out.kept (F := fun _ => False) (Chg.of_below hx) (fun h => h) (fun _ _ h => h) (Apart.none w1)) (by omega) HL.out
    rw [hE] at this
    exact this)
  obtain ⟨ao, cap, hv, hao⟩ := row_shape H.out.row.1
  subst hv
  rcases place_get hp with ⟨j, hj, rfl, hget, hn⟩ | ⟨rfl, hget⟩
  rotate_left
  · exact absurd hx (by rw [hE] at hget; rw [hget]; simp)
  clear hx
  rw [hE] at hget
  obtain ⟨g, hg, -⟩ := hao (by omega)
  subst hg
  have hlj := hG.at hE hj
  obtain ⟨aN, cN, aS, cS, aW, cW, eN, eS, eW, x0, x1, x2, x3, x4⟩ := H.out.file hj
  have hF : Hid ((get? M.fs s.data.toList).getD emptyFil = E[j].2.2) := hid (by rw [hget]; rfl)
  have hsome : Hid (holdsB M.fs s.data.toList = true) := hid (by unfold holdsB; rw [hget]; rfl)
  have hjd : ¬ ((j : Int) < 0) := by omega
  clear hao hp hn hget eN eS eW
  generalize E[j].2.2 = F at *
  by_cases h14 : F.ps.length < q
  · have hsd : Hid (writeD M.c.room s.data.toList q l.data.toList M.fs = (14, M.fs)) := hid (by unfold writeD; simp only []; rw [hF.out, if_pos (by omega)])
    clear hmade htot
    go_wp2
    go_ret
    exact ⟨ret_i (by rw [HE1.out, hsd.out]), HB.out.out (by rw [HE1.out, hsd.out]; exact hE) hRr (by rw [HE1.out])⟩
  by_cases hq : q = F.ps.length
  · subst hq
    by_cases hful : M.c.room ≤ (lensD M.fs : Int)
    · have hsd : Hid (writeD M.c.room s.data.toList F.ps.length l.data.toList M.fs = (12, M.fs)) := hid (by unfold writeD; simp only []; rw [hF.out, if_neg (by omega), if_pos ⟨by omega, Or.inr hful⟩])
      clear hmade
      go_wp2
      refine Part.wp_region_quiet_in (fun wx => Below w1.heap.size w1 wx) (by kernel_rfl) (by kernel_rfl) (Below.refl _ _).drew ?_
      go_big_quiet_want
      go_big_quiet_op
      go_big_quiet_on
      go_big_quiet_want
      go_big_quiet_op
      refine ⟨.bool false, fun wx hx => ?_, ?_⟩
      · simp [go_sem, hjd]
      go_big_quiet_on
      go_big_quiet_want
      go_big_quiet_op
      go_big_quiet_on
      go_big_quiet_skip
      go_big_quiet_skip
      go_big_quiet_skip
      go_big_quiet_skip
      go_big_quiet_skip
      go_big_quiet_skip
      go_big_quiet_want
      go_big_quiet_op
      refine ⟨.bool false, fun wx hx => ?_, ?_⟩
      · simp [go_sem]
      go_big_quiet_on
      go_big_quiet_want
      go_big_quiet_op
      go_big_quiet_on
      go_big_quiet_want
      go_big_quiet_op
      go_big_quiet_on
      go_big_quiet_want
      go_big_quiet_op
      go_big_quiet_on
      go_big_quiet_want
      go_big_quiet_op
      refine ⟨.bool true, fun wx hx => ?_, ?_⟩
      · simp [go_sem] <;> omega
      go_big_quiet_on
      go_big_quiet_want
      go_big_quiet_op
      go_big_quiet_on
      go_big_quiet_want
      go_big_quiet_op
      go_big_quiet_on
      go_big_quiet_want
      go_big_quiet_op
      refine ⟨.int .i64 (lensD M.fs : Nat), fun wx hx => ?_, ?_⟩
      · refine (htot.out wx hx).mono ?_
        rintro e w3 ⟨rfl, rfl⟩
        exact ⟨rfl, hx⟩
      go_big_quiet_on
      go_big_quiet_want
      go_big_quiet_op
      go_big_quiet_on
      go_big_quiet_want
      go_big_quiet_op
      apply Exists.intro
      refine ⟨fun _ _ => ?_, ?_⟩
      · with_reducible exact Eq.refl _
      go_big_quiet_on
      go_big_quiet_want
      go_big_quiet_op
      apply Exists.intro
      refine ⟨fun _ _ => ?_, ?_⟩
      · with_reducible exact Eq.refl _
      go_big_quiet_on
      go_big_quiet_want
      go_big_quiet_op
      refine ⟨.int .i64 M.c.room, fun wx hx => ?_, ?_⟩
      · have c := ((fun wx hx => (hx.cell (p := ⟨r, 1, none⟩) hrr).trans q1) : ∀ wx, Below w1.heap.size w1 wx → wx.cell? ⟨r, 1, none⟩ = some (.int .i64 M.c.room)) wx hx
        simp [go_sem, c]
      go_big_quiet_on
      go_big_quiet_want
      go_big_quiet_op
      refine ⟨.bool true, fun wx hx => ?_, ?_⟩
      · simp [go_sem] <;> omega
      go_big_quiet_on
      go_big_quiet_want
      go_big_quiet_op
      refine ⟨.bool true, fun wx hx => ?_, ?_⟩
      · simp [go_sem]
      go_big_quiet_on
      go_big_quiet_want
      go_big_quiet_op
      refine ⟨.bool true, fun wx hx => ?_, ?_⟩
      · simp [go_sem]
      go_big_quiet_on
      refine wpQuiet_nil ?_
      intro w2 C2
      go_wp2
      go_ret
      have hb12 : Below w1.heap.size w1 w2 := C2
      exact ⟨ret_i (by rw [HE1.out, hsd.out]), ⟨_, E, _, _, _, by rw [HE1.out]; exact H.out.kept (F := fun _ => False) (Chg.of_below hb12) (fun h => h) (fun _ _ h => h) (Apart.none w1), by rw [HE1.out, hsd.out]; exact hE⟩, (HC1.out.mono (fun k _ e => by rw [e]; exact hRr)).trans (Chg.of_below hb12)⟩
    · have hsd : Hid (writeD M.c.room s.data.toList F.ps.length l.data.toList M.fs = (0, ins M.fs s.data.toList (F.write F.ps.length l.data.toList))) := hid (by unfold writeD; simp only []; rw [hF.out, if_neg (by omega), if_neg (fun h => h.2.elim (fun h => by rw [hsome.out] at h; cases h) hful)]; rfl)
      go_wp2
      refine Part.wp_region_quiet_in (fun wx => Below w1.heap.size w1 wx) (by kernel_rfl) (by kernel_rfl) (Below.refl _ _).drew ?_
      go_big_quiet_want
      go_big_quiet_op
      go_big_quiet_on
      go_big_quiet_want
      go_big_quiet_op
      refine ⟨.bool false, fun wx hx => ?_, ?_⟩
      · simp [go_sem, hjd]
      go_big_quiet_on
      go_big_quiet_want
      go_big_quiet_op
      go_big_quiet_on
      go_big_quiet_skip
      go_big_quiet_skip
      go_big_quiet_skip
      go_big_quiet_skip
      go_big_quiet_skip
      go_big_quiet_skip
      go_big_quiet_want
      go_big_quiet_op
      refine ⟨.bool false, fun wx hx => ?_, ?_⟩
      · simp [go_sem]
      go_big_quiet_on
      go_big_quiet_want
      go_big_quiet_op
      go_big_quiet_on
      go_big_quiet_want
      go_big_quiet_op
      go_big_quiet_on
      go_big_quiet_want
      go_big_quiet_op
      go_big_quiet_on
      go_big_quiet_want
      go_big_quiet_op
      refine ⟨.bool true, fun wx hx => ?_, ?_⟩
      · simp [go_sem] <;> omega
      go_big_quiet_on
      go_big_quiet_want
      go_big_quiet_op
      go_big_quiet_on
      go_big_quiet_want
      go_big_quiet_op
      go_big_quiet_on
      go_big_quiet_want
      go_big_quiet_op
      refine ⟨.int .i64 (lensD M.fs : Nat), fun wx hx => ?_, ?_⟩
      · refine (htot.out wx hx).mono ?_
        rintro e w3 ⟨rfl, rfl⟩
        exact ⟨rfl, hx⟩
      go_big_quiet_on
      go_big_quiet_want
      go_big_quiet_op
      go_big_quiet_on
      go_big_quiet_want
      go_big_quiet_op
      apply Exists.intro
      refine ⟨fun _ _ => ?_, ?_⟩
      · with_reducible exact Eq.refl _
      go_big_quiet_on
      go_big_quiet_want
      go_big_quiet_op
      apply Exists.intro
      refine ⟨fun _ _ => ?_, ?_⟩
      · with_reducible exact Eq.refl _
      go_big_quiet_on
      go_big_quiet_want
      go_big_quiet_op
      refine ⟨.int .i64 M.c.room, fun wx hx => ?_, ?_⟩
      · have c := ((fun wx hx => (hx.cell (p := ⟨r, 1, none⟩) hrr).trans q1) : ∀ wx, Below w1.heap.size w1 wx → wx.cell? ⟨r, 1, none⟩ = some (.int .i64 M.c.room)) wx hx
        simp [go_sem, c]
      go_big_quiet_on
      go_big_quiet_want
      go_big_quiet_op
      refine ⟨.bool false, fun wx hx => ?_, ?_⟩
      · simp [go_sem] <;> omega
      go_big_quiet_on
      go_big_quiet_want
      go_big_quiet_op
      refine ⟨.bool false, fun wx hx => ?_, ?_⟩
      · simp [go_sem]
      go_big_quiet_on
      go_big_quiet_want
      go_big_quiet_op
      refine ⟨.bool false, fun wx hx => ?_, ?_⟩
      · simp [go_sem]
      go_big_quiet_on
      refine wpQuiet_nil ?_
      intro w2 C2
      have hb12 : Below w1.heap.size w1 w2 := C2
      clear C2 x0 x1 x2 x3 x4 q0 q1 htot
      go_wp2_with fail
      refine (hmade.out w2 hb12).mono ?_
      rintro e w3 ⟨j2, v2, E2, rfl, D2, ⟨hj2, hE2⟩, hset, hl2, hc2⟩
      rw [hE] at hE2 hset
      rw [hF.out] at hE2
      have hFF : E2[j2].2.2 = F := by rw [hE2]
      have hNN : E2[j2].2.1 = s.data.toList := by rw [hE2]
      obtain ⟨ao2, cap2, hv2, hao2⟩ := row_shape D2.row.1
      obtain ⟨g2, hg2, -⟩ := hao2 (by omega)
      subst hg2
      subst hv2
      obtain ⟨bN, dN, bS, dS, bW, dW, eN, eS, eW, x0, x1, x2, x3, x4⟩ := D2.file hj2
      have hf := D2.files E2[j2] (List.getElem_mem hj2)
      obtain ⟨p0, -⟩ := D2.roots
      rw [hFF] at eN eS eW x1 x2 x3 hf
      rw [hNN] at hf
      have hR3 : ∀ b, w3.heap.size ≤ b → R b := fun b hb => hR1.out b (Nat.le_trans (Nat.le_trans hb12.size hc2.size) hb)
      have hg3 := (D2.row.1.lt g2 rfl).2
      have hr3 := lt_of_block D2.blk
      have hzg : ∀ i, w3.frozen? ⟨g2, i, none⟩ = false := fun i => World.ownsRow.frozenAt D2.row.1 i
      clear hao2 hE2 hFF hNN hl2
      generalize hX : E2[j2].1 = X at *
      obtain ⟨xn, xv, xs, xw, xu⟩ := X
      simp only at eN eS eW x0 x4
      subst eN eS eW
      have B1 : Box R w3 (w3.alloc (.cells #[.string xn, .slice bN F.ps.length dN, .slice bS F.ps.length dS, .slice bW F.ps.length dW, .bool xu] tF)) ⟨xn, .slice bN F.ps.length dN, .slice bS F.ps.length dS, .slice bW F.ps.length dW, xu⟩ F.ps.length F.ps.length F.ps.length (nowsC F.ps) (safesC F.ps) (waitsC F.ps) :=
        ⟨blk_new w3 _, (Below.refl _ _).alloc (Nat.le_refl _) _, hf.now.on ((Below.refl _ _).alloc (Nat.le_refl _) _), hf.safe.on ((Below.refl _ _).alloc (Nat.le_refl _) _), hf.wait.on ((Below.refl _ _).alloc (Nat.le_refl _) _), nows_one _, safes_one _, waits_one _⟩
      have hs1 : (w3.alloc (.cells #[.string xn, .slice bN F.ps.length dN, .slice bS F.ps.length dS, .slice bW F.ps.length dW, .bool xu] tF)).heap.size = w3.heap.size + 1 := by simp
      generalize hW1 : w3.alloc (.cells #[.string xn, .slice bN F.ps.length dN, .slice bS F.ps.length dS, .slice bW F.ps.length dW, .bool xu] tF) = W1 at *
      obtain ⟨vA, WA, rA, bA, oA, lA⟩ := B1.copyN hR3 (by omega)
      obtain ⟨aA, cA, eA, -⟩ := row_shape oA.1
      obtain ⟨vB, WB, rB, bB, oB⟩ := more_cell oA lA bA (fun b hb => hR3 b (by have := B1.lt; omega)) (by omega)
      obtain ⟨aB, cB, eB, -⟩ := row_shape oB.1
      subst eA eB
      have BB := B1.on bB
      have B2 := BB.setN oB (fun u hu => (List.mem_append.1 hu).elim (nows_one _ u) (fun h => by simp only [safeC, List.mem_cons, List.not_mem_nil, or_false] at h; rcases h with rfl | rfl | rfl <;> rfl))
      obtain ⟨vC, WC, rC, bC, oC, lC⟩ := B2.copyW hR3 (by omega)
      obtain ⟨aC, cC, eC, -⟩ := row_shape oC.1
      obtain ⟨vD, WD, rD, bD, oD⟩ := more_bool oC lC bC (fun b hb => hR3 b (by have := B2.lt; omega)) (by omega)
      obtain ⟨aD, cD, eD, -⟩ := row_shape oD.1
      subst eC eD
      have BD := B2.on bD
      have B3 := BD.setW oD (fun u hu => (List.mem_append.1 hu).elim (waits_one _ u) (fun h => by simp only [List.mem_singleton] at h; subst h; rfl))
      obtain ⟨vE, WE, rE, bE, oE, lE⟩ := B3.copyS hR3 (by omega)
      obtain ⟨aE, cE, eE, -⟩ := row_shape oE.1
      obtain ⟨vF, WF, rF, bF, oF⟩ := more_cell oE lE bE (fun b hb => hR3 b (by have := B3.lt; omega)) (by omega)
      obtain ⟨aF, cF, eF, -⟩ := row_shape oF.1
      subst eE eF
      have BF := B3.on bF
      have B4 := BF.setS oF (fun u hu => (List.mem_append.1 hu).elim (safes_one _ u) (fun h => by simp only [safeC, List.mem_cons, List.not_mem_nil, or_false] at h; rcases h with rfl | rfl | rfl <;> rfl))
      obtain ⟨vG, WG, rG, bG, oG, lG⟩ := B4.copyN hR3 (by omega)
      obtain ⟨aG, cG, eG, hG0⟩ := row_shape oG.1
      obtain ⟨gG, hgG, -⟩ := hG0 (by omega)
      subst hgG
      subst eG
      have BG := B4.on bG
      have B5 := BG.setN oG B4.oN
      have lowG := lG gG rfl
      have lt4 := B4.lt
      have hfrG : w3.heap.size ≤ gG := by omega
      have hneS : ∀ g', (Value.slice aF (F.ps.length + 1) cF).ownBlock = some g' → ¬ g' = gG := fun g' hg' e => by have := (B4.safe.1.lt g' hg').2; omega
      have B6a := B5.storeN rfl hfrG hneS (F.ps.length * 3) (u := .bool true) rfl
      have B6b := B6a.storeN rfl hfrG hneS (F.ps.length * 3 + 1) (u := .string l) rfl
      have B6 := B6b.storeN rfl hfrG hneS (F.ps.length * 3 + 2) (u := .bool false) rfl
      obtain ⟨vH, WH, rH, bH, oH, lH⟩ := B6.copyW hR3 (by omega)
      obtain ⟨aH, cH, eH, hH0⟩ := row_shape oH.1
      obtain ⟨gH, hgH, -⟩ := hH0 (by omega)
      subst hgH
      subst eH
      have BH := B6.on bH
      have B7 := BH.setW oH B6.oW
      have hfrH : w3.heap.size ≤ gH := by have := lH gH rfl; have := B6.lt; omega
      have B8 := B7.storeW rfl hfrH F.ps.length (u := .bool true) rfl
      have B9 : Box R w3 _ ⟨xn, .slice (some ⟨gG, 0, none⟩) (F.ps.length + 1) cG, (Value.slice aF (F.ps.length + 1) cF), .slice (some ⟨gH, 0, none⟩) (F.ps.length + 1) cH, xu⟩ (F.ps.length + 1) (F.ps.length + 1) (F.ps.length + 1) _ _ _ := B8
      have hFw : Hid (F.write F.ps.length l.data.toList = { F with ps := F.ps ++ [⟨some l.data.toList, none, true⟩] }) := hid (write_next F _)
      have N8 := B9.file (n := s.data.toList) (F := F.write F.ps.length l.data.toList) hf.name (by rw [hFw.out]; exact hf.sure) (by rw [hFw.out]; simp) (by rw [hFw.out]; simp) (by rw [hFw.out]; simp) (by rw [hFw.out]; exact (grown_now _ _)) (by rw [hFw.out]; exact grown_safe _ _) (by rw [hFw.out]; exact (grown_wait _ _))
      have D8 := D2.kept (F := fun _ => False) (Chg.of_below B8.bel) (fun h => h) (fun _ _ h => h) (Apart.none w3)
      have DH := D2.kept (F := fun _ => False) (Chg.of_below BH.bel) (fun h => h) (fun _ _ h => h) (Apart.none w3)
      have HP := hid (D8.put hj2 N8)
      have HC := hid ((((HC1.out.mono (fun k _ e => by rw [e]; exact hRr) : Chg R w w1).trans (Chg.of_below hb12)).trans hc2).trans ((Chg.of_below B8.bel : Chg R w3 _).trans ((putW_chg _ g2 j2 (⟨xn, .slice (some ⟨gG, 0, none⟩) (F.ps.length + 1) cG, (Value.slice aF (F.ps.length + 1) cF), .slice (some ⟨gH, 0, none⟩) (F.ps.length + 1) cH, xu⟩ : FR)).mono (fun k _ e => by rw [e]; exact D2.row.2 g2 rfl))))
      have HSET := hid (hset (⟨xn, .slice (some ⟨gG, 0, none⟩) (F.ps.length + 1) cG, (Value.slice aF (F.ps.length + 1) cF), .slice (some ⟨gH, 0, none⟩) (F.ps.length + 1) cH, xu⟩ : FR) (F.write F.ps.length l.data.toList))
      obtain ⟨c0, hc0⟩ : ∃ c, WG.cell? ⟨gG, F.ps.length * 3, none⟩ = some c := ⟨_, (oG.1.cellAt (F.ps.length * 3) (by omega)).trans (List.getElem?_eq_getElem (by rw [oG.1.1]; omega))⟩
      obtain ⟨c1, hc1⟩ : ∃ c, WG.cell? ⟨gG, F.ps.length * 3 + 1, none⟩ = some c := ⟨_, (oG.1.cellAt (F.ps.length * 3 + 1) (by omega)).trans (List.getElem?_eq_getElem (by rw [oG.1.1]; omega))⟩
      obtain ⟨c2, hc2'⟩ : ∃ c, WG.cell? ⟨gG, F.ps.length * 3 + 2, none⟩ = some c := ⟨_, (oG.1.cellAt (F.ps.length * 3 + 2) (by omega)).trans (List.getElem?_eq_getElem (by rw [oG.1.1]; omega))⟩
      obtain ⟨c3, hc3⟩ : ∃ c, WH.cell? ⟨gH, F.ps.length, none⟩ = some c := ⟨_, (oH.1.cellAt F.ps.length (by omega)).trans (List.getElem?_eq_getElem (by rw [oH.1.1]; omega))⟩
      have zG0 := oG.1.frozenAt (F.ps.length * 3)
      have zG1 := oG.1.frozenAt (F.ps.length * 3 + 1)
      have zG2 := oG.1.frozenAt (F.ps.length * 3 + 2)
      have zH := oH.1.frozenAt F.ps.length
      have zg0 := World.ownsRow.frozenAt DH.row.1 (j2 * 5)
      have zg1 := World.ownsRow.frozenAt DH.row.1 (j2 * 5 + 1)
      have zg2 := World.ownsRow.frozenAt DH.row.1 (j2 * 5 + 2)
      have zg3 := World.ownsRow.frozenAt DH.row.1 (j2 * 5 + 3)
      have zg4 := World.ownsRow.frozenAt DH.row.1 (j2 * 5 + 4)
      have g0 := (BH.bel.cell (p := ⟨g2, j2 * 5, none⟩) hg3).trans x0
      have g1 := (BH.bel.cell (p := ⟨g2, j2 * 5 + 1, none⟩) hg3).trans x1
      have g2' := (BH.bel.cell (p := ⟨g2, j2 * 5 + 2, none⟩) hg3).trans x2
      have g3 := (BH.bel.cell (p := ⟨g2, j2 * 5 + 3, none⟩) hg3).trans x3
      have g4 := (BH.bel.cell (p := ⟨g2, j2 * 5 + 4, none⟩) hg3).trans x4
      have rH0 := DH.roots.1
      have hgG3 : gG < WG.heap.size := (oG.1.lt gG rfl).2
      have hgH3 : gH < WH.heap.size := (oH.1.lt gH rfl).2
      have hg2G : ¬ g2 = gG := by omega
      have hg2H : ¬ g2 = gH := by omega
      have hgGf : ¬ gG = w3.heap.size := by omega
      have hgHf : ¬ gH = w3.heap.size := BH.ne oH.1 (by decide) gH rfl
      rw [hs1] at rA
      rw [set_size] at rC rE rG
      rw [set_size, set_size, set_size, set_size] at rH
      obtain ⟨y0, y1, y2, y3, y4⟩ := B1.box.cells
      obtain ⟨t0, t1, t2, t3, t4⟩ := BG.box.cells
      obtain ⟨u0, u1, u2, u3, u4⟩ := BG.box.frees
      obtain ⟨m0, m1, m2, m3, m4⟩ := BH.box.cells
      obtain ⟨n0, n1, n2, n3, n4⟩ := BH.box.frees
      have ltG := BG.lt
      have ltH := BH.lt
      obtain ⟨d0, d1, d2, d3, d4⟩ := BB.box.cells
      obtain ⟨e0, e1, e2, e3, e4⟩ := BB.box.frees
      obtain ⟨i0, i1, i2, i3, i4⟩ := BD.box.cells
      obtain ⟨j0, j1, j2', j3, j4⟩ := BD.box.frees
      obtain ⟨k0, k1, k2, k3, k4⟩ := BF.box.cells
      obtain ⟨o0, o1, o2, o3, o4⟩ := BF.box.frees
      have ltB := BB.lt
      have ltD := BD.lt
      have ltF := BF.lt
      have RA := hid rA
      have RB := hid rB
      have RC := hid rC
      have RD := hid rD
      have RE := hid rE
      have RF := hid rF
      have RG := hid rG
      have RH := hid rH
      clear rG rH bG bH oG oH lG lH BG B5 B6a B6b B6 BH B7 B8 B9 N8 D8 DH B4 B1 hG0 hH0 hf D2 hc2 hset hneS hR3 hzg lowG rA rB rC rD rE rF bA bB bC bD bE bF oA oB oC oD oE oF lA lC lE BB B2 BD B3 BF
      go_wp2_with (at_builtin; first | refine wpList_append_run rfl (.tmp 80) (.tmp 82) tCs tCs rfl _ _ (by simp [Act.eval]) (by simp [Act.eval]) RA.out ?_ | refine wpList_append_run rfl (.tmp 83) (.tmp 85) tCs tCs rfl _ _ (by simp [Act.eval]) (by simp [Act.eval]) RB.out ?_ | refine wpList_append_run rfl (.tmp 88) (.tmp 90) tBs tBs rfl _ _ (by simp [Act.eval]) (by simp [Act.eval]) RC.out ?_ | refine wpList_append_run rfl (.tmp 91) (.tmp 92) tBs tBs rfl _ _ (by simp [Act.eval]) (by simp [Act.eval]) RD.out ?_ | refine wpList_append_run rfl (.tmp 102) (.tmp 104) tCs tCs rfl _ _ (by simp [Act.eval]) (by simp [Act.eval]) RE.out ?_ | refine wpList_append_run rfl (.tmp 105) (.tmp 107) tCs tCs rfl _ _ (by simp [Act.eval]) (by simp [Act.eval]) RF.out ?_ | refine wpList_append_run rfl (.tmp 110) (.tmp 112) tCs tCs rfl _ _ (by simp [Act.eval]) (by simp [Act.eval]) RG.out ?_ | refine wpList_append_run rfl (.tmp 121) (.tmp 123) tBs tBs rfl _ _ (by simp [Act.eval]) (by simp [Act.eval]) RH.out ?_)
      go_region
      go_wp2
      go_ret
      refine ⟨ret_i (by rw [HE1.out, hsd.out]), ?_⟩
      rw [HE1.out, hsd.out]
      exact ref_out HP.out HSET.out HC.out
  have hqb := hq
  have hqlt : q < F.ps.length := by omega
  have hsd : Hid (writeD M.c.room s.data.toList q l.data.toList M.fs = (0, ins M.fs s.data.toList (F.write q l.data.toList))) := hid (by unfold writeD; simp only []; rw [hF.out, if_neg (by omega), if_neg (fun h => by omega)]; rfl)
  go_wp2
  refine Part.wp_region_quiet_in (fun wx => Below w1.heap.size w1 wx) (by kernel_rfl) (by kernel_rfl) (Below.refl _ _).drew ?_
  go_big_quiet_want
  go_big_quiet_op
  go_big_quiet_on
  go_big_quiet_want
  go_big_quiet_op
  refine ⟨.bool false, fun wx hx => ?_, ?_⟩
  · simp [go_sem, hjd]
  go_big_quiet_on
  go_big_quiet_want
  go_big_quiet_op
  go_big_quiet_on
  go_big_quiet_skip
  go_big_quiet_skip
  go_big_quiet_skip
  go_big_quiet_skip
  go_big_quiet_skip
  go_big_quiet_skip
  go_big_quiet_want
  go_big_quiet_op
  refine ⟨.bool false, fun wx hx => ?_, ?_⟩
  · simp [go_sem]
  go_big_quiet_on
  go_big_quiet_want
  go_big_quiet_op
  go_big_quiet_on
  go_big_quiet_want
  go_big_quiet_op
  go_big_quiet_on
  go_big_quiet_want
  go_big_quiet_op
  go_big_quiet_on
  go_big_quiet_want
  go_big_quiet_op
  refine ⟨.bool false, fun wx hx => ?_, ?_⟩
  · simp [go_sem] <;> omega
  go_big_quiet_on
  go_big_quiet_want
  go_big_quiet_op
  go_big_quiet_on
  go_big_quiet_skip
  go_big_quiet_skip
  go_big_quiet_skip
  go_big_quiet_skip
  go_big_quiet_skip
  go_big_quiet_skip
  go_big_quiet_skip
  go_big_quiet_want
  go_big_quiet_op
  refine ⟨.bool false, fun wx hx => ?_, ?_⟩
  · simp [go_sem]
  go_big_quiet_on
  go_big_quiet_want
  go_big_quiet_op
  refine ⟨.bool false, fun wx hx => ?_, ?_⟩
  · simp [go_sem]
  go_big_quiet_on
  refine wpQuiet_nil ?_
  intro w2 C2
  have hb12 : Below w1.heap.size w1 w2 := C2
  clear C2 x0 x1 x2 x3 x4 q0 q1 htot
  go_wp2_with fail
  refine (hmade.out w2 hb12).mono ?_
  rintro e w3 ⟨j2, v2, E2, rfl, D2, ⟨hj2, hE2⟩, hset, hl2, hc2⟩
  rw [hE] at hE2 hset
  rw [hF.out] at hE2
  have hFF : E2[j2].2.2 = F := by rw [hE2]
  have hNN : E2[j2].2.1 = s.data.toList := by rw [hE2]
  obtain ⟨ao2, cap2, hv2, hao2⟩ := row_shape D2.row.1
  obtain ⟨g2, hg2, -⟩ := hao2 (by omega)
  subst hg2
  subst hv2
  obtain ⟨bN, dN, bS, dS, bW, dW, eN, eS, eW, x0, x1, x2, x3, x4⟩ := D2.file hj2
  have hf := D2.files E2[j2] (List.getElem_mem hj2)
  obtain ⟨p0, -⟩ := D2.roots
  rw [hFF] at eN eS eW x1 x2 x3 hf
  rw [hNN] at hf
  have hR3 : ∀ b, w3.heap.size ≤ b → R b := fun b hb => hR1.out b (Nat.le_trans (Nat.le_trans hb12.size hc2.size) hb)
  have hg3 := (D2.row.1.lt g2 rfl).2
  have hr3 := lt_of_block D2.blk
  have hzg : ∀ i, w3.frozen? ⟨g2, i, none⟩ = false := fun i => World.ownsRow.frozenAt D2.row.1 i
  clear hao2 hE2 hFF hNN hl2
  generalize hX : E2[j2].1 = X at *
  obtain ⟨xn, xv, xs, xw, xu⟩ := X
  simp only at eN eS eW x0 x4
  subst eN eS eW
  have B1 : Box R w3 (w3.alloc (.cells #[.string xn, .slice bN F.ps.length dN, .slice bS F.ps.length dS, .slice bW F.ps.length dW, .bool xu] tF)) ⟨xn, .slice bN F.ps.length dN, .slice bS F.ps.length dS, .slice bW F.ps.length dW, xu⟩ F.ps.length F.ps.length F.ps.length (nowsC F.ps) (safesC F.ps) (waitsC F.ps) :=
    ⟨blk_new w3 _, (Below.refl _ _).alloc (Nat.le_refl _) _, hf.now.on ((Below.refl _ _).alloc (Nat.le_refl _) _), hf.safe.on ((Below.refl _ _).alloc (Nat.le_refl _) _), hf.wait.on ((Below.refl _ _).alloc (Nat.le_refl _) _), nows_one _, safes_one _, waits_one _⟩
  have hs1 : (w3.alloc (.cells #[.string xn, .slice bN F.ps.length dN, .slice bS F.ps.length dS, .slice bW F.ps.length dW, .bool xu] tF)).heap.size = w3.heap.size + 1 := by simp
  generalize hW1 : w3.alloc (.cells #[.string xn, .slice bN F.ps.length dN, .slice bS F.ps.length dS, .slice bW F.ps.length dW, .bool xu] tF) = W1 at *
  have B4 := B1
  obtain ⟨vG, WG, rG, bG, oG, lG⟩ := B4.copyN hR3 (by omega)
  obtain ⟨aG, cG, eG, hG0⟩ := row_shape oG.1
  obtain ⟨gG, hgG, -⟩ := hG0 (by omega)
  subst hgG
  subst eG
  have BG := B4.on bG
  have B5 := BG.setN oG B4.oN
  have lowG := lG gG rfl
  have lt4 := B4.lt
  have hfrG : w3.heap.size ≤ gG := by omega
  have hneS : ∀ g', (Value.slice bS F.ps.length dS).ownBlock = some g' → ¬ g' = gG := fun g' hg' e => by have := (B4.safe.1.lt g' hg').2; omega
  have B6a := B5.storeN rfl hfrG hneS (q * 3) (u := .bool true) rfl
  have B6b := B6a.storeN rfl hfrG hneS (q * 3 + 1) (u := .string l) rfl
  have B6 := B6b.storeN rfl hfrG hneS (q * 3 + 2) (u := .bool false) rfl
  obtain ⟨vH, WH, rH, bH, oH, lH⟩ := B6.copyW hR3 (by omega)
  obtain ⟨aH, cH, eH, hH0⟩ := row_shape oH.1
  obtain ⟨gH, hgH, -⟩ := hH0 (by omega)
  subst hgH
  subst eH
  have BH := B6.on bH
  have B7 := BH.setW oH B6.oW
  have hfrH : w3.heap.size ≤ gH := by have := lH gH rfl; have := B6.lt; omega
  have B8 := B7.storeW rfl hfrH q (u := .bool true) rfl
  have B9 : Box R w3 _ ⟨xn, .slice (some ⟨gG, 0, none⟩) F.ps.length cG, (Value.slice bS F.ps.length dS), .slice (some ⟨gH, 0, none⟩) F.ps.length cH, xu⟩ F.ps.length F.ps.length F.ps.length _ _ _ := B8
  have hFw : Hid (F.write q l.data.toList = { F with ps := F.ps.set q ⟨some l.data.toList, F.ps[q].safe, true⟩ }) := hid (write_over F hqlt _)
  have N8 := B9.file (n := s.data.toList) (F := F.write q l.data.toList) hf.name (by rw [hFw.out]; exact hf.sure) (by rw [hFw.out]; simp) (by rw [hFw.out]; simp) (by rw [hFw.out]; simp) (by rw [hFw.out]; exact nows_set F.ps q hqlt _ _ _) (by rw [hFw.out]; exact (safes_set F.ps q hqlt _ _).symm) (by rw [hFw.out]; exact waits_set F.ps q _ _)
  have D8 := D2.kept (F := fun _ => False) (Chg.of_below B8.bel) (fun h => h) (fun _ _ h => h) (Apart.none w3)
  have DH := D2.kept (F := fun _ => False) (Chg.of_below BH.bel) (fun h => h) (fun _ _ h => h) (Apart.none w3)
  have HP := hid (D8.put hj2 N8)
  have HC := hid ((((HC1.out.mono (fun k _ e => by rw [e]; exact hRr) : Chg R w w1).trans (Chg.of_below hb12)).trans hc2).trans ((Chg.of_below B8.bel : Chg R w3 _).trans ((putW_chg _ g2 j2 (⟨xn, .slice (some ⟨gG, 0, none⟩) F.ps.length cG, (Value.slice bS F.ps.length dS), .slice (some ⟨gH, 0, none⟩) F.ps.length cH, xu⟩ : FR)).mono (fun k _ e => by rw [e]; exact D2.row.2 g2 rfl))))
  have HSET := hid (hset (⟨xn, .slice (some ⟨gG, 0, none⟩) F.ps.length cG, (Value.slice bS F.ps.length dS), .slice (some ⟨gH, 0, none⟩) F.ps.length cH, xu⟩ : FR) (F.write q l.data.toList))
  obtain ⟨c0, hc0⟩ : ∃ c, WG.cell? ⟨gG, q * 3, none⟩ = some c := ⟨_, (oG.1.cellAt (q * 3) (by omega)).trans (List.getElem?_eq_getElem (by rw [oG.1.1]; omega))⟩
  obtain ⟨c1, hc1⟩ : ∃ c, WG.cell? ⟨gG, q * 3 + 1, none⟩ = some c := ⟨_, (oG.1.cellAt (q * 3 + 1) (by omega)).trans (List.getElem?_eq_getElem (by rw [oG.1.1]; omega))⟩
  obtain ⟨c2, hc2'⟩ : ∃ c, WG.cell? ⟨gG, q * 3 + 2, none⟩ = some c := ⟨_, (oG.1.cellAt (q * 3 + 2) (by omega)).trans (List.getElem?_eq_getElem (by rw [oG.1.1]; omega))⟩
  obtain ⟨c3, hc3⟩ : ∃ c, WH.cell? ⟨gH, q, none⟩ = some c := ⟨_, (oH.1.cellAt q (by omega)).trans (List.getElem?_eq_getElem (by rw [oH.1.1]; omega))⟩
  have zG0 := oG.1.frozenAt (q * 3)
  have zG1 := oG.1.frozenAt (q * 3 + 1)
  have zG2 := oG.1.frozenAt (q * 3 + 2)
  have zH := oH.1.frozenAt q
  have zg0 := World.ownsRow.frozenAt DH.row.1 (j2 * 5)
  have zg1 := World.ownsRow.frozenAt DH.row.1 (j2 * 5 + 1)
  have zg2 := World.ownsRow.frozenAt DH.row.1 (j2 * 5 + 2)
  have zg3 := World.ownsRow.frozenAt DH.row.1 (j2 * 5 + 3)
  have zg4 := World.ownsRow.frozenAt DH.row.1 (j2 * 5 + 4)
  have g0 := (BH.bel.cell (p := ⟨g2, j2 * 5, none⟩) hg3).trans x0
  have g1 := (BH.bel.cell (p := ⟨g2, j2 * 5 + 1, none⟩) hg3).trans x1
  have g2' := (BH.bel.cell (p := ⟨g2, j2 * 5 + 2, none⟩) hg3).trans x2
  have g3 := (BH.bel.cell (p := ⟨g2, j2 * 5 + 3, none⟩) hg3).trans x3
  have g4 := (BH.bel.cell (p := ⟨g2, j2 * 5 + 4, none⟩) hg3).trans x4
  have rH0 := DH.roots.1
  have hgG3 : gG < WG.heap.size := (oG.1.lt gG rfl).2
  have hgH3 : gH < WH.heap.size := (oH.1.lt gH rfl).2
  have hg2G : ¬ g2 = gG := by omega
  have hg2H : ¬ g2 = gH := by omega
  have hgGf : ¬ gG = w3.heap.size := by omega
  have hgHf : ¬ gH = w3.heap.size := BH.ne oH.1 (by decide) gH rfl
  rw [hs1] at rG
  rw [set_size, set_size, set_size, set_size] at rH
  obtain ⟨y0, y1, y2, y3, y4⟩ := B1.box.cells
  obtain ⟨t0, t1, t2, t3, t4⟩ := BG.box.cells
  obtain ⟨u0, u1, u2, u3, u4⟩ := BG.box.frees
  obtain ⟨m0, m1, m2, m3, m4⟩ := BH.box.cells
  obtain ⟨n0, n1, n2, n3, n4⟩ := BH.box.frees
  have ltG := BG.lt
  have ltH := BH.lt
  have RG := hid rG
  have RH := hid rH
  clear rG rH bG bH oG oH lG lH BG B5 B6a B6b B6 BH B7 B8 B9 N8 D8 DH B4 B1 hG0 hH0 hf D2 hc2 hset hneS hR3 hzg lowG 
  go_wp2_with (at_builtin; first | refine wpList_append_run rfl (.tmp 110) (.tmp 112) tCs tCs rfl _ _ (by simp [Act.eval]) (by simp [Act.eval]) RG.out ?_ | refine wpList_append_run rfl (.tmp 121) (.tmp 123) tBs tBs rfl _ _ (by simp [Act.eval]) (by simp [Act.eval]) RH.out ?_)
  go_region
  go_wp2
  go_ret
  refine ⟨ret_i (by rw [HE1.out, hsd.out]), ?_⟩
  rw [HE1.out, hsd.out]
  exact ref_out HP.out HSET.out HC.out
end
end Ref
end Go.Proofs.YtgmbiiocjhkpdaaGreat

namespace Go.Proofs.YtgmbiiocjhkpdaaGreat
open Go.RowKit
namespace Ref
open Disk
open Num (hid bcells)
section
variable {R : Nat → Prop} {w : World} {r : Nat} {v : Value} {E : Ens} {c : Ctl} {a k m : Int}
set_option maxRecDepth 100000 in
set_option maxHeartbeats 4000000 in
theorem rwrite_new {M : Mod} (hG : Good M) (h : Refs R r M w) (hR : ∀ b, w.heap.size ≤ b → R b) (s : ByteArray) (hs : s.size ≤ maxLen) (q : Nat) (l : ByteArray) (h256 : l.size = 256) (hr : M.c.refusal (nameFit s.data.toList) = 0) (hx : get? M.fs s.data.toList = none) :
    Calls Tryz.prog 64 #[ptr r, .string s, .int .i64 q, .string l] w fun e w' => e = .returned (.int .i64 (M.write s.data.toList q l.data.toList).1) ∧ RefOut R w r (M.write s.data.toList q l.data.toList).2 w' := by
  obtain ⟨v, E, a, k, m, D, hE⟩ := h
  have hRr := D.own
  have hfit : (nameFit s.data.toList && decide ((0 : Int) ≤ q) && decide (l.data.toList.length = 256)) = nameFit s.data.toList := by
    have hll : l.data.toList.length = l.size := by simp
    rw [hll, decide_eq_true (by omega), decide_eq_true h256, Bool.and_true, Bool.and_true]
  have hb := begin_any D hG.ok s hs false (nameFit s.data.toList) (by simp)
  have HBG := hid hb
  have h8 := hG.len hE
  have hl256 : ((l.size : Int) != 256) = false := by simp; omega
  have H256 := hid h256
  clear hb D h256
  have e1 : M.write s.data.toList q l.data.toList = ((writeD M.c.room s.data.toList q l.data.toList M.fs).1, ⟨M.c.begun (nameFit s.data.toList), (writeD M.c.room s.data.toList q l.data.toList M.fs).2⟩) := by
    unfold Mod.write
    rw [hfit]
    exact run_good hr
  have HE1 := hid e1
  have HRF := hid hr
  clear e1 hr hfit
  go_enter Tryz.func64, Tryz.ntmps64
  go_wp2_with fail
  refine HBG.out.mono ?_
  rintro e w1 ⟨rfl, hbeg⟩
  have HB := hid hbeg
  obtain ⟨a', k', m', D1, hc1⟩ := hbeg
  rw [HRF.out]
  have H := hid D1
  have HC1 := hid hc1
  clear D1 HBG hc1
  have hlens : ∀ x ∈ E, x.2.2.ps.length ≤ 20000 := fun x hx => by
    have := hG.lens x.2 (by rw [← hE]; exact List.mem_map_of_mem hx)
    omega
  have HL := hid hlens
  clear hlens
  have hrise := hid hG.rise
  go_wp2_with fail
  refine (place_any H.out (by omega) s).mono ?_
  rintro e w2 ⟨⟨j, rfl, hp⟩, rfl⟩
  obtain ⟨q0, q1, -⟩ := H.out.roots
  rw [begun_room] at q1
  have hroom0 := hG.ok.room
  have hlsum := lens_le E HL.out
  have hlb : (lensD (Ens.dir E) : Int) ≤ 2000000 := by omega
  have hR1 : Hid (∀ b, w1.heap.size ≤ b → R b) := hid (fun b hb => hR b (Nat.le_trans HC1.out.size hb))
  have hmade : Hid (∀ wx, Below w1.heap.size w1 wx → Calls Tryz.prog 87 #[ptr r, .string s] wx (MadeOut R wx r E (M.c.begun (nameFit s.data.toList)) a' k' m' s)) := hid (fun wx hx => made_any (H.out.kept (F := fun _ => False) (Chg.of_below hx) (fun h => h) (fun _ _ h => h) (Apart.none w1)) (fun b hb => hR1.out b (Nat.le_trans hx.size hb)) (by omega) (by rw [hE]; exact hrise.out) s)
  have hrr := lt_of_block H.out.blk
  have htot : Hid (∀ wx, Below w1.heap.size w1 wx → Calls Tryz.prog 101 #[ptr r] wx fun e w' => e = .returned (.int .i64 (lensD M.fs : Nat)) ∧ wx = w') := hid (fun wx hx => by
    have := total_any (H.out.kept (F := fun _ => False) (Chg.of_below hx) (fun h => h) (fun _ _ h => h) (Apart.none w1)) (by omega) HL.out
    rw [hE] at this
    exact this)
  obtain ⟨ao, cap, hv, hao⟩ := row_shape H.out.row.1
  subst hv
  rcases place_get hp with ⟨j, hj, rfl, hget, hn⟩ | ⟨rfl, hget⟩
  · exact absurd hget (by rw [hE, hx]; simp)
  have hlen : Hid (M.fs.length = E.length) := hid (by rw [← hE, dir_len])
  obtain ⟨F, hFe⟩ : ∃ F, F = emptyFil := ⟨_, rfl⟩
  have hF : Hid ((get? M.fs s.data.toList).getD emptyFil = F) := hid (by rw [hx, hFe]; rfl)
  have hnone : Hid ((get? M.fs s.data.toList).isSome = false) := hid (by rw [hx]; rfl)
  have hlF : F.ps.length = 0 := by rw [hFe]; rfl
  have hlj : F.ps.length ≤ 16384 := by omega
  clear hao hp hget hx hFe
  by_cases h14 : 0 < q
  · have hsd : Hid (writeD M.c.room s.data.toList q l.data.toList M.fs = (14, M.fs)) := hid (by unfold writeD; simp only []; rw [hF.out, if_pos (by omega)])
    clear hmade htot
    go_wp2
    go_ret
    exact ⟨ret_i (by rw [HE1.out, hsd.out]), HB.out.out (by rw [HE1.out, hsd.out]; exact hE) hRr (by rw [HE1.out])⟩
  have hqF : q = F.ps.length := by omega
  subst hqF
  have hz0 : ((F.ps.length : Int) == 0) = true := by rw [hlF]; rfl
  clear hlF
  by_cases hE8 : 8 ≤ E.length
  · have hsd : Hid (writeD M.c.room s.data.toList F.ps.length l.data.toList M.fs = (12, M.fs)) := hid (by unfold writeD; simp only []; rw [hF.out, if_neg (by omega), if_pos ⟨rfl, Or.inl (by unfold holdsB; rw [hnone.out, decide_eq_false (by rw [hlen.out]; omega)]; rfl)⟩])
    clear hmade htot
    go_wp2
    refine Part.wp_region_quiet_in (fun wx => Below w1.heap.size w1 wx) (by kernel_rfl) (by kernel_rfl) (Below.refl _ _).drew ?_
    go_big_quiet_want
    go_big_quiet_op
    go_big_quiet_on
    go_big_quiet_want
    go_big_quiet_op
    refine ⟨.bool true, fun wx hx => ?_, ?_⟩
    · simp [go_sem]
    go_big_quiet_on
    go_big_quiet_want
    go_big_quiet_op
    go_big_quiet_on
    go_big_quiet_want
    go_big_quiet_op
    go_big_quiet_on
    go_big_quiet_want
    go_big_quiet_op
    apply Exists.intro
    refine ⟨fun _ _ => ?_, ?_⟩
    · with_reducible exact Eq.refl _
    go_big_quiet_on
    go_big_quiet_want
    go_big_quiet_op
    apply Exists.intro
    refine ⟨fun _ _ => ?_, ?_⟩
    · with_reducible exact Eq.refl _
    go_big_quiet_on
    go_big_quiet_want
    go_big_quiet_op
    refine ⟨.slice ao E.length cap, fun wx hx => ?_, ?_⟩
    · have c := ((fun wx hx => (hx.cell (p := ⟨r, 0, none⟩) hrr).trans q0) : ∀ wx, Below w1.heap.size w1 wx → wx.cell? ⟨r, 0, none⟩ = some (.slice ao E.length cap)) wx hx
      simp [go_sem, c]
    go_big_quiet_on
    go_big_quiet_want
    go_big_quiet_op
    refine ⟨.int .i64 (E.length : Nat), fun wx hx => ?_, ?_⟩
    · simp [go_sem]
    go_big_quiet_on
    go_big_quiet_want
    go_big_quiet_op
    refine ⟨.bool true, fun wx hx => ?_, ?_⟩
    · simp [go_sem] <;> omega
    go_big_quiet_on
    go_big_quiet_want
    go_big_quiet_op
    refine ⟨.bool true, fun wx hx => ?_, ?_⟩
    · simp [go_sem]
    go_big_quiet_on
    go_big_quiet_want
    go_big_quiet_op
    go_big_quiet_on
    go_big_quiet_skip
    go_big_quiet_skip
    go_big_quiet_skip
    go_big_quiet_skip
    go_big_quiet_skip
    go_big_quiet_skip
    go_big_quiet_skip
    go_big_quiet_skip
    go_big_quiet_skip
    go_big_quiet_skip
    go_big_quiet_skip
    go_big_quiet_skip
    go_big_quiet_want
    go_big_quiet_op
    refine ⟨.bool true, fun wx hx => ?_, ?_⟩
    · simp [go_sem]
    go_big_quiet_on
    refine wpQuiet_nil ?_
    intro w2 C2
    go_wp2
    go_ret
    have hb12 : Below w1.heap.size w1 w2 := C2
    exact ⟨ret_i (by rw [HE1.out, hsd.out]), ⟨_, E, _, _, _, by rw [HE1.out]; exact H.out.kept (F := fun _ => False) (Chg.of_below hb12) (fun h => h) (fun _ _ h => h) (Apart.none w1), by rw [HE1.out, hsd.out]; exact hE⟩, (HC1.out.mono (fun k _ e => by rw [e]; exact hRr)).trans (Chg.of_below hb12)⟩
  by_cases hful : M.c.room ≤ (lensD M.fs : Int)
  · have hsd : Hid (writeD M.c.room s.data.toList F.ps.length l.data.toList M.fs = (12, M.fs)) := hid (by unfold writeD; simp only []; rw [hF.out, if_neg (by omega), if_pos ⟨rfl, Or.inr hful⟩])
    clear hmade
    go_wp2
    refine Part.wp_region_quiet_in (fun wx => Below w1.heap.size w1 wx) (by kernel_rfl) (by kernel_rfl) (Below.refl _ _).drew ?_
    go_big_quiet_want
    go_big_quiet_op
    go_big_quiet_on
    go_big_quiet_want
    go_big_quiet_op
    refine ⟨.bool true, fun wx hx => ?_, ?_⟩
    · simp [go_sem]
    go_big_quiet_on
    go_big_quiet_want
    go_big_quiet_op
    go_big_quiet_on
    go_big_quiet_want
    go_big_quiet_op
    go_big_quiet_on
    go_big_quiet_want
    go_big_quiet_op
    apply Exists.intro
    refine ⟨fun _ _ => ?_, ?_⟩
    · with_reducible exact Eq.refl _
    go_big_quiet_on
    go_big_quiet_want
    go_big_quiet_op
    apply Exists.intro
    refine ⟨fun _ _ => ?_, ?_⟩
    · with_reducible exact Eq.refl _
    go_big_quiet_on
    go_big_quiet_want
    go_big_quiet_op
    refine ⟨.slice ao E.length cap, fun wx hx => ?_, ?_⟩
    · have c := ((fun wx hx => (hx.cell (p := ⟨r, 0, none⟩) hrr).trans q0) : ∀ wx, Below w1.heap.size w1 wx → wx.cell? ⟨r, 0, none⟩ = some (.slice ao E.length cap)) wx hx
      simp [go_sem, c]
    go_big_quiet_on
    go_big_quiet_want
    go_big_quiet_op
    refine ⟨.int .i64 (E.length : Nat), fun wx hx => ?_, ?_⟩
    · simp [go_sem]
    go_big_quiet_on
    go_big_quiet_want
    go_big_quiet_op
    refine ⟨.bool false, fun wx hx => ?_, ?_⟩
    · simp [go_sem] <;> omega
    go_big_quiet_on
    go_big_quiet_want
    go_big_quiet_op
    refine ⟨.bool false, fun wx hx => ?_, ?_⟩
    · simp [go_sem]
    go_big_quiet_on
    go_big_quiet_want
    go_big_quiet_op
    go_big_quiet_on
    go_big_quiet_want
    go_big_quiet_op
    go_big_quiet_on
    go_big_quiet_want
    go_big_quiet_op
    go_big_quiet_on
    go_big_quiet_want
    go_big_quiet_op
    refine ⟨.bool true, fun wx hx => ?_, ?_⟩
    · simp [go_sem]
    go_big_quiet_on
    go_big_quiet_want
    go_big_quiet_op
    go_big_quiet_on
    go_big_quiet_want
    go_big_quiet_op
    go_big_quiet_on
    go_big_quiet_want
    go_big_quiet_op
    refine ⟨.int .i64 (lensD M.fs : Nat), fun wx hx => ?_, ?_⟩
    · refine (htot.out wx hx).mono ?_
      rintro e w3 ⟨rfl, rfl⟩
      exact ⟨rfl, hx⟩
    go_big_quiet_on
    go_big_quiet_want
    go_big_quiet_op
    go_big_quiet_on
    go_big_quiet_want
    go_big_quiet_op
    apply Exists.intro
    refine ⟨fun _ _ => ?_, ?_⟩
    · with_reducible exact Eq.refl _
    go_big_quiet_on
    go_big_quiet_want
    go_big_quiet_op
    apply Exists.intro
    refine ⟨fun _ _ => ?_, ?_⟩
    · with_reducible exact Eq.refl _
    go_big_quiet_on
    go_big_quiet_want
    go_big_quiet_op
    refine ⟨.int .i64 M.c.room, fun wx hx => ?_, ?_⟩
    · have c := ((fun wx hx => (hx.cell (p := ⟨r, 1, none⟩) hrr).trans q1) : ∀ wx, Below w1.heap.size w1 wx → wx.cell? ⟨r, 1, none⟩ = some (.int .i64 M.c.room)) wx hx
      simp [go_sem, c]
    go_big_quiet_on
    go_big_quiet_want
    go_big_quiet_op
    refine ⟨.bool true, fun wx hx => ?_, ?_⟩
    · simp [go_sem] <;> omega
    go_big_quiet_on
    go_big_quiet_want
    go_big_quiet_op
    refine ⟨.bool true, fun wx hx => ?_, ?_⟩
    · simp [go_sem]
    go_big_quiet_on
    go_big_quiet_want
    go_big_quiet_op
    refine ⟨.bool true, fun wx hx => ?_, ?_⟩
    · simp [go_sem]
    go_big_quiet_on
    refine wpQuiet_nil ?_
    intro w2 C2
    go_wp2
    go_ret
    have hb12 : Below w1.heap.size w1 w2 := C2
    exact ⟨ret_i (by rw [HE1.out, hsd.out]), ⟨_, E, _, _, _, by rw [HE1.out]; exact H.out.kept (F := fun _ => False) (Chg.of_below hb12) (fun h => h) (fun _ _ h => h) (Apart.none w1), by rw [HE1.out, hsd.out]; exact hE⟩, (HC1.out.mono (fun k _ e => by rw [e]; exact hRr)).trans (Chg.of_below hb12)⟩
  have hsd : Hid (writeD M.c.room s.data.toList F.ps.length l.data.toList M.fs = (0, ins M.fs s.data.toList (F.write F.ps.length l.data.toList))) := hid (by unfold writeD; simp only []; rw [hF.out, if_neg (by omega), if_neg (fun h => h.2.elim (fun h => by unfold holdsB at h; rw [decide_eq_true (show M.fs.length < 8 by rw [hlen.out]; omega)] at h; simp at h) hful)]; rfl)
  go_wp2
  refine Part.wp_region_quiet_in (fun wx => Below w1.heap.size w1 wx) (by kernel_rfl) (by kernel_rfl) (Below.refl _ _).drew ?_
  go_big_quiet_want
  go_big_quiet_op
  go_big_quiet_on
  go_big_quiet_want
  go_big_quiet_op
  refine ⟨.bool true, fun wx hx => ?_, ?_⟩
  · simp [go_sem]
  go_big_quiet_on
  go_big_quiet_want
  go_big_quiet_op
  go_big_quiet_on
  go_big_quiet_want
  go_big_quiet_op
  go_big_quiet_on
  go_big_quiet_want
  go_big_quiet_op
  apply Exists.intro
  refine ⟨fun _ _ => ?_, ?_⟩
  · with_reducible exact Eq.refl _
  go_big_quiet_on
  go_big_quiet_want
  go_big_quiet_op
  apply Exists.intro
  refine ⟨fun _ _ => ?_, ?_⟩
  · with_reducible exact Eq.refl _
  go_big_quiet_on
  go_big_quiet_want
  go_big_quiet_op
  refine ⟨.slice ao E.length cap, fun wx hx => ?_, ?_⟩
  · have c := ((fun wx hx => (hx.cell (p := ⟨r, 0, none⟩) hrr).trans q0) : ∀ wx, Below w1.heap.size w1 wx → wx.cell? ⟨r, 0, none⟩ = some (.slice ao E.length cap)) wx hx
    simp [go_sem, c]
  go_big_quiet_on
  go_big_quiet_want
  go_big_quiet_op
  refine ⟨.int .i64 (E.length : Nat), fun wx hx => ?_, ?_⟩
  · simp [go_sem]
  go_big_quiet_on
  go_big_quiet_want
  go_big_quiet_op
  refine ⟨.bool false, fun wx hx => ?_, ?_⟩
  · simp [go_sem] <;> omega
  go_big_quiet_on
  go_big_quiet_want
  go_big_quiet_op
  refine ⟨.bool false, fun wx hx => ?_, ?_⟩
  · simp [go_sem]
  go_big_quiet_on
  go_big_quiet_want
  go_big_quiet_op
  go_big_quiet_on
  go_big_quiet_want
  go_big_quiet_op
  go_big_quiet_on
  go_big_quiet_want
  go_big_quiet_op
  go_big_quiet_on
  go_big_quiet_want
  go_big_quiet_op
  refine ⟨.bool true, fun wx hx => ?_, ?_⟩
  · simp [go_sem]
  go_big_quiet_on
  go_big_quiet_want
  go_big_quiet_op
  go_big_quiet_on
  go_big_quiet_want
  go_big_quiet_op
  go_big_quiet_on
  go_big_quiet_want
  go_big_quiet_op
  refine ⟨.int .i64 (lensD M.fs : Nat), fun wx hx => ?_, ?_⟩
  · refine (htot.out wx hx).mono ?_
    rintro e w3 ⟨rfl, rfl⟩
    exact ⟨rfl, hx⟩
  go_big_quiet_on
  go_big_quiet_want
  go_big_quiet_op
  go_big_quiet_on
  go_big_quiet_want
  go_big_quiet_op
  apply Exists.intro
  refine ⟨fun _ _ => ?_, ?_⟩
  · with_reducible exact Eq.refl _
  go_big_quiet_on
  go_big_quiet_want
  go_big_quiet_op
  apply Exists.intro
  refine ⟨fun _ _ => ?_, ?_⟩
  · with_reducible exact Eq.refl _
  go_big_quiet_on
  go_big_quiet_want
  go_big_quiet_op
  refine ⟨.int .i64 M.c.room, fun wx hx => ?_, ?_⟩
  · have c := ((fun wx hx => (hx.cell (p := ⟨r, 1, none⟩) hrr).trans q1) : ∀ wx, Below w1.heap.size w1 wx → wx.cell? ⟨r, 1, none⟩ = some (.int .i64 M.c.room)) wx hx
    simp [go_sem, c]
  go_big_quiet_on
  go_big_quiet_want
  go_big_quiet_op
  refine ⟨.bool false, fun wx hx => ?_, ?_⟩
  · simp [go_sem] <;> omega
  go_big_quiet_on
  go_big_quiet_want
  go_big_quiet_op
  refine ⟨.bool false, fun wx hx => ?_, ?_⟩
  · simp [go_sem]
  go_big_quiet_on
  go_big_quiet_want
  go_big_quiet_op
  refine ⟨.bool false, fun wx hx => ?_, ?_⟩
  · simp [go_sem]
  go_big_quiet_on
  refine wpQuiet_nil ?_
  intro w2 C2
  have hb12 : Below w1.heap.size w1 w2 := C2
  clear C2 q0 q1 htot
  go_wp2_with fail
  refine (hmade.out w2 hb12).mono ?_
  rintro e w3 ⟨j2, v2, E2, rfl, D2, ⟨hj2, hE2⟩, hset, hl2, hc2⟩
  rw [hE] at hE2 hset
  rw [hF.out] at hE2
  have hFF : E2[j2].2.2 = F := by rw [hE2]
  have hNN : E2[j2].2.1 = s.data.toList := by rw [hE2]
  obtain ⟨ao2, cap2, hv2, hao2⟩ := row_shape D2.row.1
  obtain ⟨g2, hg2, -⟩ := hao2 (by omega)
  subst hg2
  subst hv2
  obtain ⟨bN, dN, bS, dS, bW, dW, eN, eS, eW, x0, x1, x2, x3, x4⟩ := D2.file hj2
  have hf := D2.files E2[j2] (List.getElem_mem hj2)
  obtain ⟨p0, -⟩ := D2.roots
  rw [hFF] at eN eS eW x1 x2 x3 hf
  rw [hNN] at hf
  have hR3 : ∀ b, w3.heap.size ≤ b → R b := fun b hb => hR1.out b (Nat.le_trans (Nat.le_trans hb12.size hc2.size) hb)
  have hg3 := (D2.row.1.lt g2 rfl).2
  have hr3 := lt_of_block D2.blk
  have hzg : ∀ i, w3.frozen? ⟨g2, i, none⟩ = false := fun i => World.ownsRow.frozenAt D2.row.1 i
  clear hao2 hE2 hFF hNN hl2
  generalize hX : E2[j2].1 = X at *
  obtain ⟨xn, xv, xs, xw, xu⟩ := X
  simp only at eN eS eW x0 x4
  subst eN eS eW
  have B1 : Box R w3 (w3.alloc (.cells #[.string xn, .slice bN F.ps.length dN, .slice bS F.ps.length dS, .slice bW F.ps.length dW, .bool xu] tF)) ⟨xn, .slice bN F.ps.length dN, .slice bS F.ps.length dS, .slice bW F.ps.length dW, xu⟩ F.ps.length F.ps.length F.ps.length (nowsC F.ps) (safesC F.ps) (waitsC F.ps) :=
    ⟨blk_new w3 _, (Below.refl _ _).alloc (Nat.le_refl _) _, hf.now.on ((Below.refl _ _).alloc (Nat.le_refl _) _), hf.safe.on ((Below.refl _ _).alloc (Nat.le_refl _) _), hf.wait.on ((Below.refl _ _).alloc (Nat.le_refl _) _), nows_one _, safes_one _, waits_one _⟩
  have hs1 : (w3.alloc (.cells #[.string xn, .slice bN F.ps.length dN, .slice bS F.ps.length dS, .slice bW F.ps.length dW, .bool xu] tF)).heap.size = w3.heap.size + 1 := by simp
  generalize hW1 : w3.alloc (.cells #[.string xn, .slice bN F.ps.length dN, .slice bS F.ps.length dS, .slice bW F.ps.length dW, .bool xu] tF) = W1 at *
  obtain ⟨vA, WA, rA, bA, oA, lA⟩ := B1.copyN hR3 (by omega)
  obtain ⟨aA, cA, eA, -⟩ := row_shape oA.1
  obtain ⟨vB, WB, rB, bB, oB⟩ := more_cell oA lA bA (fun b hb => hR3 b (by have := B1.lt; omega)) (by omega)
  obtain ⟨aB, cB, eB, -⟩ := row_shape oB.1
  subst eA eB
  have BB := B1.on bB
  have B2 := BB.setN oB (fun u hu => (List.mem_append.1 hu).elim (nows_one _ u) (fun h => by simp only [safeC, List.mem_cons, List.not_mem_nil, or_false] at h; rcases h with rfl | rfl | rfl <;> rfl))
  obtain ⟨vC, WC, rC, bC, oC, lC⟩ := B2.copyW hR3 (by omega)
  obtain ⟨aC, cC, eC, -⟩ := row_shape oC.1
  obtain ⟨vD, WD, rD, bD, oD⟩ := more_bool oC lC bC (fun b hb => hR3 b (by have := B2.lt; omega)) (by omega)
  obtain ⟨aD, cD, eD, -⟩ := row_shape oD.1
  subst eC eD
  have BD := B2.on bD
  have B3 := BD.setW oD (fun u hu => (List.mem_append.1 hu).elim (waits_one _ u) (fun h => by simp only [List.mem_singleton] at h; subst h; rfl))
  obtain ⟨vE, WE, rE, bE, oE, lE⟩ := B3.copyS hR3 (by omega)
  obtain ⟨aE, cE, eE, -⟩ := row_shape oE.1
  obtain ⟨vF, WF, rF, bF, oF⟩ := more_cell oE lE bE (fun b hb => hR3 b (by have := B3.lt; omega)) (by omega)
  obtain ⟨aF, cF, eF, -⟩ := row_shape oF.1
  subst eE eF
  have BF := B3.on bF
  have B4 := BF.setS oF (fun u hu => (List.mem_append.1 hu).elim (safes_one _ u) (fun h => by simp only [safeC, List.mem_cons, List.not_mem_nil, or_false] at h; rcases h with rfl | rfl | rfl <;> rfl))
  obtain ⟨vG, WG, rG, bG, oG, lG⟩ := B4.copyN hR3 (by omega)
  obtain ⟨aG, cG, eG, hG0⟩ := row_shape oG.1
  obtain ⟨gG, hgG, -⟩ := hG0 (by omega)
  subst hgG
  subst eG
  have BG := B4.on bG
  have B5 := BG.setN oG B4.oN
  have lowG := lG gG rfl
  have lt4 := B4.lt
  have hfrG : w3.heap.size ≤ gG := by omega
  have hneS : ∀ g', (Value.slice aF (F.ps.length + 1) cF).ownBlock = some g' → ¬ g' = gG := fun g' hg' e => by have := (B4.safe.1.lt g' hg').2; omega
  have B6a := B5.storeN rfl hfrG hneS (F.ps.length * 3) (u := .bool true) rfl
  have B6b := B6a.storeN rfl hfrG hneS (F.ps.length * 3 + 1) (u := .string l) rfl
  have B6 := B6b.storeN rfl hfrG hneS (F.ps.length * 3 + 2) (u := .bool false) rfl
  obtain ⟨vH, WH, rH, bH, oH, lH⟩ := B6.copyW hR3 (by omega)
  obtain ⟨aH, cH, eH, hH0⟩ := row_shape oH.1
  obtain ⟨gH, hgH, -⟩ := hH0 (by omega)
  subst hgH
  subst eH
  have BH := B6.on bH
  have B7 := BH.setW oH B6.oW
  have hfrH : w3.heap.size ≤ gH := by have := lH gH rfl; have := B6.lt; omega
  have B8 := B7.storeW rfl hfrH F.ps.length (u := .bool true) rfl
  have B9 : Box R w3 _ ⟨xn, .slice (some ⟨gG, 0, none⟩) (F.ps.length + 1) cG, (Value.slice aF (F.ps.length + 1) cF), .slice (some ⟨gH, 0, none⟩) (F.ps.length + 1) cH, xu⟩ (F.ps.length + 1) (F.ps.length + 1) (F.ps.length + 1) _ _ _ := B8
  have hFw : Hid (F.write F.ps.length l.data.toList = { F with ps := F.ps ++ [⟨some l.data.toList, none, true⟩] }) := hid (write_next F _)
  have N8 := B9.file (n := s.data.toList) (F := F.write F.ps.length l.data.toList) hf.name (by rw [hFw.out]; exact hf.sure) (by rw [hFw.out]; simp) (by rw [hFw.out]; simp) (by rw [hFw.out]; simp) (by rw [hFw.out]; exact (grown_now _ _)) (by rw [hFw.out]; exact grown_safe _ _) (by rw [hFw.out]; exact (grown_wait _ _))
  have D8 := D2.kept (F := fun _ => False) (Chg.of_below B8.bel) (fun h => h) (fun _ _ h => h) (Apart.none w3)
  have DH := D2.kept (F := fun _ => False) (Chg.of_below BH.bel) (fun h => h) (fun _ _ h => h) (Apart.none w3)
  have HP := hid (D8.put hj2 N8)
  have HC := hid ((((HC1.out.mono (fun k _ e => by rw [e]; exact hRr) : Chg R w w1).trans (Chg.of_below hb12)).trans hc2).trans ((Chg.of_below B8.bel : Chg R w3 _).trans ((putW_chg _ g2 j2 (⟨xn, .slice (some ⟨gG, 0, none⟩) (F.ps.length + 1) cG, (Value.slice aF (F.ps.length + 1) cF), .slice (some ⟨gH, 0, none⟩) (F.ps.length + 1) cH, xu⟩ : FR)).mono (fun k _ e => by rw [e]; exact D2.row.2 g2 rfl))))
  have HSET := hid (hset (⟨xn, .slice (some ⟨gG, 0, none⟩) (F.ps.length + 1) cG, (Value.slice aF (F.ps.length + 1) cF), .slice (some ⟨gH, 0, none⟩) (F.ps.length + 1) cH, xu⟩ : FR) (F.write F.ps.length l.data.toList))
  obtain ⟨c0, hc0⟩ : ∃ c, WG.cell? ⟨gG, F.ps.length * 3, none⟩ = some c := ⟨_, (oG.1.cellAt (F.ps.length * 3) (by omega)).trans (List.getElem?_eq_getElem (by rw [oG.1.1]; omega))⟩
  obtain ⟨c1, hc1⟩ : ∃ c, WG.cell? ⟨gG, F.ps.length * 3 + 1, none⟩ = some c := ⟨_, (oG.1.cellAt (F.ps.length * 3 + 1) (by omega)).trans (List.getElem?_eq_getElem (by rw [oG.1.1]; omega))⟩
  obtain ⟨c2, hc2'⟩ : ∃ c, WG.cell? ⟨gG, F.ps.length * 3 + 2, none⟩ = some c := ⟨_, (oG.1.cellAt (F.ps.length * 3 + 2) (by omega)).trans (List.getElem?_eq_getElem (by rw [oG.1.1]; omega))⟩
  obtain ⟨c3, hc3⟩ : ∃ c, WH.cell? ⟨gH, F.ps.length, none⟩ = some c := ⟨_, (oH.1.cellAt F.ps.length (by omega)).trans (List.getElem?_eq_getElem (by rw [oH.1.1]; omega))⟩
  have zG0 := oG.1.frozenAt (F.ps.length * 3)
  have zG1 := oG.1.frozenAt (F.ps.length * 3 + 1)
  have zG2 := oG.1.frozenAt (F.ps.length * 3 + 2)
  have zH := oH.1.frozenAt F.ps.length
  have zg0 := World.ownsRow.frozenAt DH.row.1 (j2 * 5)
  have zg1 := World.ownsRow.frozenAt DH.row.1 (j2 * 5 + 1)
  have zg2 := World.ownsRow.frozenAt DH.row.1 (j2 * 5 + 2)
  have zg3 := World.ownsRow.frozenAt DH.row.1 (j2 * 5 + 3)
  have zg4 := World.ownsRow.frozenAt DH.row.1 (j2 * 5 + 4)
  have g0 := (BH.bel.cell (p := ⟨g2, j2 * 5, none⟩) hg3).trans x0
  have g1 := (BH.bel.cell (p := ⟨g2, j2 * 5 + 1, none⟩) hg3).trans x1
  have g2' := (BH.bel.cell (p := ⟨g2, j2 * 5 + 2, none⟩) hg3).trans x2
  have g3 := (BH.bel.cell (p := ⟨g2, j2 * 5 + 3, none⟩) hg3).trans x3
  have g4 := (BH.bel.cell (p := ⟨g2, j2 * 5 + 4, none⟩) hg3).trans x4
  have rH0 := DH.roots.1
  have hgG3 : gG < WG.heap.size := (oG.1.lt gG rfl).2
  have hgH3 : gH < WH.heap.size := (oH.1.lt gH rfl).2
  have hg2G : ¬ g2 = gG := by omega
  have hg2H : ¬ g2 = gH := by omega
  have hgGf : ¬ gG = w3.heap.size := by omega
  have hgHf : ¬ gH = w3.heap.size := BH.ne oH.1 (by decide) gH rfl
  rw [hs1] at rA
  rw [set_size] at rC rE rG
  rw [set_size, set_size, set_size, set_size] at rH
  obtain ⟨y0, y1, y2, y3, y4⟩ := B1.box.cells
  obtain ⟨t0, t1, t2, t3, t4⟩ := BG.box.cells
  obtain ⟨u0, u1, u2, u3, u4⟩ := BG.box.frees
  obtain ⟨m0, m1, m2, m3, m4⟩ := BH.box.cells
  obtain ⟨n0, n1, n2, n3, n4⟩ := BH.box.frees
  have ltG := BG.lt
  have ltH := BH.lt
  obtain ⟨d0, d1, d2, d3, d4⟩ := BB.box.cells
  obtain ⟨e0, e1, e2, e3, e4⟩ := BB.box.frees
  obtain ⟨i0, i1, i2, i3, i4⟩ := BD.box.cells
  obtain ⟨j0, j1, j2', j3, j4⟩ := BD.box.frees
  obtain ⟨k0, k1, k2, k3, k4⟩ := BF.box.cells
  obtain ⟨o0, o1, o2, o3, o4⟩ := BF.box.frees
  have ltB := BB.lt
  have ltD := BD.lt
  have ltF := BF.lt
  have RA := hid rA
  have RB := hid rB
  have RC := hid rC
  have RD := hid rD
  have RE := hid rE
  have RF := hid rF
  have RG := hid rG
  have RH := hid rH
  clear rG rH bG bH oG oH lG lH BG B5 B6a B6b B6 BH B7 B8 B9 N8 D8 DH B4 B1 hG0 hH0 hf D2 hc2 hset hneS hR3 hzg lowG rA rB rC rD rE rF bA bB bC bD bE bF oA oB oC oD oE oF lA lC lE BB B2 BD B3 BF
  go_wp2_with (at_builtin; first | refine wpList_append_run rfl (.tmp 80) (.tmp 82) tCs tCs rfl _ _ (by simp [Act.eval]) (by simp [Act.eval]) RA.out ?_ | refine wpList_append_run rfl (.tmp 83) (.tmp 85) tCs tCs rfl _ _ (by simp [Act.eval]) (by simp [Act.eval]) RB.out ?_ | refine wpList_append_run rfl (.tmp 88) (.tmp 90) tBs tBs rfl _ _ (by simp [Act.eval]) (by simp [Act.eval]) RC.out ?_ | refine wpList_append_run rfl (.tmp 91) (.tmp 92) tBs tBs rfl _ _ (by simp [Act.eval]) (by simp [Act.eval]) RD.out ?_ | refine wpList_append_run rfl (.tmp 102) (.tmp 104) tCs tCs rfl _ _ (by simp [Act.eval]) (by simp [Act.eval]) RE.out ?_ | refine wpList_append_run rfl (.tmp 105) (.tmp 107) tCs tCs rfl _ _ (by simp [Act.eval]) (by simp [Act.eval]) RF.out ?_ | refine wpList_append_run rfl (.tmp 110) (.tmp 112) tCs tCs rfl _ _ (by simp [Act.eval]) (by simp [Act.eval]) RG.out ?_ | refine wpList_append_run rfl (.tmp 121) (.tmp 123) tBs tBs rfl _ _ (by simp [Act.eval]) (by simp [Act.eval]) RH.out ?_)
  go_region
  go_wp2
  go_ret
  refine ⟨ret_i (by rw [HE1.out, hsd.out]), ?_⟩
  rw [HE1.out, hsd.out]
  exact ref_out HP.out HSET.out HC.out
end
end Ref
end Go.Proofs.YtgmbiiocjhkpdaaGreat

namespace Go.Proofs.YtgmbiiocjhkpdaaGreat
open Go.RowKit
namespace Ref
open Disk
open Num (hid bcells)
section
variable {R : Nat → Prop} {w : World} {r : Nat} {v : Value} {E : Ens} {c : Ctl} {a k m : Int}
set_option maxRecDepth 100000 in
set_option maxHeartbeats 4000000 in
theorem rwrite_neg {M : Mod} (hG : Good M) (h : Refs R r M w) (_hR : ∀ b, w.heap.size ≤ b → R b) (s : ByteArray) (hs : s.size ≤ maxLen) (i : Int) (l : ByteArray) (hi : i < 0) :
    Calls Tryz.prog 64 #[ptr r, .string s, .int .i64 i, .string l] w fun e w' => e = .returned (.int .i64 (M.write s.data.toList i l.data.toList).1) ∧ RefOut R w r (M.write s.data.toList i l.data.toList).2 w' := by
  obtain ⟨v, E, a, k, m, D, hE⟩ := h
  have hRr := D.own
  have hll : l.data.toList.length = l.size := by simp
  have hfit : (nameFit s.data.toList && decide (0 ≤ i) && decide (l.data.toList.length = 256)) = (nameFit s.data.toList && !true) := by
    rw [decide_eq_false (by omega)]; simp
  have hb := begin_any D hG.ok s hs true (nameFit s.data.toList && !true) rfl
  have HBG := hid hb
  have h8 := hG.len hE
  have hrr : M.c.refusal (nameFit s.data.toList && !true) ≠ 0 := by
    rw [Bool.not_true, Bool.and_false]; simp [Ctl.refusal]
  have e1 : M.write s.data.toList i l.data.toList = (M.c.refusal (nameFit s.data.toList && !true), ⟨M.c.begun (nameFit s.data.toList && !true), M.fs⟩) := by
    unfold Mod.write
    rw [hfit]
    exact run_bad hrr
  have HE1 := hid e1
  generalize hq : M.c.refusal (nameFit s.data.toList && !true) = q at *
  have hq0 : (q != 0) = true := by simpa using hrr
  have hzb : ((l.size : Int) != 256) = ((l.size : Int) != 256) := rfl
  clear e1 hrr hq hfit hb D hll hzb
  go_enter Tryz.func64, Tryz.ntmps64
  go_wp2_with fail
  refine HBG.out.mono ?_
  rintro e w1 ⟨rfl, hbeg⟩
  have HB := hid hbeg
  clear hbeg HBG
  go_wp2
  go_ret
  exact ⟨ret_i (by rw [HE1.out]), HB.out.out (by rw [HE1.out]; exact hE) hRr (by rw [HE1.out])⟩

set_option maxRecDepth 100000 in
set_option maxHeartbeats 4000000 in
theorem rwrite_len {M : Mod} (hG : Good M) (h : Refs R r M w) (_hR : ∀ b, w.heap.size ≤ b → R b) (s : ByteArray) (hs : s.size ≤ maxLen) (i : Int) (l : ByteArray) (h0 : ¬ i < 0) (hz : l.size ≠ 256) :
    Calls Tryz.prog 64 #[ptr r, .string s, .int .i64 i, .string l] w fun e w' => e = .returned (.int .i64 (M.write s.data.toList i l.data.toList).1) ∧ RefOut R w r (M.write s.data.toList i l.data.toList).2 w' := by
  obtain ⟨v, E, a, k, m, D, hE⟩ := h
  have hRr := D.own
  have hll : l.data.toList.length = l.size := by simp
  have hfit : (nameFit s.data.toList && decide (0 ≤ i) && decide (l.data.toList.length = 256)) = (nameFit s.data.toList && !true) := by
    rw [hll, decide_eq_false hz]; simp
  have hb := begin_any D hG.ok s hs true (nameFit s.data.toList && !true) rfl
  have HBG := hid hb
  have h8 := hG.len hE
  have hrr : M.c.refusal (nameFit s.data.toList && !true) ≠ 0 := by
    rw [Bool.not_true, Bool.and_false]; simp [Ctl.refusal]
  have e1 : M.write s.data.toList i l.data.toList = (M.c.refusal (nameFit s.data.toList && !true), ⟨M.c.begun (nameFit s.data.toList && !true), M.fs⟩) := by
    unfold Mod.write
    rw [hfit]
    exact run_bad hrr
  have HE1 := hid e1
  generalize hq : M.c.refusal (nameFit s.data.toList && !true) = q at *
  have hq0 : (q != 0) = true := by simpa using hrr
  have hzb : ((l.size : Int) != 256) = true := by simp; omega
  clear e1 hrr hq hfit hb D hll hz
  go_enter Tryz.func64, Tryz.ntmps64
  go_wp2_with fail
  refine HBG.out.mono ?_
  rintro e w1 ⟨rfl, hbeg⟩
  have HB := hid hbeg
  clear hbeg HBG
  go_wp2
  go_ret
  exact ⟨ret_i (by rw [HE1.out]), HB.out.out (by rw [HE1.out]; exact hE) hRr (by rw [HE1.out])⟩

set_option maxRecDepth 100000 in
set_option maxHeartbeats 4000000 in
theorem rwrite_ref {M : Mod} (hG : Good M) (h : Refs R r M w) (_hR : ∀ b, w.heap.size ≤ b → R b) (s : ByteArray) (hs : s.size ≤ maxLen) (i : Int) (l : ByteArray) (h0 : ¬ i < 0) (hz : l.size = 256) (hr : M.c.refusal (nameFit s.data.toList) ≠ 0) :
    Calls Tryz.prog 64 #[ptr r, .string s, .int .i64 i, .string l] w fun e w' => e = .returned (.int .i64 (M.write s.data.toList i l.data.toList).1) ∧ RefOut R w r (M.write s.data.toList i l.data.toList).2 w' := by
  obtain ⟨v, E, a, k, m, D, hE⟩ := h
  have hRr := D.own
  have hll : l.data.toList.length = l.size := by simp
  have hfit : (nameFit s.data.toList && decide (0 ≤ i) && decide (l.data.toList.length = 256)) = (nameFit s.data.toList && !false) := by
    rw [hll, decide_eq_true (by omega), decide_eq_true hz]; simp
  have hb := begin_any D hG.ok s hs false (nameFit s.data.toList && !false) rfl
  have HBG := hid hb
  have h8 := hG.len hE
  have hrr : M.c.refusal (nameFit s.data.toList && !false) ≠ 0 := by
    simpa using hr
  have e1 : M.write s.data.toList i l.data.toList = (M.c.refusal (nameFit s.data.toList && !false), ⟨M.c.begun (nameFit s.data.toList && !false), M.fs⟩) := by
    unfold Mod.write
    rw [hfit]
    exact run_bad hrr
  have HE1 := hid e1
  generalize hq : M.c.refusal (nameFit s.data.toList && !false) = q at *
  have hq0 : (q != 0) = true := by simpa using hrr
  have hzb : ((l.size : Int) != 256) = false := by simp; omega
  clear e1 hrr hq hfit hb D hll hz hr
  go_enter Tryz.func64, Tryz.ntmps64
  go_wp2_with fail
  refine HBG.out.mono ?_
  rintro e w1 ⟨rfl, hbeg⟩
  have HB := hid hbeg
  clear hbeg HBG
  go_wp2
  go_ret
  exact ⟨ret_i (by rw [HE1.out]), HB.out.out (by rw [HE1.out]; exact hE) hRr (by rw [HE1.out])⟩

theorem rwrite_any {M : Mod} (hG : Good M) (h : Refs R r M w) (hR : ∀ b, w.heap.size ≤ b → R b) (s : ByteArray) (hs : s.size ≤ maxLen) (i : Int) (l : ByteArray) :
    Calls Tryz.prog 64 #[ptr r, .string s, .int .i64 i, .string l] w fun e w' => e = .returned (.int .i64 (M.write s.data.toList i l.data.toList).1) ∧ RefOut R w r (M.write s.data.toList i l.data.toList).2 w' := by
  by_cases hi : i < 0
  · exact rwrite_neg hG h hR s hs i l hi
  by_cases hz : l.size = 256
  · by_cases hr : M.c.refusal (nameFit s.data.toList) = 0
    · obtain ⟨q, rfl⟩ := Int.eq_ofNat_of_zero_le (show 0 ≤ i by omega)
      cases hx : get? M.fs s.data.toList with
      | none => exact rwrite_new hG h hR s hs q l hz hr hx
      | some F => exact rwrite_found hG h hR s hs q l hz hr (by rw [hx]; rfl)
    · exact rwrite_ref hG h hR s hs i l hi hz hr
  · exact rwrite_len hG h hR s hs i l hi hz
end
end Ref
end Go.Proofs.YtgmbiiocjhkpdaaGreat
