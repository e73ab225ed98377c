/-
  Contracts of list.tree and of List.
-/
import Derived.Test.YtoifhcmgeackdaaGreatDoorGrpTrTc
namespace Go.Proofs.YtoifhcmgeackdaaGreatDoor
open Go.RowKit
namespace Tr
open Num (hid)
open Mem (Bs bs ptr Chg tI tIs)
open Sp (Hd)
open Sh (ShL St Two Wf)
open Ch (pV ints valM cV cO)
open No (N C NOw NAt Nb nV tN tC gObj)
variable {s d N cnt lb mb : Nat} {lim : Int} {h : Hd} {arm : Int} {S : St} {vp : Value} {L P : List Int} {w0 w : World}
/-- The contract, at so many levels. -/
def TreeC (s d N cnt lb mb : Nat) (lim : Int) (h : Hd) (arm : Int) (S : St) (w0 : World) (lev : Int) (g : Int → Option (List Int)) : Prop :=
  ∀ (p : Int) (P : List Int) (vp : Value) (L : List Int) (w : World), g p = some P → newM L P = true → (∀ x ∈ P, Wf x) → L.length + P.length ≤ 800000 → Ls s d N lb mb vp L w → ShL s d N cnt lim h arm S w0 w →
    Calls Tryz.prog 67 #[ptr lb, .int .i64 p, .int .i64 lev] w (TreePost s d N cnt lb mb lim h arm S vp L P w0 w)
theorem bes_same {vq v1 : Value} {L1 Lj : List Int} {W w1 : World} (m : Beside s d N cnt lb mb lim h arm S v1 vq Lj w0 W w1) (_l0 : Ls s d N lb mb v1 L1 W) (g : Nat) (h1 : g < W.heap.size) (h2 : g ≠ s ∧ g ≠ d ∧ ¬ LsF lb mb v1 g) : w1.heap[g]? = W.heap[g]? :=
  m.chg.block g h1 (fun e => by
    rcases e with (e | e) | e
    · exact h2.1 e
    · exact h2.2.1 e
    · exact h2.2.2 e)
set_option maxRecDepth 100000 in
set_option maxHeartbeats 16000000 in
theorem list_step (ha : arm < 1) (k : Nat) (hk : k ≤ 20) (HIH : TreeC s d N cnt lb mb lim h arm S w0 ((k : Int) - 1) (listM S.f k)) : TreeC s d N cnt lb mb lim h arm S w0 (k : Int) (listM S.f (k + 1)) := by
  intro p P vp L w hg hnew hwf hlen hL hS
  obtain ⟨hl0, hl1, hl2, rfl⟩ := list_some hg
  have hnew1 : newM L [p] = true := by rw [newM_app] at hnew; simp only [Bool.and_eq_true] at hnew; exact hnew.1
  have hnew2 : newM (L ++ [p]) ((loadM S.f p).1.cs.flatMap (cellPg S.f)) = true ∧ newM (L ++ [p] ++ (loadM S.f p).1.cs.flatMap (cellPg S.f)) ((loadM S.f p).1.ps.flatMap fun q => (listM S.f k q).getD []) = true := by
    rw [newM_app, newM_app] at hnew
    simp only [Bool.and_eq_true] at hnew
    exact hnew.2
  have hwp : Wf p := hwf p (by simp)
  have hwc : ∀ x ∈ (loadM S.f p).1.cs.flatMap (cellPg S.f), Wf x := fun x hx => hwf x (by simp only [List.mem_append]; exact Or.inr (Or.inl hx))
  have hwk : ∀ x ∈ (loadM S.f p).1.ps.flatMap (fun q => (listM S.f k q).getD []), Wf x := fun x hx => hwf x (by simp only [List.mem_append]; exact Or.inr (Or.inr hx))
  have HLEN : Hid (L.length + 1 + ((loadM S.f p).1.cs.flatMap (cellPg S.f)).length + ((loadM S.f p).1.ps.flatMap (fun q => (listM S.f k q).getD [])).length ≤ 800000) := hid (by
    simp only [List.length_append, List.length_singleton] at hlen
    omega)
  obtain ⟨hrd, -⟩ := load_read (f := S.f) (p := p) hl0
  have HRD := hid hrd
  have HAM := hid ha
  have HREC := hid HIH
  have HLD := hid (fun (wz : World) (kz : ShL s d N cnt lim h arm S w0 wz) => load_any kz ha hwp)
  unfold LoadPost at HLD
  have HNC := hid (And.intro hl1 (And.intro hnew2.1 hwc))
  have HNK := hid (And.intro hl2 (And.intro hnew2.2 hwk))
  have hbA : Below w.heap.size w (w.alloc (.cells #[.int .i64 p] tI)) := (Below.refl _ _).alloc (Nat.le_refl _) _
  have LA := hL.on hbA
  have KA := hS.kept hbA
  have HADD := hid (add_any (ao := some ⟨w.heap.size, 0, none⟩) (cap := 1) (l := [p]) LA ⟨KA.size, KA.at'.lt.1, KA.at'.lt.2⟩ (fun j hj => by
    have hj0 : j = 0 := by simpa using hj
    subst hj0
    refine ⟨w.heap.size, 0, rfl, by simp, fun e => ?_, ?_⟩
    · rcases e with e | e | e
      · have := lt_of_block hL.bx; omega
      · have := hL.set.lt; omega
      · have := (World.ownsRow.lt hL.row _ e).2; omega
    · rw [Nat.zero_add, Mem.blk_cell (Mem.blk_new w _) 0]
      rfl) (fun x hx => by rw [List.mem_singleton.1 hx]; exact hwp) hnew1 (by simp only [List.length_append, List.length_singleton] at hlen ⊢; omega))
  have HKA := hid KA
  have HLA := hid LA
  have HBA := hid hbA
  have hlev : ¬ (k : Int) < 0 := by omega
  rw [hl0] at HLD
  generalize (loadM S.f p).1 = n at *
  clear hg hnew hwf hlen hL hS hl0 hl1 hl2 hnew1 hnew2 hwp hwc hwk hrd ha HIH LA KA hbA
  go_enter Tryz.func67, Tryz.ntmps67
  go_wp2_with fail
  refine HADD.out.mono ?_
  rintro e w1 ⟨v1, rfl, ls1, hq1, ch1⟩
  have L1 := hid ls1
  have K1 := hid (shl_ls HKA.out HLA.out ch1)
  have Q1 : Hid (∀ g, v1.ownBlock = some g → vp.ownBlock = some g ∨ w.heap.size ≤ g) := hid (fun g e => by
    rcases hq1 g e with e | e
    · exact Or.inl e
    · exact Or.inr (by simp at e; omega))
  have C1 : Hid (Chg (fun g => Two s d g ∨ LsF lb mb vp g) w w1) := hid ((Chg.of_below HBA.out).trans (ch1.mono (fun g _ e => Or.inr e)))
  have x0 := Mem.blk_cell ls1.bx 0
  have hlb := lt_of_block ls1.bx
  have HLL := hid (HLD.out w1 K1.out)
  clear ls1 hq1 ch1 HADD HLD
  go_wp2_with fail
  refine HLL.out.mono ?_
  rintro e w2 ⟨⟨ks, cs, ps, rfl, ho⟩, hb2⟩
  obtain ⟨a1, c1, a2, c2, a3, c3, rfl, rfl, rfl⟩ := No.nat_slices ho.nat
  have hb3 : Below w2.heap.size w2 (w2.alloc (gObj n (.slice a1 n.ks.length c1) (.slice a2 n.cs.length c2) (.slice a3 n.ps.length c3))) := (Below.refl _ _).alloc (Nat.le_refl _) _
  have L3 := hid ((L1.out.on hb2).on hb3)
  have K3 := hid ((K1.out.kept hb2).kept hb3)
  have C3 := hid ((C1.out.trans (Chg.of_below hb2)).trans (Chg.of_below hb3))
  have NA3 := hid (ho.nat.on hb3)
  have HBX := hid (Nb.new n.f (.slice a1 n.ks.length c1) (.slice a2 n.cs.length c2) (.slice a3 n.ps.length c3) w2)
  have hcc := World.ownsRow.lt ho.c
  have hpp := World.ownsRow.lt ho.p
  have hv1 : ∀ g, v1.ownBlock = some g → g < w1.heap.size := fun g e => (World.ownsRow.lt L1.out.row g e).2
  have HAP : Hid (∀ g, w1.heap.size ≤ g → g ≠ s ∧ g ≠ d ∧ ¬ LsF lb mb v1 g) := hid (fun g hg => by
    have h1 := K1.out.at'.lt
    have h2 := lt_of_block L1.out.bx
    have h3 := L1.out.set.lt
    refine ⟨by omega, by omega, fun e => ?_⟩
    rcases e with e | e | e
    · omega
    · omega
    · have := hv1 g e; omega)
  have HCB : Hid (∀ g, (Value.slice a2 n.cs.length c2).ownBlock = some g → w1.heap.size ≤ g) := hid (fun g e => (hcc g e).1)
  have HPB : Hid (∀ g, (Value.slice a3 n.ps.length c3).ownBlock = some g → w1.heap.size ≤ g) := hid (fun g e => (hpp g e).1)
  have M0 : Hid (Beside s d N cnt lb mb lim h arm S v1 v1 (L ++ [p]) w0 (w2.alloc (gObj n (.slice a1 n.ks.length c1) (.slice a2 n.cs.length c2) (.slice a3 n.ps.length c3))) (w2.alloc (gObj n (.slice a1 n.ks.length c1) (.slice a2 n.cs.length c2) (.slice a3 n.ps.length c3)))) := hid ⟨L3.out, K3.out, fun g e => Or.inl e, Chg.refl _ _⟩
  have HB2S : Hid (w1.heap.size ≤ w2.heap.size) := hid hb2.size
  have HSZ3 : Hid ((w2.alloc (gObj n (.slice a1 n.ks.length c1) (.slice a2 n.cs.length c2) (.slice a3 n.ps.length c3))).heap.size = w2.heap.size + 1) := hid (by simp)
  obtain ⟨b0, b1, b2, b3⟩ := HBX.out.cells
  dsimp only [nV]
  clear ho hb2 hb3 hcc hpp hv1 x0 hlb HLL
  have hne0 : (0 : Int) = 0 := rfl
  go_upto_region 9 with fail
  generalize w2.alloc (.cells #[.bool n.f, .slice a1 n.ks.length c1, .slice a2 n.cs.length c2, .slice a3 n.ps.length c3] No.tN) = W at *
  generalize w2.heap.size = bx at *
  clear hne0
  have hcl := HRD.out.few.2.1
  have hpl := HRD.out.few.2.2
  have hbl : bx < W.heap.size := by have := HSZ3.out; omega
  go_wp2_with fail
  go_loopw [42] (fun iv wr => ∃ (j : Nat) (vq : Value), iv = .int .i64 (j : Int) ∧ j ≤ n.cs.length ∧ Hid (Beside s d N cnt lb mb lim h arm S v1 vq (L ++ [p] ++ (n.cs.take j).flatMap (cellPg S.f)) w0 W wr)) (fun iv _ => n.cs.length - (intOf iv).toNat)
  case atStart => exact ⟨0, v1, rfl, Nat.zero_le _, by simpa using M0⟩
  case round =>
    obtain ⟨j, vq, rfl, hj, HM⟩ := hrel
    by_cases hlt : j < n.cs.length
    · have hle : (j : Int) < (n.cs.length : Int) := by omega
      obtain ⟨ao, cap, e1, -, hcc, hcell⟩ := No.CAt.ways3 NA3.out.c
      cases e1
      obtain ⟨g, o, rfl, hgl, z0, z1, z2⟩ := hcell j hlt
      have hga := HAP.out g (HCB.out g rfl)
      have y0 := HM.out.cell hgl hga z0
      have y1 := HM.out.cell hgl hga z1
      have y2 := HM.out.cell hgl hga z2
      have her := HNC.out.1 _ (List.getElem_mem hlt)
      have hpart := new_part HNC.out.2.1 hlt
      have hnx := flat_next (g := cellPg S.f) hlt
      have HWX : Hid (∀ x ∈ cellPg S.f n.cs[j], Wf x) := hid (fun x hx => HNC.out.2.2 x (List.mem_flatMap.2 ⟨_, List.getElem_mem hlt, hx⟩))
      have hll : ((n.cs.take j).flatMap (cellPg S.f)).length + (cellPg S.f n.cs[j]).length ≤ (n.cs.flatMap (cellPg S.f)).length := by
        rw [flat_split (cellPg S.f) n.cs hlt, List.length_append, List.length_append]; omega
      generalize hc : n.cs[j] = c at *
      have HER := hid her
      have HPART := hid hpart
      have HNX := hid hnx
      have HLL2 : Hid ((L ++ [p] ++ (n.cs.take j).flatMap (cellPg S.f)).length + (cellPg S.f c).length ≤ 800000) := hid (by
        have := HLEN.out
        simp only [List.length_append, List.length_singleton]
        omega)
      have ba : Below wr.heap.size wr ((wr.alloc (cO c)).drew) := ((Below.refl _ _).alloc (Nat.le_refl _) _).drew
      have MA := hid (HM.out.on ba)
      have HCL := hid (Ch.list_any MA.out.sh (by have := HAM.out; omega) c)
      have l0 := Mem.blk_cell HM.out.ls.bx 0
      have hlb := lt_of_block HM.out.ls.bx
      have HBIG : Hid (∀ g, ((wr.alloc (cO c)).drew).heap.size ≤ g → ¬ LsF lb mb vq g) := hid (fun g hg e => by
        have h0 := ba.size
        rcases e with e | e | e
        · have := lt_of_block HM.out.ls.bx; omega
        · have := HM.out.ls.set.lt; omega
        · have := (World.ownsRow.lt HM.out.ls.row g e).2; omega)
      clear hcell z0 z1 z2 hga her hpart hnx hll ba hgl hc
      go_upto_region 12 with fail
      go_region_with (go_at_call 110; refine HCL.out.mono ?_; rintro e w4 ⟨val, pg, er, v, arm', rfl, k4, c4, ow, hnb, harm, -, hval⟩; have K4 := hid k4; have C4 := hid c4; have OW := hid ow; have NB4 := hid hnb; have HA4 := hid harm; have HV4 := hid hval; obtain ⟨ao4, cap4, rfl, hcl4⟩ := Ch.own_cell ow; have CL4 := hid hcl4; clear k4 c4 ow hnb harm hval hcl4)
      all_goals
        have ha4 := HA4.out HAM.out
        subst ha4
        have hv4 : ((val, pg), er) = valM S.f c := by
          rcases HV4.out with e | e
          · exact e
          · have := HAM.out; omega
        have her4 : er = 0 := by
          have h1 := congrArg Prod.snd hv4
          exact h1.trans HER.out
        have hpg4 : pg = cellPg S.f c := congrArg (fun x => x.1.2) hv4
        subst her4
        subst hpg4
        have M4 := hid (MA.out.turned C4.out K4.out)
        clear hv4 HV4 HA4
        have HAD := hid (add_any (ao := ao4) (cap := cap4) (l := cellPg S.f c) M4.out.ls ⟨M4.out.sh.size, M4.out.sh.at'.lt.1, M4.out.sh.at'.lt.2⟩ (fun i hi => by
          obtain ⟨g4, e4, e5, e6⟩ := CL4.out i hi
          exact ⟨g4, 0, e4, e5, HBIG.out g4 (NB4.out g4 (by rw [e4]; rfl)), by rw [Nat.zero_add]; exact e6⟩) HWX.out HPART.out HLL2.out)
        go_wp2_with fail
        refine HAD.out.mono ?_
        rintro e w5 ⟨v5, rfl, ls5, q5, ch5⟩
        have M5 := hid (M4.out.step ls5 (shl_ls M4.out.sh M4.out.ls ch5) q5 (ch5.mono (fun g _ e => Or.inr e)))
        clear ls5 q5 ch5 HAD
        go_wp2
        go_roundw
        case rel => exact ⟨j + 1, v5, by go_num, by omega, hid (by
          have h5 := M5.out
          rw [List.append_assoc _ ((n.cs.take j).flatMap (cellPg S.f)), ← HNX.out] at h5
          exact h5)⟩
        case measure => simp [intOf]; omega
    · have hle : ¬ (j : Int) < (n.cs.length : Int) := by omega
      have hj2 : n.cs.take j = n.cs := List.take_of_length_le (by omega)
      rw [hj2] at HM
      have hbx := (bes_same HM.out M0.out.ls bx hbl (HAP.out bx HB2S.out)).trans HBX.out
      have y3 := Mem.blk_cell hbx 3
      have hbl2 := lt_of_block hbx
      clear hj2 hbx
      go_wp2_with fail
      have HM2 := hid HM.out
      obtain ⟨w9, hw9⟩ : ∃ x, x = wr := ⟨_, rfl⟩
      subst hw9
      go_loopw [68] (fun iv wr => ∃ (j : Nat) (vq : Value), iv = .int .i64 (j : Int) ∧ j ≤ n.ps.length ∧ Hid (Beside s d N cnt lb mb lim h arm S v1 vq (L ++ [p] ++ n.cs.flatMap (cellPg S.f) ++ (n.ps.take j).flatMap fun q => (listM S.f k q).getD []) w0 W wr)) (fun iv _ => n.ps.length - (intOf iv).toNat)
      case atStart => exact ⟨0, vq, rfl, Nat.zero_le _, by simpa using HM2⟩
      case round =>
        clear y3 hbl2 HM HM2 hj hle hlt
        obtain ⟨j, vq, rfl, hj, HM⟩ := hrel
        by_cases hlt : j < n.ps.length
        · have hle : (j : Int) < (n.ps.length : Int) := by omega
          obtain ⟨ao, cap, e1, -, hcc, hcell⟩ := No.IAt.ways1 NA3.out.p
          cases e1
          obtain ⟨g, o, rfl, hgl, z0⟩ := hcell j hlt
          have hga := HAP.out g (HPB.out g rfl)
          have y0 := HM.out.cell hgl hga z0
          have hsm := HNK.out.1 _ (List.getElem_mem hlt)
          have hpart := new_part HNK.out.2.1 hlt
          have hnx := flat_next (g := fun q => (listM S.f k q).getD []) hlt
          have HWX : Hid (∀ x ∈ (listM S.f k n.ps[j]).getD [], Wf x) := hid (fun x hx => HNK.out.2.2 x (List.mem_flatMap.2 ⟨_, List.getElem_mem hlt, hx⟩))
          have hll : ((n.ps.take j).flatMap fun q => (listM S.f k q).getD []).length + ((listM S.f k n.ps[j]).getD []).length ≤ (n.ps.flatMap fun q => (listM S.f k q).getD []).length := by
            rw [flat_split (fun q => (listM S.f k q).getD []) n.ps hlt, List.length_append, List.length_append]; omega
          have HLL2 : Hid ((L ++ [p] ++ n.cs.flatMap (cellPg S.f) ++ (n.ps.take j).flatMap fun q => (listM S.f k q).getD []).length + ((listM S.f k n.ps[j]).getD []).length ≤ 800000) := hid (by
            have := HLEN.out
            simp only [List.length_append, List.length_singleton]
            omega)
          generalize hc : n.ps[j] = kid at *
          obtain ⟨Pk, hPk⟩ := Option.isSome_iff_exists.1 hsm
          have hgd : (listM S.f k kid).getD [] = Pk := by rw [hPk]; rfl
          simp only [hgd] at hpart hnx HWX HLL2
          have HRC := hid (HREC.out kid Pk vq _ wr hPk hpart HWX.out HLL2.out HM.out.ls HM.out.sh)
          have HNX := hid hnx
          clear hcell z0 hga hsm hpart hnx hll hgl hc hPk hgd hcc
          go_wp2_with fail
          refine HRC.out.mono ?_
          rintro e w5 ⟨v5, rfl, ls5, q5, ch5, k5⟩
          have M5 := hid (HM.out.step ls5 k5 q5 ch5)
          clear ls5 q5 ch5 k5 HRC y0
          go_wp2
          go_roundw
          case rel => exact ⟨j + 1, v5, by go_num, by omega, hid (by
            have h5 := M5.out
            rw [List.append_assoc _ ((n.ps.take j).flatMap _), ← HNX.out] at h5
            exact h5)⟩
          case measure => simp [intOf]; omega
        · have hle : ¬ (j : Int) < (n.ps.length : Int) := by omega
          have hj2 : n.ps.take j = n.ps := List.take_of_length_le (by omega)
          rw [hj2] at HM
          go_wp2
          go_ret
          refine ⟨vq, rfl, ?_, fun g e => ?_, C3.out.then HM.out.chg (fun i _ e => ?_), HM.out.sh⟩
          · have h5 := HM.out.ls
            simp only [List.append_assoc] at h5 ⊢
            exact h5
          · have h1 := C1.out.size
            have h2 := HB2S.out
            rcases HM.out.q g e with e | e
            · exact Q1.out g e
            · exact Or.inr (by omega)
          · have h1 := C1.out.size
            rcases e with e | e | e | e
            · exact Or.inr (Or.inl e)
            · exact Or.inr (Or.inr (Or.inl e))
            · exact Or.inr (Or.inr (Or.inr (Or.inl e)))
            · rcases Q1.out i e with e | e
              · exact Or.inr (Or.inr (Or.inr (Or.inr e)))
              · exact Or.inl e
end Tr
end Go.Proofs.YtoifhcmgeackdaaGreatDoor
