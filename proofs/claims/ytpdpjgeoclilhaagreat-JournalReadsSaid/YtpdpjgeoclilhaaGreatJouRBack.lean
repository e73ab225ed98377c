/-
  Contract of the reference's Back: what it makes of a disk, and what it answers, is what the project's makes and answers.
-/
import Derived.Test.YtpdpjgeoclilhaaGreatGrpJRf
import Derived.Test.YtpdpjgeoclilhaaGreatJouRFind
import Derived.Test.YtpdpjgeoclilhaaGreatGrpJC
namespace Go.Proofs.YtpdpjgeoclilhaaGreat
open Go.RowKit Go.Shelf
namespace Jo
open Num (hid)
open Disk (Mod Fil Plc Sees Stays Ctl)
open Mem (Bs bs tS ptr blk_cell blk_free blk_new blk_set blk_other blk_alloc row_kept row_shape row_type)
open Ref (Refs RSees)

/-- A row of the call's own beside the reference's disk. -/
structure RB (R0 : Nat → Prop) (r : Nat) (w0 : World) (M : Mod) (l : List Rec) (v : Value) (wr : World) : Prop where
  rj : RJ R0 (fun q => v.ownBlock = some q) r M w0 wr
  row : wr.ownsRow 0 tPg 2 v l.length (l.flatMap pV)
variable {R0 : Nat → Prop} {r : Nat} {w0 wr w2 : World} {M M' : Mod} {l : List Rec} {v : Value}
theorem RB.hX (h : RB R0 r w0 M l v wr) : ∀ q, v.ownBlock = some q → q < wr.heap.size := fun q hq => (h.row.lt q hq).2
theorem RB.on (h : RB R0 r w0 M l v wr) (hb : Below wr.heap.size wr w2) : RB R0 r w0 M l v w2 := ⟨h.rj.on hb, row_kept h.row (F := fun _ => False) (Mem.Chg.of_below hb) (fun _ _ x => x)⟩
theorem RB.to (h : RB R0 r w0 M l v wr) (h1 : RJ R0 (fun q => v.ownBlock = some q) r M' w0 w2) (h2 : Disk.Chg (fun q => ¬ (v.ownBlock = some q)) wr w2) : RB R0 r w0 M' l v w2 := ⟨h1, row_kept h.row (toMem h2) (fun _ hq hx => hx hq)⟩
theorem RB.fin (h : RB R0 r w0 M l v wr) : RJ R0 (fun _ => False) r M w0 wr := h.rj.side (F := fun _ => False) (Disk.Chg.refl _ _) (fun _ x => x.elim) (fun _ x => x.elim)
theorem RB.at_ {ao : Option Addr} {len cap : Nat} (h : RB R0 r w0 M l (.slice ao len cap) wr) (hl : l.length = len) (i : Nat) (hi : i < l.length) : ∃ g, ao = some ⟨g, 0, none⟩ ∧ (i : Int) < (cap : Int) ∧ wr.cell? ⟨g, i * 2, none⟩ = some (.int .i64 (l[i].1 : Nat)) ∧ wr.cell? ⟨g, i * 2 + 1, none⟩ = some (.string (bs l[i].2)) := by
  obtain ⟨ao', cap', e, hx⟩ := pgr_of h.row
  cases e
  obtain ⟨g, h1, h2, h3, h4⟩ := hx i hi
  exact ⟨g, h1, by omega, h3, h4⟩
theorem RB.behind_ (h : RB R0 r w0 M l v wr) (P : Nat) : Behind P M := by
  obtain ⟨D, J, g⟩ := h.rj.good
  exact behind g.fs P
theorem rback_len {X : Nat → Prop} (h : RJ R0 X r M w0 wr) : (ansL (findM M)).length ≤ 100000 := by
  have h1 := recs_len (M.size jn).toNat 0 f0 M
  have h2 := rsize_le h
  have h4 : (findM M).2.1.recs.length ≤ f0.recs.length + (M.size jn).toNat := h1
  have h5 : f0.recs.length = 0 := rfl
  unfold ansL
  split
  · show (countF (findM M).2.1).length ≤ _
    have h3 : (countF (findM M).2.1).length ≤ (findM M).2.1.recs.length := by unfold countF; rw [List.length_take]; omega
    omega
  · decide
theorem ans_ok (M : Mod) : RecOk (ansL (findM M)) := by
  unfold ansL
  split
  · exact recs_find M
  · exact fun r hr => by cases hr
theorem back_ways (X : Int × Fnd × Mod) (M : Mod) (h : findM M = X) : backM M = if X.1 ≠ 0 then (X.1, X.2.2) else if ansN X = true then (if (restoreM (ansP X) (ansL X) X.2.2).1 ≠ 0 then restoreM (ansP X) (ansL X) X.2.2 else dropM (restoreM (ansP X) (ansL X) X.2.2).2) else dropM X.2.2 := by
  unfold backM
  rw [h]
  by_cases h1 : X.1 ≠ 0
  · rw [if_pos h1, if_pos h1]
  · rw [if_neg h1, if_neg h1]
    have h2 : X.1 = 0 := by omega
    by_cases h3 : X.2.1.feet = 0
    · have e1 : ansN X = false := decide_eq_false (fun ⟨_, h⟩ => h h3)
      rw [if_pos h3, e1, if_neg (by decide)]
    · have e1 : ansN X = true := decide_eq_true ⟨h2, h3⟩
      have e2 : ansP X = X.2.1.pages := by unfold ansP; rw [e1]; rfl
      have e3 : ansL X = countF X.2.1 := by unfold ansL; rw [e1]; rfl
      rw [if_neg h3, if_pos e1, e2, e3]
set_option maxRecDepth 100000 in
set_option maxHeartbeats 4000000 in
theorem rback_any {w : World} (h : RJ R0 (fun _ => False) r M w w) :
    Calls Tryz.prog 18 #[ptr r] w fun e w' => e = .returned (.int .i64 (backM M).1) ∧ RJ R0 (fun _ => False) r (backM M).2 w w' := by
  have hlen := rback_len h
  have hrec := ans_ok M
  have hpok := pages_ok M
  have HF := hid (rfind_any h)
  obtain ⟨X, hX⟩ : ∃ X, findM M = X := ⟨_, rfl⟩
  have hbk := back_ways X M hX
  rw [hX] at hlen hrec hpok HF
  obtain ⟨BM, hBM⟩ : ∃ Y, backM M = Y := ⟨_, rfl⟩
  rw [hBM] at hbk ⊢
  have HL := hid hlen
  have HR := hid hrec
  have HPK := hid hpok
  have HBK := hid hbk
  clear h hlen hrec hbk hpok hX hBM
  go_enter Tryz.func18, Tryz.ntmps18
  go_wp2_with fail
  refine HF.out.mono ?_
  rintro e w1 ⟨v, rfl, hrow, hrj, hv⟩
  obtain ⟨ao, cap, hve, -⟩ := row_shape hrow
  have H1 := hid (RB.mk hrj hrow)
  obtain ⟨len, hle⟩ : ∃ len, (ansL X).length = len := ⟨_, rfl⟩
  rw [hle] at hve
  subst hve
  have HLE := hid hle
  clear hrow hrj hv HF hle
  by_cases h1 : X.1 = 0
  · have hx1 : (X.1 != 0) = false := by simp [h1]
    have HBK2 : Hid (BM = if ansN X = true then (if (restoreM (ansP X) (ansL X) X.2.2).1 ≠ 0 then restoreM (ansP X) (ansL X) X.2.2 else dropM (restoreM (ansP X) (ansL X) X.2.2).2) else dropM X.2.2) := hid (HBK.out.trans (if_neg (fun x => x h1)))
    clear h1 HBK
    generalize ansN X = is at *
    generalize ansP X = P at *
    generalize ansL X = L at *
    generalize X.1 = xe at *
    generalize X.2.2 = M1 at *
    cases is with
    | false =>
      have HB : Hid (BM = dropM M1) := hid (HBK2.out.trans (if_neg (by decide)))
      clear HBK2 HL HR HPK
      go_wp2_with fail
      go_loopw [7] (fun iv wr => iv = .int .i64 0 ∧ wr = w1) (fun _ _ => 0)
      case atStart => exact ⟨rfl, rfl⟩
      case round =>
        obtain ⟨rfl, rfl⟩ := hrel
        go_wp2_with fail
        refine (rsize_jn H1.out.rj).mono ?_
        rintro e w6 ⟨rfl, rfl⟩
        by_cases hs : M1.size jn < 0
        · have hs1 : ¬ (0 ≤ M1.size jn) := by omega
          have HX : Hid (BM = (0, M1)) := hid (HB.out.trans (if_pos hs))
          clear hs
          generalize M1.size jn = szj at *
          go_wp2
          go_ret
          rw [HX.out]
          exact ⟨rfl, H1.out.fin⟩
        · have hs1 : 0 ≤ M1.size jn := by omega
          have HX : Hid (BM = M1.drop jn) := hid (HB.out.trans (if_neg hs))
          clear hs
          generalize M1.size jn = szj at *
          go_wp2_with fail
          refine (rdrop_jn H1.out.rj H1.out.hX).mono ?_
          rintro e w7 ⟨rfl, hz, hsz⟩
          have HZ := hid (H1.out.to hz hsz)
          clear hz hsz
          go_wp2
          go_ret
          rw [HX.out]
          exact ⟨rfl, HZ.out.fin⟩
    | true =>
      have HBK3 : Hid (BM = if (restoreM P L M1).1 ≠ 0 then restoreM P L M1 else dropM (restoreM P L M1).2) := hid (HBK2.out.trans (if_pos rfl))
      obtain ⟨Q, hQ⟩ : ∃ Q, writesM L (numsOf L) M1 = Q := ⟨_, rfl⟩
      have HQ0 : Hid (writesM L (numsFrom L 0 P) M1 = Q) := hid (by rw [← nums_from HPK.out.1 HPK.out.2]; exact hQ)
      have HRS : Hid (restoreM P L M1 = if Q.1 ≠ 0 then Q else cutsM P Q.2) := hid (by unfold restoreM; rw [hQ])
      have hPle : P ≤ 4096 := HPK.out.1
      have hln : len ≤ 100000 := by have h1 := HL.out; have h2 := HLE.out; omega
      clear HBK2 hQ
      go_wp2_with fail
      go_loopw [7] (fun nv wr => ∃ (n : Nat) (Mk : Mod), n ≤ P ∧ nv = .int .i64 n ∧ Hid (RB R0 r w Mk L (.slice ao len cap) wr ∧ writesM L (numsFrom L n P) Mk = Q)) (fun nv _ => P - (intOf nv).toNat)
      case atStart => exact ⟨0, M1, Nat.zero_le _, rfl, hid ⟨H1.out, HQ0.out⟩⟩
      case round =>
        obtain ⟨n, Mk, hn, rfl, HI⟩ := hrel
        by_cases hlt : (n : Int) < (P : Int)
        · have hnP : n < P := by omega
          obtain ⟨w5, hw5⟩ : ∃ x, x = wr := ⟨_, rfl⟩
          subst hw5
          go_wp2_with fail
          go_loopw [8] (fun iv wr => ∃ i : Nat, i ≤ len ∧ iv = .int .i64 i ∧ wr = w5 ∧ Hid (∀ x ∈ L.take i, x.1 ≠ n)) (fun iv _ => len - (intOf iv).toNat)
          case atStart => exact ⟨0, Nat.zero_le _, rfl, rfl, hid (fun x hx => by cases hx)⟩
          case round =>
            obtain ⟨i, hi, rfl, rfl, HN⟩ := hrel
            by_cases hil : (i : Int) < (len : Int)
            · have hiL : i < L.length := by have := HLE.out; omega
              obtain ⟨g, rfl, hic, c0, c1⟩ := HI.out.1.at_ HLE.out i hiL
              have htk : L.take (i + 1) = L.take i ++ [L[i]] := by rw [List.take_add_one, List.getElem?_eq_getElem hiL]; rfl
              have hsz2 := (HR.out _ (List.getElem_mem hiL)).2
              by_cases hxn : L[i].1 = n
              · have HFD : Hid (firstD L n = L[i].2) := hid (first_at hiL HN.out hxn)
                have HFR : Hid (numsFrom L n P = n :: numsFrom L (n + 1) P) := hid (from_some hnP hiL hxn)
                clear htk
                generalize L[i] = x at *
                have hxb : ((x.1 : Int) != (n : Int)) = false := by simp [hxn]
                have HSZ : Hid ((bs x.2).size = 232) := hid hsz2
                clear hxn hsz2
                go_wp2_with fail
                refine (Seal.rclose_yes 1 n 0 (by decide) (by omega) (by decide) (bs x.2) HSZ.out wr).mono ?_
                rintro e w6 ⟨rfl, hb6⟩
                have H6 := hid (HI.out.1.on hb6)
                clear hb6
                go_wp2_with fail
                refine (rwrite_dn H6.out.rj H6.out.hX n 1 n 0 (bs x.2) HSZ.out).mono ?_
                rintro e w7 ⟨rfl, h7, hs7⟩
                have H7 := hid (H6.out.to h7 hs7)
                have hbx : (bs x.2).data.toList = x.2 := rfl
                rw [hbx, ← HFD.out] at H7 ⊢
                have HW1 := HI.out.2
                rw [HFR.out] at HW1
                clear h7 hs7 hbx
                by_cases he : (Mk.write dn n (Seal.sealL 1 n 0 (firstD L n))).1 = 0
                · have HW2 : Hid (writesM L (numsFrom L (n + 1) P) (Mk.write dn n (Seal.sealL 1 n 0 (firstD L n))).2 = Q) := hid ((writes_good he).symm.trans HW1)
                  have he1 : ((Mk.write dn n (Seal.sealL 1 n 0 (firstD L n))).1 != 0) = false := by simp [he]
                  clear he HW1
                  generalize Mk.write dn n (Seal.sealL 1 n 0 (firstD L n)) = Y at *
                  go_wp2
                  go_roundw
                  case rel => exact ⟨n + 1, Y.2, by omega, by go_num, hid ⟨H7.out, HW2.out⟩⟩
                  case measure => simp [intOf]; omega
                · have HW2 := HW1.symm.trans (writes_bad he)
                  have he1 : ((Mk.write dn n (Seal.sealL 1 n 0 (firstD L n))).1 != 0) = true := by simp [he]
                  generalize Mk.write dn n (Seal.sealL 1 n 0 (firstD L n)) = Y at *
                  have hq1 : Q.1 ≠ 0 := by
                    rw [HW2]
                    show (if Y.1 = 14 then (30 : Int) else Y.1) ≠ 0
                    split
                    · decide
                    · exact he
                  have HX : Hid (BM = (if Y.1 = 14 then 30 else Y.1, Y.2)) := hid (by
                    rw [HBK3.out, HRS.out, if_pos hq1, if_pos hq1, HW2])
                  clear he HW1 HW2 hq1
                  have HBD := bad_any Y.1
                  obtain ⟨z, hz⟩ : ∃ z, (if Y.1 = 14 then (30 : Int) else Y.1) = z := ⟨_, rfl⟩
                  rw [hz] at HBD HX
                  clear hz
                  go_wp2_with fail
                  refine (HBD _).mono ?_
                  rintro e w8 ⟨rfl, rfl⟩
                  go_wp2
                  go_ret
                  rw [HX.out]
                  exact ⟨rfl, H7.out.fin⟩
              · have hxb : ((L[i].1 : Int) != (n : Int)) = true := by simp; omega
                have HN2 : Hid (∀ x ∈ L.take (i + 1), x.1 ≠ n) := hid (fun x hx => by
                  rw [htk] at hx
                  rcases List.mem_append.1 hx with hx | hx
                  · exact HN.out x hx
                  · rw [List.mem_singleton] at hx
                    subst hx
                    exact hxn)
                clear htk hxn
                generalize L[i] = x at *
                go_wp2
                go_roundw
                case rel => exact ⟨i + 1, by omega, by go_num, trivial, HN2⟩
                case measure => simp [intOf]; omega
            · obtain rfl : i = len := by omega
              have HW2 : Hid (writesM L (numsFrom L (n + 1) P) Mk = Q) := hid (by
                rw [← from_none hnP (fun x hx => HN.out x (by rw [← HLE.out, List.take_length]; exact hx))]
                exact HI.out.2)
              go_wp2
              go_roundw
              case rel => exact ⟨n + 1, Mk, by omega, by go_num, hid ⟨HI.out.1, HW2.out⟩⟩
              case measure => simp [intOf]; omega
        · obtain rfl : n = P := by omega
          have hq : Q = (0, Mk) := by rw [← HI.out.2, from_end]; rfl
          have HBM : Hid (BM = if (cutsM n Mk).1 ≠ 0 then cutsM n Mk else dropM (cutsM n Mk).2) := hid (by
            rw [HBK3.out, HRS.out, hq]
            rfl)
          have HH := hid (HI.out.1.behind_ n)
          have H2 := hid HI.out.1
          clear hq HBK3 HRS HI HQ0
          go_wp2_with fail
          refine (rsize_dn H2.out.rj).mono ?_
          rintro e w6 ⟨rfl, rfl⟩
          by_cases hcut : (n : Int) < Mk.size dn
          · have HC1 := hid (HH.out.cutE hcut)
            have HC2 := hid (HH.out.cutO hcut)
            clear HH
            generalize Mk.size dn = szd at *
            go_wp2_with fail
            refine (rcut_dn H2.out.rj H2.out.hX n).mono ?_
            rintro e w7 ⟨rfl, h7, hs7⟩
            have H7 := hid (H2.out.to h7 hs7)
            clear h7 hs7
            generalize Mk.cut dn n = Z at *
            by_cases hz : Z.1 = 0
            · have hz1 : (Z.1 != 0) = false := by simp [hz]
              obtain ⟨k1, k2, k3⟩ := HC2.out hz
              have HS := hid (And.intro k1 k3)
              clear HC1 HC2 hz k1 k3 hcut
              go_wp2_with fail
              refine (rsize_dn H7.out.rj).mono ?_
              rintro e w8 ⟨rfl, rfl⟩
              generalize Z.2.size dn = szd2 at *
              go_wp2_with fail
              refine (rsync_dn H7.out.rj H7.out.hX).mono ?_
              rintro e w9 ⟨rfl, hy, hsy⟩
              have HY := hid (H7.out.to hy hsy)
              clear hy hsy
              obtain ⟨Y, hY⟩ : ∃ Y, Z.2.sync dn = Y := ⟨_, rfl⟩
              rw [hY] at HY HS ⊢
              have HS14 := HS.out.2
              have HC : Hid (cutsM n Mk = Y) := hid HS.out.1
              clear HS hY
              by_cases hy : Y.1 = 0
              · have hy1 : (Y.1 != 0) = false := by simp [hy]
                have HB : Hid (BM = dropM Y.2) := hid (by rw [HBM.out, HC.out, if_neg (by rw [hy]; decide)])
                clear hy HS14
                go_wp2_with fail
                refine (rsize_jn HY.out.rj).mono ?_
                rintro e w11 ⟨rfl, rfl⟩
                by_cases hs : Y.2.size jn < 0
                · have hs1 : ¬ (0 ≤ Y.2.size jn) := by omega
                  have HX : Hid (BM = (0, Y.2)) := hid (HB.out.trans (if_pos hs))
                  clear hs
                  generalize Y.2.size jn = szj at *
                  go_wp2
                  go_ret
                  rw [HX.out]
                  exact ⟨rfl, HY.out.fin⟩
                · have hs1 : 0 ≤ Y.2.size jn := by omega
                  have HX : Hid (BM = Y.2.drop jn) := hid (HB.out.trans (if_neg hs))
                  clear hs
                  generalize Y.2.size jn = szj at *
                  go_wp2_with fail
                  refine (rdrop_jn HY.out.rj HY.out.hX).mono ?_
                  rintro e w12 ⟨rfl, hz, hsz⟩
                  have HZ := hid (HY.out.to hz hsz)
                  clear hz hsz
                  go_wp2
                  go_ret
                  rw [HX.out]
                  exact ⟨rfl, HZ.out.fin⟩
              · have hy1 : (Y.1 != 0) = true := by simp [hy]
                have HX : Hid (BM = Y) := hid (by rw [HBM.out, HC.out, if_pos hy])
                have hy14 : Hid ((if Y.1 = 14 then (30 : Int) else Y.1) = Y.1) := hid (if_neg HS14)
                clear hy HS14
                have HBD := bad_any Y.1
                rw [hy14.out] at HBD
                go_wp2_with fail
                refine (HBD _).mono ?_
                rintro e w10 ⟨rfl, rfl⟩
                go_wp2
                go_ret
                rw [HX.out]
                exact ⟨rfl, HY.out.fin⟩
            · have hz1 : (Z.1 != 0) = true := by simp [hz]
              obtain ⟨k1, k2⟩ := HC1.out hz
              have HX : Hid (BM = Z) := hid (by rw [HBM.out, k1, if_pos hz])
              have hz14 : Hid ((if Z.1 = 14 then (30 : Int) else Z.1) = Z.1) := hid (if_neg k2)
              clear HC1 HC2 hz k1 k2
              have HBD := bad_any Z.1
              rw [hz14.out] at HBD
              go_wp2_with fail
              refine (HBD _).mono ?_
              rintro e w8 ⟨rfl, rfl⟩
              go_wp2
              go_ret
              rw [HX.out]
              exact ⟨rfl, H7.out.fin⟩
          · by_cases hd : 0 ≤ Mk.size dn
            · have HS := hid (HH.out.sync hd hcut)
              clear HH
              obtain ⟨szd, hszd⟩ : ∃ x, Mk.size dn = x := ⟨_, rfl⟩
              rw [hszd] at hd hcut ⊢
              have HSD := hid hszd
              clear hszd
              go_wp2_with fail
              refine (rsize_dn H2.out.rj).mono ?_
              rintro e w8 ⟨rfl, rfl⟩
              rw [HSD.out]
              go_wp2_with fail
              refine (rsync_dn H2.out.rj H2.out.hX).mono ?_
              rintro e w9 ⟨rfl, hy, hsy⟩
              have HY := hid (H2.out.to hy hsy)
              clear hy hsy
              obtain ⟨Y, hY⟩ : ∃ Y, Mk.sync dn = Y := ⟨_, rfl⟩
              rw [hY] at HY HS ⊢
              have HS14 := HS.out.2
              have HC : Hid (cutsM n Mk = Y) := hid HS.out.1
              clear HS hY
              by_cases hy : Y.1 = 0
              · have hy1 : (Y.1 != 0) = false := by simp [hy]
                have HB : Hid (BM = dropM Y.2) := hid (by rw [HBM.out, HC.out, if_neg (by rw [hy]; decide)])
                clear hy HS14
                go_wp2_with fail
                refine (rsize_jn HY.out.rj).mono ?_
                rintro e w11 ⟨rfl, rfl⟩
                by_cases hs : Y.2.size jn < 0
                · have hs1 : ¬ (0 ≤ Y.2.size jn) := by omega
                  have HX : Hid (BM = (0, Y.2)) := hid (HB.out.trans (if_pos hs))
                  clear hs
                  generalize Y.2.size jn = szj at *
                  go_wp2
                  go_ret
                  rw [HX.out]
                  exact ⟨rfl, HY.out.fin⟩
                · have hs1 : 0 ≤ Y.2.size jn := by omega
                  have HX : Hid (BM = Y.2.drop jn) := hid (HB.out.trans (if_neg hs))
                  clear hs
                  generalize Y.2.size jn = szj at *
                  go_wp2_with fail
                  refine (rdrop_jn HY.out.rj HY.out.hX).mono ?_
                  rintro e w12 ⟨rfl, hz, hsz⟩
                  have HZ := hid (HY.out.to hz hsz)
                  clear hz hsz
                  go_wp2
                  go_ret
                  rw [HX.out]
                  exact ⟨rfl, HZ.out.fin⟩
              · have hy1 : (Y.1 != 0) = true := by simp [hy]
                have HX : Hid (BM = Y) := hid (by rw [HBM.out, HC.out, if_pos hy])
                have hy14 : Hid ((if Y.1 = 14 then (30 : Int) else Y.1) = Y.1) := hid (if_neg HS14)
                clear hy HS14
                have HBD := bad_any Y.1
                rw [hy14.out] at HBD
                go_wp2_with fail
                refine (HBD _).mono ?_
                rintro e w10 ⟨rfl, rfl⟩
                go_wp2
                go_ret
                rw [HX.out]
                exact ⟨rfl, HY.out.fin⟩
            · have hk := (HH.out.none (by omega)).1
              have HB : Hid (BM = dropM Mk) := hid (by rw [HBM.out, hk]; rfl)
              clear HH hk HBM
              obtain ⟨szd, hszd⟩ : ∃ x, Mk.size dn = x := ⟨_, rfl⟩
              rw [hszd] at hd hcut ⊢
              have HSD := hid hszd
              clear hszd
              go_wp2_with fail
              refine (rsize_dn H2.out.rj).mono ?_
              rintro e w8 ⟨rfl, rfl⟩
              rw [HSD.out]
              go_wp2_with fail
              refine (rsize_jn H2.out.rj).mono ?_
              rintro e w9 ⟨rfl, rfl⟩
              by_cases hs : Mk.size jn < 0
              · have hs1 : ¬ (0 ≤ Mk.size jn) := by omega
                have HX : Hid (BM = (0, Mk)) := hid (HB.out.trans (if_pos hs))
                clear hs
                generalize Mk.size jn = szj at *
                go_wp2
                go_ret
                rw [HX.out]
                exact ⟨rfl, H2.out.fin⟩
              · have hs1 : 0 ≤ Mk.size jn := by omega
                have HX : Hid (BM = Mk.drop jn) := hid (HB.out.trans (if_neg hs))
                clear hs
                generalize Mk.size jn = szj at *
                go_wp2_with fail
                refine (rdrop_jn H2.out.rj H2.out.hX).mono ?_
                rintro e w10 ⟨rfl, hz, hsz⟩
                have HZ := hid (H2.out.to hz hsz)
                clear hz hsz
                go_wp2
                go_ret
                rw [HX.out]
                exact ⟨rfl, HZ.out.fin⟩
  · have hx1 : (X.1 != 0) = true := by simp [h1]
    have HX : Hid (BM = (X.1, X.2.2)) := hid (HBK.out.trans (if_pos h1))
    clear h1 HBK
    go_wp2
    go_ret
    rw [HX.out]
    exact ⟨rfl, H1.out.fin⟩
end Jo
end Go.Proofs.YtpdpjgeoclilhaaGreat
