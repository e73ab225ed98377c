/-
  Contract of the reference's log: Open.
-/
import Derived.Test.YtgmbiiocjhkpdaaGreatLogRAdd
import Derived.Test.YtgmbiiocjhkpdaaGreatGrpLgR
namespace Go.Proofs.YtgmbiiocjhkpdaaGreat
open Go.RowKit Go.Shelf
namespace Lr
open Lo
open Num (hid)
open Disk (Mod Fil)
open Ref (Refs RQ Good)
open Jo (okB kK kN kS kD)
open Seal (openV ropen_any zeroV sumOf rsum_any)
open Mem (Bs bs tI tIs ptr blk_cell blk_free blk_new blk_set blk_other blk_alloc row_kept row_shape row_type wpList_append_run)
attribute [local go_sem] Oper.semAt_some
variable {R0 : Nat → Prop} {r b : Nat} {M M' : Mod} {l l' : Lg} {w0 w w' : World} {v u v' u' : Value}
/-- What the loop carries. -/
structure OI (R0 : Nat → Prop) (r b : Nat) (w0 : World) (M0 : Mod) (n k : Nat) (f : LgS) (M : Mod) (wr : World) : Prop where
  rl : ∃ v u, RL R0 r b M ⟨f.ns, f.ss⟩ w0 v u wr
  kk : LgK k f
  run : openN n 0 g0 M0 = openN (n - k) k f M
  sz : M.size ln = M0.size ln
/-- Behind the loop. -/
structure OE (R0 : Nat → Prop) (r b : Nat) (w0 : World) (M0 : Mod) (n : Nat) (f : LgS) (M : Mod) (wr : World) : Prop where
  rl : ∃ v u, RL R0 r b M ⟨f.ns, f.ss⟩ w0 v u wr
  kk : ∃ k, LgK k f
  run : openN n 0 g0 M0 = (0, f, M)
  sz : M.size ln = M0.size ln
def OpenPost (R0 : Nat → Prop) (r : Nat) (w0 : World) (X : Int × Option Lg × Mod) (e : Ending) (w' : World) : Prop :=
  match X.2.1 with
  | none => e = .returned (.tuple #[.pointer none, .int .i64 X.1]) ∧ RQ R0 (fun _ => False) r X.2.2 w0 w'
  | some l => ∃ b v u, e = .returned (.tuple #[ptr b, .int .i64 X.1]) ∧ w0.heap.size ≤ b ∧ RL R0 r b X.2.2 l w0 v u w'
theorem open_none {X : Int × Option Lg × Mod} (h : X.2.1 = none) (hr : RQ R0 (fun _ => False) r X.2.2 w0 w') : OpenPost R0 r w0 X (.returned (.tuple #[.pointer none, .int .i64 X.1])) w' := by
  unfold OpenPost
  rw [h]
  exact ⟨rfl, hr⟩
theorem open_some {X : Int × Option Lg × Mod} (h : X.2.1 = some l) (hb : w0.heap.size ≤ b) (hr : RL R0 r b X.2.2 l w0 v u w') : OpenPost R0 r w0 X (.returned (.tuple #[ptr b, .int .i64 X.1])) w' := by
  unfold OpenPost
  rw [h]
  exact ⟨b, v, u, rfl, hb, hr⟩
theorem size_read (M : Mod) (i : Int) : (M.read ln i).2.2.size ln = M.size ln := by
  unfold Disk.Mod.read
  split <;> rfl
theorem RL.free (h : RL R0 r b M l w0 v u w) : RQ R0 (fun _ => False) r M w0 w := h.q.side (F := fun _ => False) (Disk.Chg.refl _ _) (fun _ x => x.elim) (fun _ x => x.elim)
theorem open_size (h : RQ R0 (fun _ => False) r M w0 w) : M.size ln ≤ 16384 := by
  unfold Disk.Mod.size
  cases hF : Disk.get? M.fs ln with
  | none => decide
  | some F => have := (h.good.file hF).1; show (F.ps.length : Int) ≤ 16384; omega
/-- What a sector makes of it, its parts apart. -/
abbrev sV (K N S : Nat) (d : ByteArray) : Value := .agg #[.int .i64 (K : Nat), .int .i64 (N : Nat), .int .u64 (S : Nat), .string d]
theorem log_ok {l : Bs} (h : okB l = true) : openV (bs l) = sV (kK l) (kN l) (kS l) (bs (kD l)) ∧ Seal.openE (bs l) = 0 := by
  obtain ⟨h1, h2⟩ := Jo.okB_iff.1 h
  have hs : (bs l).size = 256 := by show l.toArray.size = 256; simpa using h1
  obtain ⟨e1, e2⟩ := Seal.open_says hs (show Seal.right (bs l).data.toList from h2)
  refine ⟨?_, e2⟩
  rw [e1]
  unfold Seal.saysV sV kD
  rw [bs_cut]
  rfl
theorem log_not {l : Bs} (h : okB l = false) : openV (bs l) = zeroV ∧ Seal.openE (bs l) ≠ 0 := by
  by_cases h1 : l.length = 256
  · have hs : (bs l).size = 256 := by show l.toArray.size = 256; simpa using h1
    have hr : ¬ Seal.right (bs l).data.toList := fun e => by rw [Jo.okB_iff.2 ⟨h1, e⟩] at h; cases h
    obtain ⟨e1, e2⟩ := Seal.open_seal hs hr
    exact ⟨e1, by rw [e2]; decide⟩
  · have hs : ¬ (bs l).size = 256 := fun e => h1 (by have : l.toArray.size = 256 := e; simpa using this)
    obtain ⟨e1, e2⟩ := Seal.open_size hs
    exact ⟨e1, by rw [e2]; decide⟩
theorem bs_sum (x : Bs) (h : x.length = 256) (w : World) : Calls Tryz.prog 42 #[.string (bs x)] w fun e w' => e = .returned (.int .u64 (sumL x : Nat)) ∧ w = w' := by
  have := rsum_any (bs x) w
  rw [sum_is (bs x) (by show x.toArray.size = 256; simpa using h)] at this
  exact this
def goodL (k : Nat) (f : LgS) (K N S sm : Nat) : Option LgS :=
  if (K ≠ 5 ∧ K ≠ 6) ∨ 4096 ≤ N ∨ S ≠ f.ss.getD (k - 1) 0 then none else some ⟨f.right, f.ns ++ [N], f.ss ++ [sm], if K = 6 then f.ns.length + 1 else f.sure⟩
theorem take_first (f : LgS) (x : Bs) : takeL 0 f x = if x = topL then some ⟨true, [], [sumL x], 0⟩ else none := if_pos rfl
theorem take_ok {k : Nat} (hk : k ≠ 0) (f : LgS) {x : Bs} (h : okB x = true) : takeL k f x = goodL k f (kK x) (kN x) (kS x) (sumL x) := by
  unfold takeL goodL
  rw [if_neg hk, h, if_neg (by decide)]
theorem take_bad {k : Nat} (hk : k ≠ 0) (f : LgS) {x : Bs} (h : okB x = false) : takeL k f x = none := by
  unfold takeL
  rw [if_neg hk, if_pos h]
theorem good_none {k : Nat} {f : LgS} {K N S sm T : Nat} (hT : f.ss.getD (k - 1) 0 = T) (h : (K ≠ 5 ∧ K ≠ 6) ∨ 4096 ≤ N ∨ S ≠ T) : goodL k f K N S sm = none := by
  unfold goodL
  rw [hT, if_pos h]
theorem good_some {k : Nat} {f : LgS} {K N S sm T : Nat} (hT : f.ss.getD (k - 1) 0 = T) (h1 : K = 5 ∨ K = 6) (h2 : N < 4096) (h3 : S = T) : goodL k f K N S sm = some ⟨f.right, f.ns ++ [N], f.ss ++ [sm], if K = 6 then f.ns.length + 1 else f.sure⟩ := by
  unfold goodL
  rw [hT, if_neg (by omega)]
/-- What is asked of a frame. -/
def badB (e : Int) (K N S T : Nat) : Bool := decide (e ≠ 0) || decide (K ≠ 5 ∧ K ≠ 6) || decide (4096 ≤ N) || decide (S ≠ T)
theorem bad_e {e : Int} {K N S T : Nat} (h : e ≠ 0) : badB e K N S T = true := by unfold badB; rw [decide_eq_true h]; rfl
theorem bad_k {e : Int} {K N S T : Nat} (h : K ≠ 5 ∧ K ≠ 6) : badB e K N S T = true := by unfold badB; rw [decide_eq_true h, Bool.or_true]; rfl
theorem bad_n {e : Int} {K N S T : Nat} (h : 4096 ≤ N) : badB e K N S T = true := by unfold badB; rw [decide_eq_true h, Bool.or_true]; rfl
theorem bad_s {e : Int} {K N S T : Nat} (h : S ≠ T) : badB e K N S T = true := by unfold badB; rw [decide_eq_true h, Bool.or_true]
theorem bad_no {e : Int} {K N S T : Nat} (h1 : e = 0) (h2 : K = 5 ∨ K = 6) (h3 : ¬ 4096 ≤ N) (h4 : S = T) : badB e K N S T = false := by
  unfold badB
  rw [decide_eq_false (by omega), decide_eq_false (by omega), decide_eq_false h3, decide_eq_false (by omega)]
  rfl
theorem bad_false {K N S T : Nat} (h : badB 0 K N S T = false) : (K = 5 ∨ K = 6) ∧ N < 4096 ∧ S = T := by
  unfold badB at h
  simp at h
  omega
theorem bad_true {K N S T : Nat} (h : badB 0 K N S T = true) : (K ≠ 5 ∧ K ≠ 6) ∨ 4096 ≤ N ∨ S ≠ T := by
  unfold badB at h
  simp at h
  omega
theorem b_ne {a c : Nat} (h : ¬ a = c) : ((a : Int) != (c : Int)) = true := by simp; omega
theorem b_eq {a c : Nat} (h : a = c) : ((a : Int) != (c : Int)) = false := by simp [h]
theorem bel_drewN {B : Nat} {a w : World} (h : Below B a w) (n : Nat) : Below B a (w.drewN n) := ⟨h.os, h.tape, h.output, h.size, h.block⟩
theorem w_id {j : Nat} (h : j ≤ 100000) : wrap64 (j : Int) = (j : Int) := by rw [Num.wrap_i]; omega
theorem i_id {j : Nat} (h : j ≤ 100000) : IntKind.i64.wrap (j : Int) = (j : Int) := by rw [IntKind.wrap_i64]; omega
theorem i_back {j : Nat} (h : j ≤ 100000) : IntKind.i64.wrap ((j : Int) + 1 - 1) = (j : Int) := by rw [IntKind.wrap_i64]; omega
theorem b_eq5 {a : Nat} (h : a = 5) : ((a : Int) != 5) = false := by simp; omega
theorem b_eqq6 {a : Nat} (h : a = 6) : ((a : Int) != 6) = false := by simp; omega
theorem b_ne5 {a : Nat} (h : ¬ a = 5) : ((a : Int) != 5) = true := by simp; omega
theorem b_ne6 {a : Nat} (h : ¬ a = 6) : ((a : Int) != 6) = true := by simp; omega
theorem b_eq6 {a : Nat} (h : ¬ a = 6) : ((a : Int) == 6) = false := by simp; omega
theorem w_sub {k : Nat} (h0 : k ≠ 0) (h : k ≤ 100000) : wrap64 ((k : Int) - 1) = ((k - 1 : Nat) : Int) := by rw [Num.wrap_i]; omega
/-- What the log's blocks hold. -/
theorem lgX_type (h : RL R0 r b M l w0 v u w) {k : Nat} (hk : lgX b v u k) : ∃ c, w.heap[k]? = some (.cells c tLg (0, 0)) ∨ w.heap[k]? = some (.cells c tI (0, 0)) ∨ w.heap[k]? = some (.cells c tU (0, 0)) := by
  rcases hk with rfl | hk | hk
  · exact ⟨_, Or.inl h.box⟩
  · obtain ⟨c, hc⟩ := row_type h.rowN hk
    exact ⟨c, Or.inr (Or.inl hc)⟩
  · obtain ⟨c, hc⟩ := row_type h.rowS hk
    exact ⟨c, Or.inr (Or.inr hc)⟩
set_option maxRecDepth 100000 in
set_option maxHeartbeats 8000000 in
theorem ropen_log {w : World} (h : RQ R0 (fun _ => False) r M w w) :
    Calls Tryz.prog 11 #[ptr r] w (OpenPost R0 r w (openM M)) := by
  have hsz := open_size h
  obtain ⟨sz, hsze⟩ : ∃ x, M.size ln = x := ⟨_, rfl⟩
  obtain ⟨n, hn⟩ : ∃ n, sz.toNat = n := ⟨_, rfl⟩
  obtain ⟨XN, hXN⟩ : ∃ x, openN n 0 g0 M = x := ⟨_, rfl⟩
  have HXN := hid hXN
  have hmod : openM M = if sz < 0 then (0, some lg0, M) else if XN.1 ≠ 0 then (XN.1, none, XN.2.2) else openE sz XN.2.1 XN.2.2 := by unfold openM; rw [hsze, hn, hXN]
  rw [hsze] at hsz
  obtain ⟨X, hX⟩ : ∃ x, openM M = x := ⟨_, rfl⟩
  rw [hX] at hmod ⊢
  have HSZ := hid hsze
  have hn16 : n ≤ 16384 := by omega
  have HR := hid (RL.new h)
  obtain ⟨w1, hw1⟩ : ∃ x, w.alloc (.cells #[ptr r, .slice none 0 0, .slice none 0 0] tLg) = x := ⟨_, rfl⟩
  have hw1' := hw1
  rw [hw1] at HR
  have HW1 := hid hw1'
  obtain ⟨b, hb⟩ : ∃ x, w.heap.size = x := ⟨_, rfl⟩
  rw [hb] at HR
  have HB := hid hb
  have HM := hid hmod
  have HN := hid hn
  clear hw1 hw1' hb hmod hn h hX hsze hXN
  go_enter Tryz.func11, Tryz.ntmps11
  go_wp2_with fail
  rw [HW1.out, HB.out]
  refine HR.out.size.mono ?_
  rintro e w2 ⟨rfl, rfl⟩
  rw [HSZ.out]
  by_cases hs : sz < 0
  · have HX : Hid (X = (0, some lg0, M)) := hid (HM.out.trans (if_pos hs))
    clear HM
    go_wp2
    refine bodyPost_ret (v := .tuple #[ptr b, .int .i64 0]) (by simp [results, go_sem]) rfl ?_
    rw [HX.out]
    exact open_some rfl (Nat.le_of_eq HB.out) HR.out
  · have HM2 := hid (HM.out.trans (if_neg hs))
    have HI0 : Hid (OI R0 r b w M n 0 g0 M w1) := hid ⟨⟨_, _, HR.out⟩, k0, by rw [Nat.sub_zero], rfl⟩
    clear HM HR
    go_upto_block 0 with fail
    go_cut [5, 6] from 20 to 117 (fun sv rv wx => ∃ (f : LgS) (M1 : Mod), sv = .int .i64 (f.sure : Nat) ∧ rv = .bool f.right ∧ Hid (OE R0 r b w M n f M1 wx))
    case first =>
      go_wp2_with fail
      go_loopw [5, 6, 7] (fun sv rv iv wr => ∃ (k : Nat) (f : LgS) (Mk : Mod), k ≤ n ∧ sv = .int .i64 (f.sure : Nat) ∧ rv = .bool f.right ∧ iv = .int .i64 k ∧ Hid (OI R0 r b w M n k f Mk wr)) (fun _ _ iv _ => n - (intOf iv).toNat)
      case atStart => exact ⟨0, g0, M, Nat.zero_le _, rfl, rfl, rfl, HI0⟩
      case round =>
        clear HI0
        obtain ⟨k, f, Mk, hk, rfl, rfl, rfl, HI⟩ := hrel
        obtain ⟨v, u, hrl⟩ := HI.out.rl
        have HRL := hid hrl
        clear hrl
        have HSK : Hid (Mk.size ln = sz) := hid (HI.out.sz.trans HSZ.out)
        by_cases hlt : (k : Int) < sz
        · have hkn : k < n := by have := HN.out; omega
          have hfn : n - k = (n - (k + 1)) + 1 := by omega
          go_wp2_with fail
          refine HRL.out.size.mono ?_
          rintro e w3 ⟨rfl, rfl⟩
          rw [HSK.out]
          go_wp2_with fail
          refine (HRL.out.read_ k (by omega)).mono ?_
          rintro e w3 ⟨rfl, h3⟩
          have H3 := hid h3
          have hm2 := HXN.out.symm.trans HI.out.run
          have hsr := (size_read Mk k).trans HI.out.sz
          have hln := read_len HI.out.rl.choose_spec.choose_spec.q.good ln k
          rw [hfn] at hm2
          unfold openN at hm2
          clear h3
          generalize (Mk.read ln (k : Int)).2.1 = e at *
          generalize (Mk.read ln (k : Int)).1 = x at *
          generalize (Mk.read ln (k : Int)).2.2 = M2 at *
          have HM3 := hid hm2
          have HSR := hid hsr
          have HLN := hid hln
          clear hm2 hsr hln
          by_cases h13 : e = 13
          · subst h13
            have HE : Hid (OE R0 r b w M n f M2 w3) := hid ⟨⟨_, _, H3.out⟩, ⟨_, HI.out.kk⟩, HXN.out.trans ((HM3.out.trans (if_neg (by decide))).trans (if_pos rfl)), HSR.out⟩
            clear HM3
            go_wp2_with fail
            go_meet
            exact ⟨f, M2, rfl, rfl, HE⟩
          · have h131 : (e == 13) = false := by simp [h13]
            by_cases he : e = 0
            · subst he
              have HM4 := hid ((HM3.out.trans (if_neg (by decide))).trans (if_neg (by decide)))
              clear HM3 h13
              by_cases hk0 : k = 0
              · subst hk0
                rw [take_first] at HM4
                go_wp2_with fail
                refine (rtop_any w3).mono ?_
                rintro e w4 ⟨rfl, hb4⟩
                have H4 := hid (H3.out.on hb4)
                clear hb4
                by_cases hx : x = topL
                · have hxt : ((bs x).toList == topS.toList) = true := by rw [hx, ← topS_list]; simp [bs]
                  have HXT : Hid (bs x = topS) := hid (by rw [hx, ← topS_list]; simp [bs])
                  rw [if_pos hx] at HM4
                  dsimp only at HM4
                  obtain ⟨hns, hss⟩ : f.ns = [] ∧ f.ss = [] := ⟨List.eq_nil_of_length_eq_zero HI.out.kk.ns, List.eq_nil_of_length_eq_zero HI.out.kk.len⟩
                  have HSU : Hid (f.sure = 0) := hid (by have h1 := HI.out.kk.sure; rw [hns] at h1; exact Nat.le_zero.1 h1)
                  have HTK := hid (HI.out.kk.take (s := x) (g := ⟨true, [], [sumL x], 0⟩) (by rw [take_first, if_pos hx]))
                  have HSUM := hid (bs_sum x (HLN.out trivial))
                  clear hx
                  have H6 := hid (H4.out.on (Below.refl _ w4).drew)
                  obtain ⟨ao4, cap4, wi, hr2, d5, d6, d7, d8, h7⟩ := H6.out.pushS (sumL x) (by show f.ss.length < 100000; rw [hss]; decide)
                  obtain ⟨aou, nu, capu, rfl⟩ : ∃ ao n cap, u = .slice ao n cap := by obtain ⟨ao, cap, e⟩ := one_len H4.out.rowS; exact ⟨ao, _, cap, e⟩
                  have HNX : Hid (OI R0 r b w M n 1 ⟨true, [], [sumL x], 0⟩ M2 (wi.setCell ⟨b, 2, none⟩ (.slice ao4 (f.ss.length + 1) cap4))) := hid ⟨⟨_, _, by have := h7; simp only [hns, hss, List.nil_append] at this; rw [hss]; exact this⟩, HTK.out, HXN.out.trans HM4.out, HSR.out⟩
                  have e2 := H4.out.c2
                  have e3 := lt_of_block H4.out.box
                  have HR2 := hid hr2
                  clear hr2 h7 hns hss HM4
                  generalize topS = TS at *
                  generalize sumL x = SX at *
                  generalize f.ss.length = nss at *
                  go_upto_region 18 with fail
                  go_region_law (first
                      | (go_simp; go_at_call 42; refine (HSUM.out _).mono ?_; rintro e w5 ⟨rfl, rfl⟩)
                      | (refine Mem.step_append_run (by rfl) (.tmp 46) (.tmp 49) tUs tUs (by rfl) _ _ (by simp [Act.eval]) (by simp [Act.eval]) HR2.out ?_))
                  all_goals
                    go_wp2
                    go_roundw
                    case rel => exact ⟨1, ⟨true, [], [SX], 0⟩, M2, hkn, by rw [HSU.out], rfl, by go_num, HNX⟩
                    case measure => simp [intOf]; omega
                · have hxt : ((bs x).toList == topS.toList) = false := by
                    have e1 : (bs x).toList = x := by simp [bs]
                    have e2 : topS.toList = topL := by rw [← topS_list]; simpa using ByteArray.toList_eq topS
                    rw [e1, e2]
                    simpa using hx
                  rw [if_neg hx] at HM4
                  have HE : Hid (OE R0 r b w M n f M2 w4) := hid ⟨⟨_, _, H4.out⟩, ⟨_, HI.out.kk⟩, HXN.out.trans HM4.out, HSR.out⟩
                  clear HM4 hx
                  generalize topS = TS at *
                  go_wp2_with fail
                  go_meet
                  exact ⟨f, M2, rfl, rfl, HE⟩
              · have hk1 : ((k : Int) == 0) = false := by simp; omega
                have hl256 := HLN.out rfl
                have HSUM := hid (bs_sum x hl256)
                have ho := ropen_any (bs x)
                by_cases hok : okB x = true
                · obtain ⟨o1, o2⟩ := log_ok hok
                  rw [o1, o2] at ho
                  rw [take_ok hk0 f hok] at HM4
                  have HTK : Hid (∀ g, goodL k f (kK x) (kN x) (kS x) (sumL x) = some g → LgK (k + 1) g) := hid (fun g hg => HI.out.kk.take (s := x) (by rw [take_ok hk0 f hok]; exact hg))
                  have HNL : Hid (kN x < 4294967296) := hid (Seal.numAt_lt x 236 4)
                  clear o1 o2 hok
                  unfold sV at ho
                  generalize kK x = K at *
                  generalize kN x = N at *
                  generalize kS x = S at *
                  generalize kD x = dd at *
                  generalize sumL x = SX at *
                  have HO := hid ho
                  clear ho hl256
                  obtain ⟨aov, capv, hvv⟩ := one_len H3.out.rowN
                  obtain ⟨aou, capu, huu⟩ := one_len H3.out.rowS
                  have hls := HI.out.kk.len
                  have hln := HI.out.kk.ns
                  subst hvv
                  subst huu
                  go_wp2_with fail
                  refine (HO.out _).mono ?_
                  rintro e w4 ⟨rfl, hb4⟩
                  have H4 := hid (H3.out.on hb4)
                  clear hb4
                  have hbq : Below w4.heap.size w4 (w4.alloc (.cells #[.int .i64 (K : Nat), .int .i64 (N : Nat), .int .u64 (S : Nat), .string (bs dd)] tSe)) := (Below.refl _ w4).alloc (Nat.le_refl _) _
                  have hq := blk_new w4 (.cells #[.int .i64 (K : Nat), .int .i64 (N : Nat), .int .u64 (S : Nat), .string (bs dd)] tSe)
                  obtain ⟨wq, hwq⟩ : ∃ y, w4.alloc (.cells #[.int .i64 (K : Nat), .int .i64 (N : Nat), .int .u64 (S : Nat), .string (bs dd)] tSe) = y := ⟨_, rfl⟩
                  rw [hwq] at hbq hq
                  have HWQ := hid hwq
                  have H5 := hid (H4.out.on hbq)
                  have HQ := hid hq
                  obtain ⟨j, hj⟩ : ∃ j, k = j + 1 := ⟨k - 1, by omega⟩
                  have HKJ : Hid (j + 1 ≤ n) := hid (by omega)
                  obtain ⟨T, hTe⟩ : ∃ T, f.ss.getD (k - 1) 0 = T := ⟨_, rfl⟩
                  have hjl : j < f.ss.length := by omega
                  obtain ⟨gs, rfl, hjc, hc4⟩ := one_at H5.out.rowS j hjl
                  have hT2 : f.ss[j] = T := by rw [← hTe, hj]; simp [hjl]
                  rw [hT2] at hc4
                  have HTE := hid hTe
                  clear hwq hbq hq hTe hT2 hjl
                  subst hj
                  have c0 := blk_cell HQ.out 0
                  have c1 := blk_cell HQ.out 1
                  have c2 := blk_cell HQ.out 2
                  have d2 : wq.cell? ⟨b, 2, none⟩ = some (.slice (some ⟨gs, 0, none⟩) (j + 1) capu) := by rw [← hls]; exact H5.out.c2
                  have hwj := w_id (j := j) (by omega)
                  have hij := i_id (j := j) (by omega)
                  have hib := i_back (j := j) (by omega)
                  have hjn : (j : Int) < (j : Int) + 1 := by omega
                  have hj0 : ¬ (j : Int) < 0 := by omega
                  clear hls
                  go_upto_region 20 with fail
                  rw [HWQ.out]
                  go_cut [87] from 58 to 87 (fun cv wx => cv = .bool (badB 0 K N S T) ∧ Hid (Below wq.heap.size wq wx))
                  case first =>
                    by_cases a5 : K = 5
                    · have h5 := b_eq5 a5
                      have HA5 := hid a5
                      clear a5
                      by_cases aN : 4096 ≤ N
                      · have hn : (4096 : Int) ≤ (N : Int) := by omega
                        have HAN := hid aN
                        clear aN
                        go_quiet (fail)
                        go_wp2_with fail
                        go_meet
                        exact ⟨by rw [bad_n HAN.out], hid (bel_drewN (Below.refl _ wq) _)⟩
                      · have hn : ¬ (4096 : Int) ≤ (N : Int) := by omega
                        have HAN := hid aN
                        clear aN
                        by_cases aS : S = T
                        · have hs := b_eq aS
                          have HAS := hid aS
                          clear aS
                          go_quiet (fail)
                          go_wp2_with fail
                          go_meet
                          exact ⟨by rw [bad_no rfl (Or.inl HA5.out) HAN.out HAS.out], hid (bel_drewN (Below.refl _ wq) _)⟩
                        · have hs := b_ne aS
                          have HAS := hid aS
                          clear aS
                          go_quiet (fail)
                          go_wp2_with fail
                          go_meet
                          exact ⟨by rw [bad_s HAS.out], hid (bel_drewN (Below.refl _ wq) _)⟩
                    · have h5 := b_ne5 a5
                      have HA5 := hid a5
                      clear a5
                      by_cases a6 : K = 6
                      · have h6 := b_eqq6 a6
                        have HA6 := hid a6
                        clear a6
                        by_cases aN : 4096 ≤ N
                        · have hn : (4096 : Int) ≤ (N : Int) := by omega
                          have HAN := hid aN
                          clear aN
                          go_quiet (fail)
                          go_wp2_with fail
                          go_meet
                          exact ⟨by rw [bad_n HAN.out], hid (bel_drewN (Below.refl _ wq) _)⟩
                        · have hn : ¬ (4096 : Int) ≤ (N : Int) := by omega
                          have HAN := hid aN
                          clear aN
                          by_cases aS : S = T
                          · have hs := b_eq aS
                            have HAS := hid aS
                            clear aS
                            go_quiet (fail)
                            go_wp2_with fail
                            go_meet
                            exact ⟨by rw [bad_no rfl (Or.inr HA6.out) HAN.out HAS.out], hid (bel_drewN (Below.refl _ wq) _)⟩
                          · have hs := b_ne aS
                            have HAS := hid aS
                            clear aS
                            go_quiet (fail)
                            go_wp2_with fail
                            go_meet
                            exact ⟨by rw [bad_s HAS.out], hid (bel_drewN (Below.refl _ wq) _)⟩
                      · have h6 := b_ne6 a6
                        have HA6 := hid a6
                        clear a6
                        go_quiet (fail)
                        go_wp2_with fail
                        go_meet
                        exact ⟨by rw [bad_k ⟨HA5.out, HA6.out⟩], hid (bel_drewN (Below.refl _ wq) _)⟩
                  case rest =>
                  obtain ⟨rfl, HBC⟩ := hcut
                  cases hB : badB 0 K N S T with
                  | true =>
                    have hg := good_none (sm := SX) HTE.out (bad_true hB)
                    rw [hg] at HM4
                    have HE : Hid (OE R0 r b w M n f M2 wc) := hid ⟨⟨_, _, H5.out.on HBC.out⟩, ⟨_, HI.out.kk⟩, HXN.out.trans HM4.out, HSR.out⟩
                    clear HM4 hg hB
                    go_wp2_with fail
                    go_meet
                    exact ⟨f, M2, rfl, rfl, HE⟩
                  | false =>
                    obtain ⟨hk56, hN4, hST⟩ := bad_false hB
                    have hg := good_some (sm := SX) HTE.out hk56 hN4 hST
                    have HTK2 := hid (HTK.out _ hg)
                    rw [hg] at HM4
                    dsimp only at HM4
                    have h6 := (H5.out.on HBC.out)
                    have hq6 := (HBC.out.block _ (lt_of_block HQ.out)).trans HQ.out
                    have hkj : j + 1 ≤ 16384 := by have := HKJ.out; omega
                    have hls2 : f.ss.length = j + 1 := HI.out.kk.len
                    have hln2 : f.ns.length = j := by have := HI.out.kk.ns; omega
                    have hfl : f.ns.length < 90000 := by omega
                    have hfs : f.ss.length < 90000 := by omega
                    have hx6 : ¬ lgX b (.slice aov f.ns.length capv) (.slice (some ⟨gs, 0, none⟩) f.ss.length capu) w4.heap.size := fun hx => by have := H4.out.hX _ hx; omega
                    obtain ⟨ao7, cap7, w7, hr7, k7, z7, l7, s7, h7, hc7⟩ := (h6.on (Below.refl _ wc).drew).pushN2 N (by show f.ns.length < 100000; omega)
                    have hq7 := hc7.at (show wc.drew.heap[w4.heap.size]? = _ from hq6) hx6
                    obtain ⟨ao8, cap8, w8, hr8, k8, z8, l8, s8, h8, hc8⟩ := (h7.on (Below.refl _ _).drew).pushS2 SX (by show f.ss.length < 100000; omega)
                    have hx7 : ¬ lgX b (.slice ao7 (f.ns.length + 1) cap7) (.slice (some ⟨gs, 0, none⟩) f.ss.length capu) w4.heap.size := fun hx => by
                      obtain ⟨cur, hcur⟩ := lgX_type h7 hx
                      rw [hq7] at hcur
                      rcases hcur with e | e | e <;> (injection e with e; injection e with _ e _; exact absurd e (by decide))
                    have hq8 := hc8.at (show (w7.setCell ⟨b, 1, none⟩ (.slice ao7 (f.ns.length + 1) cap7)).drew.heap[w4.heap.size]? = _ from hq7) hx7
                    have HK56 := hid hk56
                    have HR7 := hid hr7
                    have HR8 := hid hr8
                    have HNX : Hid (OI R0 r b w M n (j + 1 + 1) ⟨f.right, f.ns ++ [N], f.ss ++ [SX], if K = 6 then f.ns.length + 1 else f.sure⟩ M2 (w8.setCell ⟨b, 2, none⟩ (.slice ao8 (f.ss.length + 1) cap8))) := hid ⟨⟨_, _, h8⟩, HTK2.out, HXN.out.trans HM4.out, HSR.out⟩
                    have e1 := h6.c1
                    have e2 := h7.c2
                    have y1 := lt_of_block h6.box
                    have y2 := lt_of_block h7.box
                    have p1 : wc.cell? ⟨w4.heap.size, 1, none⟩ = some (.int .i64 (N : Nat)) := blk_cell hq6 1
                    have p0 : (w8.setCell ⟨b, 2, none⟩ (.slice ao8 (f.ss.length + 1) cap8)).cell? ⟨w4.heap.size, 0, none⟩ = some (.int .i64 (K : Nat)) := blk_cell hq8 0
                    have e8 := h8.c1
                    have HHN : Hid ((f.ns ++ [N]).length = f.ns.length + 1) := hid (by rw [List.length_append]; rfl)
                    clear hln hls2 hln2 hST hN4
                    clear h6 h7 h8 hq6 hq7 hq8 hr7 hr8 hc7 hc8 hx6 hx7 hg HM4 c0 c1 c2 d2 hB hk56
                    obtain ⟨wB, hwB⟩ : ∃ y, w8.setCell ⟨b, 2, none⟩ (.slice ao8 (f.ss.length + 1) cap8) = y := ⟨_, rfl⟩
                    obtain ⟨wA, hwA⟩ : ∃ y, w7.setCell ⟨b, 1, none⟩ (.slice ao7 (f.ns.length + 1) cap7) = y := ⟨_, rfl⟩
                    rw [hwB] at HNX p0 e8
                    rw [hwA] at HR8 e2 y2
                    have HWB := hid hwB
                    have HWA := hid hwA
                    clear hwB hwA
                    generalize f.ss.length = nss at *
                    generalize f.ns.length = nns at *
                    go_upto_region 21 with fail
                    go_cut [] from 88 to 98 (fun wx => wx = wA)
                    case first =>
                      go_region_law ((refine Mem.step_append_run (by rfl) (.tmp 92) (.tmp 95) tIs tIs (by rfl) _ _ (by simp [Act.eval]) (by simp [Act.eval]) HR7.out ?_))
                      all_goals
                        go_wp2_with fail
                        go_meet
                        exact HWA.out
                    case rest =>
                    subst hcut
                    obtain ⟨wa, hwa⟩ : ∃ y, y = wc := ⟨_, rfl⟩
                    subst hwa
                    clear e1 y1 p1
                    go_upto_region 22 with fail
                    go_cut [] from 99 to 109 (fun wx => wx = wB)
                    case first =>
                      go_region_law (first
                        | (go_simp; go_at_call 42; refine (HSUM.out _).mono ?_; rintro e w5 ⟨rfl, rfl⟩)
                        | (refine Mem.step_append_run (by rfl) (.tmp 103) (.tmp 106) tUs tUs (by rfl) _ _ (by simp [Act.eval]) (by simp [Act.eval]) HR8.out ?_))
                      all_goals
                        go_wp2_with fail
                        go_meet
                        exact HWB.out
                    case rest =>
                    subst hcut
                    have HJN : Hid (j + 1 + 1 ≤ n) := hid (by omega)
                    rcases HK56.out with rfl | rfl
                    · go_wp2
                      go_roundw
                      case rel => exact ⟨j + 1 + 1, ⟨f.right, f.ns ++ [N], f.ss ++ [SX], if 5 = 6 then nns + 1 else f.sure⟩, M2, HJN.out, rfl, rfl, by go_num, HNX⟩
                      case measure => simp [intOf]; omega
                    · go_wp2
                      go_roundw
                      case rel => exact ⟨j + 1 + 1, ⟨f.right, f.ns ++ [N], f.ss ++ [SX], if 6 = 6 then nns + 1 else f.sure⟩, M2, HJN.out, rfl, rfl, by go_num, HNX⟩
                      case measure => simp [intOf]; omega
                · have hok' : okB x = false := by simpa using hok
                  obtain ⟨o1, o2⟩ := log_not hok'
                  rw [o1] at ho
                  rw [take_bad hk0 f hok'] at HM4
                  have he1 : (Seal.openE (bs x) != 0) = true := by simp [o2]
                  generalize Seal.openE (bs x) = oe at *
                  unfold zeroV at ho
                  have HO := hid ho
                  clear ho o1 o2 hok hok' hl256
                  go_wp2_with fail
                  refine (HO.out _).mono ?_
                  rintro e w4 ⟨rfl, hb4⟩
                  have H4 := hid (H3.out.on hb4)
                  clear hb4
                  go_upto_region 20 with fail
                  go_quiet (fail)
                  go_wp2_with fail
                  go_meet
                  exact ⟨f, M2, rfl, rfl, hid ⟨⟨_, _, H4.out.on (bel_drewN ((Below.refl _ w4).alloc (Nat.le_refl _) _) _)⟩, ⟨_, HI.out.kk⟩, HXN.out.trans HM4.out, HSR.out⟩⟩
            · have he1 : (e != 0) = true := by simp [he]
              have hxe : XN = (e, f, M2) := HM3.out.trans (if_pos ⟨he, h13⟩)
              have HX : Hid (X = (e, none, M2)) := hid (by
                rw [HM2.out, hxe]
                exact if_pos he)
              clear hxe
              have H5 := hid H3.out.free
              clear HM3 he h13
              go_wp2
              refine bodyPost_ret (v := .tuple #[.pointer none, .int .i64 e]) (by simp [results, go_sem]) rfl ?_
              rw [HX.out]
              exact open_none rfl H5.out
        · have HE : Hid (OE R0 r b w M n f Mk wr) := hid ⟨⟨_, _, HRL.out⟩, ⟨_, HI.out.kk⟩, by
            have h1 : n - k = 0 := by have := HN.out; omega
            rw [HI.out.run, h1]
            rfl, HI.out.sz⟩
          go_wp2_with fail
          refine HRL.out.size.mono ?_
          rintro e w3 ⟨rfl, rfl⟩
          rw [HSK.out]
          go_wp2_with fail
          go_meet
          exact ⟨f, Mk, rfl, rfl, HE⟩
    case rest =>
    obtain ⟨f, M1, rfl, rfl, HE⟩ := hcut
    obtain ⟨v, u, hrl⟩ := HE.out.rl
    obtain ⟨k, hkk⟩ := HE.out.kk
    have hxn : XN = (0, f, M1) := HXN.out.symm.trans HE.out.run
    have HX : Hid (X = openE sz f M1) := hid (by rw [HM2.out, hxn]; rfl)
    have HSK : Hid (M1.size ln = sz) := hid (HE.out.sz.trans HSZ.out)
    have HRL := hid hrl
    have HB2 : Hid (w.heap.size ≤ wc.heap.size) := hid hrl.q.chg.size
    clear hxn HM2 HI0
    cases hr : f.right with
    | false =>
      have hex : openE sz f M1 = ((M1.drop ln).1, some lg0, (M1.drop ln).2) := if_pos hr
      have HX2 : Hid (X = ((M1.drop ln).1, some lg0, (M1.drop ln).2)) := hid (HX.out.trans hex)
      have HNW := hid (RL.new hrl.free)
      clear hrl hex
      go_wp2_with fail
      refine HNW.out.drop_.mono ?_
      rintro e w5 ⟨rfl, h5⟩
      have H5 := hid h5
      clear h5
      generalize M1.drop ln = Y at *
      go_wp2
      refine bodyPost_ret (v := .tuple #[ptr wc.heap.size, .int .i64 Y.1]) (by simp [results, go_sem]) rfl ?_
      rw [HX2.out]
      exact open_some rfl HB2.out H5.out
    | true =>
      have hk1 : 0 < k := by
        have h1 := hkk.right
        rw [hr] at h1
        exact of_decide_eq_true h1.symm
      have hsn : f.sure ≤ f.ns.length := hkk.sure
      have hss : f.sure + 1 ≤ f.ss.length := by have h1 := hkk.len; have h2 := hkk.ns; omega
      obtain ⟨aov, capv, hv⟩ := one_len hrl.rowN
      obtain ⟨aou, capu, hu⟩ := one_len hrl.rowS
      subst hv
      subst hu
      have hfew := hrl.few
      have hfn : f.ns.length ≤ 100000 := hfew.1
      have hex : openE sz f M1 = if (f.sure : Int) + 1 < sz then ((M1.cut ln (f.sure + 1 : Nat)).1, some (cutLg f), (M1.cut ln (f.sure + 1 : Nat)).2) else (0, some (cutLg f), M1) := if_neg (by rw [hr]; decide)
      have HX2 := hid (HX.out.trans hex)
      obtain ⟨hcv, hn1⟩ := hrl.cutN (c := f.sure) hsn
      have HN1 := hid hn1
      have hcv2 : (f.sure : Int) ≤ (capv : Int) := by omega
      have d1 := hrl.c1
      have z1 := blk_free hrl.box 1
      have lb := lt_of_block hrl.box
      have HFEW : Hid (f.sure ≤ 100000 ∧ f.sure + 1 ≤ f.ss.length) := hid ⟨by omega, hss⟩
      clear hrl hex hn1 hkk hsn hss hfew hfn hk1 hcv
      go_upto_region 27 with fail
      go_cut [] from 125 to 133 (fun wx => Hid (RL R0 r b M1 ⟨f.ns.take f.sure, f.ss⟩ w (.slice aov f.sure capv) (.slice aou f.ss.length capu) wx))
      case first =>
        go_wp2_with fail
        go_meet
        exact HN1
      case rest =>
      have HN2 := hcut
      clear hcut HN1 d1 z1 lb HRL
      obtain ⟨w9, hw9⟩ : ∃ x, x = wc := ⟨_, rfl⟩
      subst hw9
      obtain ⟨hcu, hs1⟩ := HN2.out.cutS (c := f.sure + 1) HFEW.out.2
      have HS1 := hid hs1
      have hcu2 : (f.sure : Int) + 1 ≤ (capu : Int) := by omega
      have d2 := HN2.out.c2
      have z2 := blk_free HN2.out.box 2
      have lb := lt_of_block HN2.out.box
      have hwk : wrap64 ((f.sure : Int) + 1) = ((f.sure + 1 : Nat) : Int) := by rw [Num.wrap_i]; have := HFEW.out.1; omega
      have hfs : (f.sure : Int) ≤ 100000 := by have := HFEW.out.1; omega
      clear hs1 hcu
      go_upto_region 28 with fail
      go_cut [] from 134 to 143 (fun wx => Hid (RL R0 r b M1 (cutLg f) w (.slice aov f.sure capv) (.slice aou (f.sure + 1) capu) wx))
      case first =>
        go_wp2_with fail
        go_meet
        exact HS1
      case rest =>
      have HN3 := hcut
      clear hcut HS1 d2 z2 lb HN2
      go_wp2_with fail
      refine HN3.out.size.mono ?_
      rintro e w5 ⟨rfl, rfl⟩
      rw [HSK.out]
      by_cases hcs : (f.sure : Int) + 1 < sz
      · have HX3 : Hid (X = ((M1.cut ln (f.sure + 1 : Nat)).1, some (cutLg f), (M1.cut ln (f.sure + 1 : Nat)).2)) := hid (HX2.out.trans (if_pos hcs))
        have hct := HN3.out.cut_ ((f.sure + 1 : Nat) : Int)
        generalize M1.cut ln ((f.sure + 1 : Nat) : Int) = Y at *
        have HCT := hid hct
        clear hct
        go_wp2_with fail
        refine HCT.out.mono ?_
        rintro e w6 ⟨rfl, h6⟩
        have H6 := hid h6
        clear h6
        go_wp2
        refine bodyPost_ret (v := .tuple #[ptr b, .int .i64 Y.1]) (by simp [results, go_sem]) rfl ?_
        rw [HX3.out]
        exact open_some rfl (Nat.le_of_eq HB.out) H6.out
      · have HX3 : Hid (X = (0, some (cutLg f), M1)) := hid (HX2.out.trans (if_neg hcs))
        go_wp2
        refine bodyPost_ret (v := .tuple #[ptr b, .int .i64 0]) (by simp [results, go_sem]) rfl ?_
        rw [HX3.out]
        exact open_some rfl (Nat.le_of_eq HB.out) HN3.out
end Lr
end Go.Proofs.YtgmbiiocjhkpdaaGreat
