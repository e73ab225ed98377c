/-
  Contracts of the reference's log: top, Add.
-/
import Derived.Test.YtgmbiiocjhkpdaaGreatGrpLgR
import Derived.BigQuiet
import Derived.Deep.CutRange
import Derived.Deep.CutBlock
import Derived.Deep.RegionHeldLaw
namespace Go.Proofs.YtgmbiiocjhkpdaaGreat
open Go.RowKit Go.Shelf
namespace Lr
open Lo
open Num (hid)
open Disk (Mod Fil)
open Ref (Refs RQ Good)
open Seal (sealS full full_any full_size rclose_yes sumOf rsum_any)
open Mem (Bs bs tI tIs ptr blk_cell blk_free blk_new blk_set blk_other blk_alloc row_kept row_shape row_type push_int push_one wpList_append_run)
attribute [local go_sem] Oper.semAt_some
variable {R0 : Nat → Prop} {r b : Nat} {M M' : Mod} {l l' : Lg} {w0 w w' : World} {v u v' u' : Value}
abbrev tSe : TypeId := 55
def topS : ByteArray := sealS 4 1 0 (full ⟨#[]⟩)
theorem topS_list : topS.data.toList = topL := by
  unfold topS topL
  rw [Seal.sealS_list]
  rfl
theorem topS_size : topS.size = 256 := by unfold topS; rw [Seal.sealS_size, full_size]
theorem sum_is (s : ByteArray) (h : s.size = 256) : sumOf s = sumL s.data.toList := by
  rw [Seal.sumOf_yes h]
  rfl
set_option maxRecDepth 100000 in
set_option maxHeartbeats 1000000 in
theorem rtop_any (w : World) : Calls Tryz.prog 52 #[] w fun e w' => e = .returned (.string topS) ∧ Below w.heap.size w w' := by
  have HT : Hid (sealS 4 1 0 (full ⟨#[]⟩) = topS) := hid rfl
  generalize topS = T at *
  go_enter Tryz.func52, Tryz.ntmps52
  go_wp2_with fail
  refine (full_any ⟨#[]⟩ w).mono ?_
  rintro e w1 ⟨rfl, hb1⟩
  have HB1 := hid hb1
  clear hb1
  go_wp2_with fail
  refine (rclose_yes 4 1 0 (by decide) (by decide) (by decide) (full ⟨#[]⟩) (full_size _) w1).mono ?_
  rintro e w2 ⟨rfl, hb2⟩
  have HB2 : Hid (Below w.heap.size w w2) := hid (HB1.out.trans (hb2.mono HB1.out.size))
  clear hb2
  rw [HT.out]
  go_wp2
  go_ret
  exact ⟨rfl, HB2.out⟩
theorem top_sum (w : World) : Calls Tryz.prog 42 #[.string topS] w fun e w' => e = .returned (.int .u64 (sumL topL : Nat)) ∧ w = w' := by
  have := rsum_any topS w
  rw [sum_is topS topS_size, topS_list] at this
  exact this
theorem RL.top_ (h : RL R0 r b M l w0 v u w) : Calls Tryz.prog 64 #[ptr r, .string lS, .int .i64 0, .string topS] w fun e w' => e = .returned (.int .i64 (M.write ln 0 topL).1) ∧ RL R0 r b (M.write ln 0 topL).2 l w0 v u w' := by
  have := h.write_ 0 topS (by rw [topS_size]; decide)
  rw [topS_list] at this
  exact this
/-- The last sum. -/
theorem RL.last {ao : Option Addr} {n cap : Nat} (h : RL R0 r b M l w0 v (.slice ao n cap) w) (hs : l.ss ≠ []) : ∃ g k, ao = some ⟨g, 0, none⟩ ∧ n = k + 1 ∧ (k : Int) < (cap : Int) ∧ w.cell? ⟨g, k, none⟩ = some (uV (l.ss.getLastD 0)) ∧ n = l.ss.length := by
  have hn := (one_cut h.rowS (Nat.le_refl _)).1
  have hp : 0 < l.ss.length := by
    cases hl : l.ss with
    | nil => exact absurd hl hs
    | cons x r => simp
  obtain ⟨g, h1, h2, h3⟩ := one_at h.rowS (l.ss.length - 1) (by omega)
  refine ⟨g, l.ss.length - 1, h1, by omega, h2, ?_, hn⟩
  rw [h3]
  congr 1
  congr 1
  congr 1
  rw [List.getLastD_eq_getLast?, List.getLast?_eq_getElem?, List.getElem?_eq_getElem (by omega)]
  rfl
theorem top_lt : sumL topL < 18446744073709551616 := by decide +kernel
theorem last_mem {l : List Nat} (h : l ≠ []) : l.getLastD 0 ∈ l := by
  rw [List.getLastD_eq_getLast?, List.getLast?_eq_some_getLast h]
  exact List.getLast_mem h
theorem w_one {n : Nat} (h : n ≤ 100000) : wrap64 (1 + (n : Int)) = ((1 + n : Nat) : Int) := by rw [Num.wrap_i]; omega
theorem w_less {n k : Nat} (h : n = k + 1) (hn : n ≤ 100000) : wrap64 ((n : Int) - 1) = (k : Int) := by rw [Num.wrap_i]; omega
theorem frame_list (T N : Nat) (d : ByteArray) (c : Bool) (l : Lg) (h : l.ss.getLastD 0 = T) : (sealS (if c then 6 else 5) N T d).data.toList = frameL l N d.data.toList c := by
  rw [Seal.sealS_list]
  unfold frameL
  rw [h]
theorem kind_lt (c : Bool) : (if c then 6 else 5) < 4294967296 := by cases c <;> decide
/-- What Add carries behind the top. -/
structure AD (R0 : Nat → Prop) (r b : Nat) (w0 : World) (l : Lg) (n : Nat) (d : List UInt8) (c : Bool) (X : Int × Lg × Mod) (wx : World) (l1 : Lg) (M1 : Mod) (v1 u1 : Value) : Prop where
  rl : RL R0 r b M1 l1 w0 v1 u1 wx
  eq : X = frameM l1 n d c M1
  ne : l1.ss ≠ []
  few : l1.ns.length < 90000 ∧ l1.ss.length < 90000
  lt : ∀ x ∈ l1.ss, x < 18446744073709551616
def AddPost (R0 : Nat → Prop) (r b : Nat) (w0 : World) (X : Int × Lg × Mod) (e : Ending) (w' : World) : Prop :=
  ∃ v u, e = .returned (.int .i64 X.1) ∧ RL R0 r b X.2.2 X.2.1 w0 v u w'
set_option maxRecDepth 100000 in
set_option maxHeartbeats 4000000 in
theorem radd_any (h : RL R0 r b M l w0 v u w) (hs : 0 ≤ M.size ln → l.ss ≠ []) (hf : l.ns.length < 90000 ∧ l.ss.length < 90000) (hT : ∀ x ∈ l.ss, x < 18446744073709551616) (n : Int) (d : ByteArray) (c : Bool) :
    Calls Tryz.prog 14 #[ptr b, .int .i64 n, .string d, .bool c] w (AddPost R0 r b w0 (addM l n d.data.toList c M)) := by
  have hm : addM l n d.data.toList c M = if n < 0 ∨ 4096 ≤ n ∨ d.size ≠ 232 then (1, l, M)
    else if (topM l M).1 ≠ 0 then topM l M
    else frameM (topM l M).2.1 n.toNat d.data.toList c (topM l M).2.2 := rfl
  obtain ⟨X, hX⟩ : ∃ X, addM l n d.data.toList c M = X := ⟨_, rfl⟩
  rw [hX] at hm ⊢
  have H := hid h
  have HF := hid hf
  have HTT := hid hT
  have HS := hid hs
  have c0 := h.c0
  clear h hf hs hX hT
  by_cases h0 : n < 0
  · have HM : Hid (X = (1, l, M)) := hid (hm.trans (if_pos (Or.inl h0)))
    clear hm
    go_enter Tryz.func14, Tryz.ntmps14
    go_wp2
    go_ret
    rw [HM.out]
    exact ⟨_, _, rfl, H.out⟩
  by_cases h1 : 4096 ≤ n
  · have HM : Hid (X = (1, l, M)) := hid (hm.trans (if_pos (Or.inr (Or.inl h1))))
    clear hm
    go_enter Tryz.func14, Tryz.ntmps14
    go_wp2
    go_ret
    rw [HM.out]
    exact ⟨_, _, rfl, H.out⟩
  by_cases h2 : d.size = 232
  case neg =>
    have HM : Hid (X = (1, l, M)) := hid (hm.trans (if_pos (Or.inr (Or.inr h2))))
    have h2b : ((d.size : Int) != 232) = true := by simp; omega
    clear hm h2
    go_enter Tryz.func14, Tryz.ntmps14
    go_wp2
    go_ret
    rw [HM.out]
    exact ⟨_, _, rfl, H.out⟩
  obtain ⟨N, rfl⟩ := Int.eq_ofNat_of_zero_le (show 0 ≤ n by omega)
  have hm2 : X = if (topM l M).1 ≠ 0 then topM l M else frameM (topM l M).2.1 N d.data.toList c (topM l M).2.2 := hm.trans (if_neg (by omega))
  have h2b : ((d.size : Int) != 232) = false := by simp; omega
  have HD := hid h2
  have HM := hid hm2
  have HSZ := hid H.out.size
  clear hm hm2 h2 h0
  go_enter Tryz.func14, Tryz.ntmps14
  go_upto_if 32 with (refine HSZ.out.mono ?_; rintro e w1 ⟨rfl, rfl⟩)
  go_cut [8, 9] from 32 to 47 (fun _ _ wx => ∃ l1 M1 v1 u1, Hid (AD R0 r b w0 l N d.data.toList c X wx l1 M1 v1 u1))
  case first =>
    by_cases hsz : M.size ln < 0
    · have hsz1 : M.size ln < 0 := hsz
      have HTM : Hid (topM l M = ((M.write ln 0 topL).1, (if (M.write ln 0 topL).1 = 0 then ⟨l.ns, [sumL topL]⟩ else l), (M.write ln 0 topL).2)) := hid (if_pos hsz)
      generalize M.size ln = sz at *
      go_upto_region 6 with fail
      refine Tail.wp_region_quiet_tail 5 (fun wx => Below w.heap.size w wx) (by kernel_rfl) (by kernel_rfl) (Below.refl _ w).drew ?_
      simp only [List.take_succ_cons, List.take_zero, List.drop_succ_cons, List.drop_zero]
      go_big_quiet_want
      go_big_quiet_op
      go_big_quiet_on
      go_big_quiet_want
      go_big_quiet_op
      apply Exists.intro
      refine ⟨fun _ _ => ?_, ?_⟩
      · with_reducible exact Eq.refl _
      go_big_quiet_on
      go_big_quiet_want
      go_big_quiet_op
      apply Exists.intro
      refine ⟨fun _ _ => ?_, ?_⟩
      · with_reducible exact Eq.refl _
      go_big_quiet_on
      go_big_quiet_want
      go_big_quiet_op
      refine ⟨ptr r, fun wx hx => ?_, ?_⟩
      · have c := (H.out.on hx).c0
        simp [go_sem, c]
      go_big_quiet_on
      go_big_quiet_want
      go_big_quiet_op
      refine ⟨.string topS, fun wx hx => ?_, ?_⟩
      · refine (rtop_any wx).mono ?_
        rintro e w9 ⟨rfl, hb9⟩
        exact ⟨rfl, hx.trans (hb9.mono hx.size)⟩
      go_big_quiet_on
      refine wpQuiet_nil ?_
      intro w2 hb2
      have H2 := hid (H.out.on hb2)
      clear hb2
      go_wp2_with fail
      refine H2.out.top_.mono ?_
      rintro e w3 ⟨rfl, h3⟩
      have H3 := hid h3
      clear h3
      generalize M.write ln 0 topL = Y at *
      by_cases hy : Y.1 = 0
      · have hy1 : (Y.1 != 0) = false := by simp [hy]
        have HX : Hid (X = frameM ⟨l.ns, [sumL topL]⟩ N d.data.toList c Y.2) := hid (by rw [HM.out, HTM.out, if_neg (by rw [hy]; decide), if_pos hy])
        clear hy
        go_wp2_with fail
        refine (rtop_any w3).mono ?_
        rintro e w4 ⟨rfl, hb4⟩
        have H4 := hid (H3.out.on hb4)
        clear hb4
        go_wp2_with fail
        refine (top_sum w4).mono ?_
        rintro e w5 ⟨rfl, rfl⟩
        obtain ⟨d1, d2, d3, h5⟩ := H4.out.oneS (sumL topL)
        rw [World.setCell_alloc_past _ _ _ _ d3] at h5
        have HA : Hid (AD R0 r b w0 l N d.data.toList c X _ ⟨l.ns, [sumL topL]⟩ Y.2 _ _) := hid ⟨h5, HX.out, by simp, ⟨HF.out.1, by show 1 < 90000; decide⟩, fun x hx => by rw [List.mem_singleton] at hx; rw [hx]; exact top_lt⟩
        have c2 := H4.out.c2
        have z2 := blk_free H4.out.box 2
        obtain ⟨ao, n2, cap, rfl⟩ : ∃ ao n cap, u = .slice ao n cap := by obtain ⟨ao, cap, e⟩ := one_len H4.out.rowS; exact ⟨ao, _, cap, e⟩
        clear h5
        generalize topS = TS at *
        generalize sumL topL = TN at *
        go_wp2_with fail
        go_meet
        exact ⟨_, _, _, _, HA⟩
      · have hy1 : (Y.1 != 0) = true := by simp [hy]
        have HX : Hid (X = (Y.1, l, Y.2)) := hid (by rw [HM.out, HTM.out, if_pos hy, if_neg hy])
        clear hy
        go_wp2
        refine bodyPost_ret (v := .int .i64 Y.1) (by simp [results, go_sem]) rfl ?_
        rw [HX.out]
        exact ⟨_, _, rfl, H3.out⟩
    · have hsz1 : ¬ M.size ln < 0 := hsz
      have hne := HS.out (by omega)
      have HX : Hid (X = frameM l N d.data.toList c M) := hid (by
        have e : topM l M = (0, l, M) := if_neg hsz
        rw [HM.out, e]
        rfl)
      have HA : Hid (AD R0 r b w0 l N d.data.toList c X w l M v u) := hid ⟨H.out, HX.out, hne, HF.out, HTT.out⟩
      clear hne
      generalize M.size ln = sz at *
      go_wp2_with fail
      go_meet
      exact ⟨_, _, _, _, HA⟩
  case rest =>
  obtain ⟨l1, M1, v1, u1, HA⟩ := hcut
  obtain ⟨ao1, cap1, hv1⟩ := one_len HA.out.rl.rowN
  obtain ⟨ao2, cap2, hu1⟩ := one_len HA.out.rl.rowS
  obtain ⟨n1, hn1⟩ : ∃ x, l1.ns.length = x := ⟨_, rfl⟩
  obtain ⟨n2, hn2⟩ : ∃ x, l1.ss.length = x := ⟨_, rfl⟩
  rw [hn1] at hv1
  rw [hn2] at hu1
  subst hv1
  subst hu1
  have hf1 : n1 < 90000 := by have := HA.out.few.1; omega
  have hf2 : n2 < 90000 := by have := HA.out.few.2; omega
  obtain ⟨g, j, rfl, hj, hjc, hcell, -⟩ := HA.out.rl.last HA.out.ne
  subst hj
  obtain ⟨T, hTe⟩ : ∃ x, l1.ss.getLastD 0 = x := ⟨_, rfl⟩
  have hTlt : T < 18446744073709551616 := by rw [← hTe]; exact HA.out.lt _ (last_mem HA.out.ne)
  rw [hTe] at hcell
  have hFL := frame_list T N d c l1 hTe
  have HFL := hid hFL
  have HN1 := hid hn1
  have HN2 := hid hn2
  have C1 : Hid (∀ wx, Below wc.heap.size wc wx → wx.cell? ⟨b, 1, none⟩ = some (.slice ao1 n1 cap1)) := hid (fun wx hx => (HA.out.rl.on hx).c1)
  have C2 : Hid (∀ wx, Below wc.heap.size wc wx → wx.cell? ⟨b, 2, none⟩ = some (.slice (some ⟨g, 0, none⟩) (j + 1) cap2)) := hid (fun wx hx => (HA.out.rl.on hx).c2)
  have hglt : g < wc.heap.size := by
    rcases Nat.lt_or_ge g wc.heap.size with h' | h'
    · exact h'
    · simp [World.cell?, Array.getElem?_eq_none h'] at hcell
  have C3 : Hid (∀ wx, Below wc.heap.size wc wx → wx.cell? ⟨g, j, none⟩ = some (.int .u64 (T : Nat))) := hid (fun wx hx => (hx.cell (p := ⟨g, j, none⟩) hglt).trans hcell)
  have HTL := hid hTlt
  have hjn : (j : Int) < ((j + 1 : Nat) : Int) := by omega
  have hjw := w_less (rfl : j + 1 = j + 1) (by omega)
  have hj0 : ¬ (j : Int) < 0 := by omega
  clear hcell hFL hn1 hn2 hTlt hTe HSZ HS HF HTT HM H c0
  obtain ⟨w9, hw9⟩ : ∃ x, x = wc := ⟨_, rfl⟩
  subst hw9
  go_upto_region 10 with fail
  have q1 := C1.out w9 (Below.refl _ _)
  have q2 := C2.out w9 (Below.refl _ _)
  have q3 := C3.out w9 (Below.refl _ _)
  have hblt := lt_of_block HA.out.rl.box
  go_region
  go_upto_if 63 with fail
  have hbq : Below w9.heap.size w9 (w9.alloc (.cells #[.int .i64 5, .int .i64 (N : Nat), .int .u64 (T : Nat), .string d] tSe)).drew := ((Below.refl _ w9).alloc (Nat.le_refl _) _).drew
  have hq : (w9.alloc (.cells #[.int .i64 5, .int .i64 (N : Nat), .int .u64 (T : Nat), .string d] tSe)).drew.heap[w9.heap.size]? = some (.cells #[.int .i64 5, .int .i64 (N : Nat), .int .u64 (T : Nat), .string d] tSe (0, 0)) := blk_new w9 _
  obtain ⟨wq, hwq⟩ : ∃ y, (w9.alloc (.cells #[.int .i64 5, .int .i64 (N : Nat), .int .u64 (T : Nat), .string d] tSe)).drew = y := ⟨_, rfl⟩
  rw [hwq] at hbq hq ⊢
  clear hwq q1 q2 q3
  go_cut [] from 64 to 64 (fun wx => Hid (Below w9.heap.size w9 wx) ∧ Hid (wx.heap[w9.heap.size]? = some (.cells #[.int .i64 ((if c then 6 else 5 : Nat) : Nat), .int .i64 (N : Nat), .int .u64 (T : Nat), .string d] tSe (0, 0))))
  case first =>
    cases c with
    | true =>
      have k0 := blk_cell hq 0
      have z0 := blk_free hq 0
      have hs := blk_set hq 0 (.int .i64 6)
      have HS2 : Hid ((wq.setCell ⟨w9.heap.size, 0, none⟩ (.int .i64 6)).heap[w9.heap.size]? = some (.cells #[.int .i64 6, .int .i64 (N : Nat), .int .u64 (T : Nat), .string d] tSe (0, 0))) := hid (by simpa using hs)
      have HB2 := hid (hbq.setCell (p := ⟨w9.heap.size, 0, none⟩) (Nat.le_refl _) (.int .i64 6))
      clear hs hq
      go_wp2_with fail
      go_meet
      exact ⟨HB2, HS2⟩
    | false =>
      have HS2 := hid hq
      have HB2 := hid hbq
      go_wp2_with fail
      go_meet
      exact ⟨HB2, HS2⟩
  case rest =>
  clear hq hbq wq
  obtain ⟨HBX, HQX⟩ := hcut
  have H1 := hid (HA.out.rl.on HBX.out)
  have hKlt := kind_lt c
  obtain ⟨K, hK⟩ : ∃ K : Nat, (if c then 6 else 5 : Nat) = K := ⟨_, rfl⟩
  rw [hK] at HQX HFL hKlt
  have p0 := blk_cell HQX.out 0
  have p1 := blk_cell HQX.out 1
  have p2 := blk_cell HQX.out 2
  have p3 := blk_cell HQX.out 3
  have HKL := hid hKlt
  clear hK hKlt
  go_wp2_with fail
  refine (rclose_yes K N T HKL.out (by omega) HTL.out d HD.out wc).mono ?_
  rintro e wd ⟨rfl, hbd⟩
  have H2 := hid (H1.out.on hbd)
  have hFs : (sealS K N T d).size = 256 := by rw [Seal.sealS_size, HD.out]
  have HSUM : Hid (∀ wx, Calls Tryz.prog 42 #[.string (sealS K N T d)] wx fun e w' => e = .returned (.int .u64 (sumL (frameL l1 N d.data.toList c) : Nat)) ∧ wx = w') := hid (fun wx => by
    have := rsum_any (sealS K N T d) wx
    rw [sum_is _ hFs, HFL.out] at this
    exact this)
  have HFX : Hid (X = frameM l1 N d.data.toList c M1) := hid HA.out.eq
  generalize sealS K N T d = F at *
  have HFM : Hid (F.size ≤ maxLen) := hid (by rw [hFs]; decide)
  have hwn := w_one (n := n1) (by omega)
  clear hbd hFs p0 p1 p2 p3 HKL HQX HBX C1 C2 C3
  go_upto_region 14 with fail
  refine Tail.wp_region_quiet_tail 11 (fun wx => Below wd.heap.size wd wx) (by kernel_rfl) (by kernel_rfl) (Below.refl _ wd).drew ?_
  simp only [List.take_succ_cons, List.take_zero, List.drop_succ_cons, List.drop_zero]
  go_big_quiet_want
  go_big_quiet_op
  go_big_quiet_on
  go_big_quiet_want
  go_big_quiet_op
  apply Exists.intro
  refine ⟨fun _ _ => ?_, ?_⟩
  · with_reducible exact Eq.refl _
  go_big_quiet_on
  go_big_quiet_want
  go_big_quiet_op
  apply Exists.intro
  refine ⟨fun _ _ => ?_, ?_⟩
  · with_reducible exact Eq.refl _
  go_big_quiet_on
  go_big_quiet_want
  go_big_quiet_op
  refine ⟨ptr r, fun wx hx => ?_, ?_⟩
  · have c := (H2.out.on hx).c0
    simp [go_sem, c]
  go_big_quiet_on
  go_big_quiet_want
  go_big_quiet_op
  go_big_quiet_on
  go_big_quiet_want
  go_big_quiet_op
  apply Exists.intro
  refine ⟨fun _ _ => ?_, ?_⟩
  · with_reducible exact Eq.refl _
  go_big_quiet_on
  go_big_quiet_want
  go_big_quiet_op
  apply Exists.intro
  refine ⟨fun _ _ => ?_, ?_⟩
  · with_reducible exact Eq.refl _
  go_big_quiet_on
  go_big_quiet_want
  go_big_quiet_op
  refine ⟨.slice ao1 n1 cap1, fun wx hx => ?_, ?_⟩
  · have c := (H2.out.on hx).c1
    simp [go_sem, c]
  go_big_quiet_on
  go_big_quiet_want
  go_big_quiet_op
  refine ⟨.int .i64 (n1 : Nat), fun wx hx => ?_, ?_⟩
  · simp [go_sem]
  go_big_quiet_on
  go_big_quiet_want
  go_big_quiet_op
  refine ⟨.int .i64 ((1 + n1 : Nat) : Nat), fun wx hx => ?_, ?_⟩
  · simp [go_sem]
  go_big_quiet_on
  go_big_quiet_want
  go_big_quiet_op
  go_big_quiet_on
  refine wpQuiet_nil ?_
  intro we hbe
  have H3 := hid (H2.out.on hbe)
  clear hbe
  go_wp2_with fail
  refine (H3.out.write_ (1 + n1) F HFM.out).mono ?_
  rintro e wf ⟨rfl, h4⟩
  rw [HFL.out] at h4 ⊢
  have HFX2 : Hid (X = ((M1.write ln (1 + n1 : Nat) (frameL l1 N d.data.toList c)).1, (if (M1.write ln (1 + n1 : Nat) (frameL l1 N d.data.toList c)).1 = 0 then ⟨l1.ns ++ [N], l1.ss ++ [sumL (frameL l1 N d.data.toList c)]⟩ else l1), (M1.write ln (1 + n1 : Nat) (frameL l1 N d.data.toList c)).2)) := hid (by rw [HFX.out, ← HN1.out]; rfl)
  have H4 := hid h4
  clear h4 HFX hwn
  generalize sumL (frameL l1 N d.data.toList c) = SF at *
  generalize M1.write ln ((1 + n1 : Nat) : Int) (frameL l1 N d.data.toList c) = Z at *
  by_cases hz : Z.1 = 0
  · have hz1 : (Z.1 != 0) = false := by simp [hz]
    have HX2 : Hid (X = (0, ⟨l1.ns ++ [N], l1.ss ++ [SF]⟩, Z.2)) := hid (by rw [HFX2.out, if_pos hz, hz])
    clear hz
    obtain ⟨ao3, cap3, wg, hr, d1, d2, d3, d4, h5⟩ := H4.out.pushN N (by rw [HN1.out]; omega)
    rw [HN1.out] at hr h5
    have e1 := H4.out.c1
    have e3 := lt_of_block H4.out.box
    have HR := hid hr
    have H5 := hid h5
    clear hr h5
    go_upto_region 18 with (at_builtin; refine wpList_append_run rfl (.tmp 89) (.tmp 91) tIs tIs rfl _ _ (by simp [Act.eval]) (by simp [Act.eval]) HR.out ?_)
    generalize wg.setCell ⟨b, 1, none⟩ (.slice ao3 (n1 + 1) cap3) = wh at *
    have H6 := hid (H5.out.on (Below.refl _ wh).drew)
    obtain ⟨ao4, cap4, wi, hr2, d5, d6, d7, d8, h7⟩ := H6.out.pushS SF (by show l1.ss.length < 100000; rw [HN2.out]; omega)
    have hn2 : l1.ss.length = j + 1 := HN2.out
    rw [hn2] at hr2 h7
    have K0 : Hid (wh.drew.cell? ⟨b, 2, none⟩ = some (.slice (some ⟨g, 0, none⟩) (j + 1) cap2)) := hid H6.out.c2
    have K1 : Hid (wi.cell? ⟨b, 2, none⟩ = some (.slice (some ⟨g, 0, none⟩) (j + 1) cap2)) := hid d5
    have K2 : Hid ((wh.alloc (.cells #[uV SF] tU)).drew.cell? ⟨b, 2, none⟩ = some (.slice (some ⟨g, 0, none⟩) (j + 1) cap2)) := hid (H5.out.on ((Below.refl _ wh).alloc (Nat.le_refl _) (.cells #[uV SF] tU)).drew).c2
    have HR2 := hid hr2
    have H7 := hid h7
    clear hr2 h7 hn2 HR d1 d2 d3 d4 e1 e3
    have e2 := H5.out.c2
    have e3 := lt_of_block H5.out.box
    go_region_law (first
        | (go_simp; go_at_call 42; refine (HSUM.out _).mono ?_; rintro e w5 ⟨rfl, rfl⟩)
        | (refine Mem.step_append_run (by rfl) (.tmp 99) (.tmp 102) tUs tUs (by rfl) _ _ (by simp [Act.eval]) (by simp [Act.eval]) HR2.out ?_))
    all_goals
      go_wp2
      go_ret
      rw [HX2.out]
      exact ⟨_, _, rfl, H7.out⟩
  · have hz1 : (Z.1 != 0) = true := by simp [hz]
    have HX2 : Hid (X = (Z.1, l1, Z.2)) := hid (by rw [HFX2.out, if_neg hz])
    clear hz
    go_wp2
    go_ret
    rw [HX2.out]
    exact ⟨_, _, rfl, H4.out⟩
end Lr
end Go.Proofs.YtgmbiiocjhkpdaaGreat
