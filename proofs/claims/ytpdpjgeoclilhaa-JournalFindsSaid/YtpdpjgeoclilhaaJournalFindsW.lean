/-
  The walk of JournalFinds: what was noted and sealed is found.
-/
import Derived.Test.YtpdpjgeoclilhaaJouFdW
namespace Go.Proofs.Ytpdpjgeoclilhaa
open Go.RowKit Go.Shelf
namespace Jo
open Num (hid)
open Disk (Mod Fil Plc Sees Stays Ctl bytes_sees)
open Mem (Bs bs tS Chg LAt ptr blk_cell blk_free blk_new blk_set blk_other blk_alloc row_kept row_shape row_type wpList_append_run)
attribute [local go_sem] Oper.semAt_some

theorem bytes_jn {O : Nat → Prop} {d m : Nat} {M : Mod} {w : World} (h : Sees O d m M w) : Calls Try.prog 11 #[ptr d, .string jS] w fun e w' => e = .returned (.string (bs (M.bytes jn))) ∧ Below w.heap.size w w' := bytes_sees h jS (by decide)
theorem new_neg : (Mod.new 16384).size jn < 0 := by decide +kernel
theorem page_len (f : UInt8) : (bs (pgL f)).data.toList.length = 232 := pgL_len f
/-- In the course of the notes. -/
structure FdL (w0 : World) (d m j b P c : Nat) (M : Mod) (J : Jou) (l : List Rec) (q ft : Nat) (v : Value) (wr : World) : Prop where
  mem : FdV w0 d m j b P M J l v wr
  fd : FdI P c M J l q
  ft : 0 < ft ↔ 0 < J.feet
set_option maxRecDepth 100000 in
set_option maxHeartbeats 4000000 in
theorem finds_walk (a0 : Int) (v1 : Value) (l1 : List ChC) (w : World) (hL : LAt 3 chV w v1 l1) :
    Calls Try.prog 3 #[.int .i64 a0, v1] w fun e w' => e = .returned (.bool true) ∧ Below w.heap.size w w' := by
  have hr0 : wrap64 ((IntKind.u64.wrap a0).tmod 30) = _ := remN_is a0 30 (by decide)
  have hl0 := remN_lt a0 30 (by decide)
  generalize remN a0 30 = p at *
  obtain ⟨P, hPe⟩ : ∃ P : Nat, 1 + p = P := ⟨_, rfl⟩
  have hPi : 1 + (p : Int) = (P : Int) := by omega
  obtain ⟨ao, cap, rfl, hlm, hlc, hLj⟩ := hL.ways
  have HL := hid hLj
  clear hL hLj
  go_enter Try.func3, Try.ntmps3
  go_wp2_with fail
  refine (awake_any w).mono ?_
  rintro e w1 ⟨rfl, hb1⟩
  have HB1 := hid hb1
  clear hb1
  go_wp2_with fail
  refine (new_sees w1).mono ?_
  rintro e w2 ⟨d, m, rfl, h2, hb2⟩
  have H2 : Hid (Sees (Bl w.heap.size) d m (Mod.new 16384) w2) := hid (h2.fewer (fun k hk => Nat.lt_of_lt_of_le hk HB1.out.size))
  have HB2 : Hid (Below w.heap.size w w2) := hid (HB1.out.trans (hb2.mono HB1.out.size))
  clear h2 hb2 HB1
  go_wp2_with fail
  refine (start_any (P := P) (salt := 5) H2.out (by omega) new_neg).mono ?_
  rintro e w3 ⟨j, b, rfl, hjs, hb3, _, _⟩
  have H3 : Hid (FdL w d m j b P 0 (Mod.new 16384) j0 [] 0 0 (.slice (some ⟨w3.heap.size, 0, none⟩) 0 0) (w3.alloc (.cells #[] tPg))) := hid ⟨fdv_start hjs (HB2.out.trans (hb3.mono HB2.out.size)), fd_start P, Iff.rfl⟩
  clear hjs hb3 H2 HB2
  go_wp2_with fail
  go_loopw [8, 9, 10, 11] (fun av sv fv iv wr => ∃ (k : Nat) (M : Mod) (J : Jou) (l : List Rec) (q ft : Nat) (ao2 : Option Addr) (cap2 : Nat), k ≤ 40 ∧ ft ≤ k ∧ av = .slice ao2 l.length cap2 ∧ sv = .int .i64 q ∧ fv = .int .i64 ft ∧ iv = .int .i64 k ∧ Hid (FdL w d m j b P (2 * k) M J l q ft (.slice ao2 l.length cap2) wr)) (fun _ _ _ iv _ => 40 - (intOf iv).toNat)
  case atStart => exact ⟨0, _, _, [], 0, 0, _, _, by decide, by decide, rfl, rfl, rfl, rfl, H3⟩
  case round =>
    obtain ⟨k, M, J, l, q, ft, ao2, cap2, hk, hft, rfl, rfl, rfl, rfl, HI⟩ := hrel
    by_cases hgo : (k : Int) < (l1.length : Int) ∧ (k : Int) < 40
    · obtain ⟨hlt, h40⟩ := hgo
      have hkl : k < l1.length := by omega
      obtain ⟨gb, o, rfl, hbs, hc⟩ := HL.out k hkl
      have hkc : (k : Int) < (cap : Int) := by omega
      have cell : ∀ wr, Below w.heap.size w wr → ∀ i, i < 3 → wr.cell? ⟨gb, o + k * 3 + i, none⟩ = (chV l1[k])[i]? := fun wr hb i hi => (hb.cell (p := ⟨gb, o + k * 3 + i, none⟩) hbs).trans (hc i hi)
      generalize l1[k] = x at *
      have HCELL := hid cell
      have c0 := cell _ HI.out.mem.below 0 (by decide)
      simp only [chV, Nat.add_zero, List.getElem?_cons_zero] at c0
      have hrem : wrap64 ((IntKind.u64.wrap x.n).tmod (P : Int)) = _ := remN_is x.n P (by omega)
      have hnl := remN_lt x.n P (by omega)
      generalize remN x.n P = n at *
      have hP0 : ¬ (P : Int) = 0 := by omega
      clear cell hc hbs
      by_cases hin : n ∈ J.noted
      · go_wp2_with fail
        refine (has_any HI.out.mem.js n (by omega)).mono ?_
        rintro e w4 ⟨rfl, hb4⟩
        rw [decide_eq_true hin]
        have H4 : Hid (FdL w d m j b P (2 * k) M J l q ft _ w4) := hid ⟨HI.out.mem.on hb4, HI.out.fd, HI.out.ft⟩
        have c1 := HCELL.out _ H4.out.mem.below 1 (by decide)
        simp only [chV, List.getElem?_cons_succ, List.getElem?_cons_zero] at c1
        clear hb4 c0
        go_wp2_with fail
        refine (page13_any x.f w4).mono ?_
        rintro e w5 ⟨rfl, hb5⟩
        have H5 : Hid (FdL w d m j b P (2 * k) M J l q ft _ w5) := hid ⟨H4.out.mem.on hb5, H4.out.fd, H4.out.ft⟩
        clear hb5 c1
        go_wp2_with fail
        refine (note_any H5.out.mem.js (by omega) (by decide) (by have := H5.out.fd.ll; omega) (by have := H5.out.fd.nl; omega) n (by omega) (bs (pgL x.f)) (pgS_size x.f)).mono ?_
        rintro e w6 ⟨rfl, h6, hs6⟩
        obtain ⟨z1, z2, z3, z4⟩ := FdI.note H5.out.fd (by omega) (by omega) (n := n) (by omega) (d := (bs (pgL x.f)).data.toList) (page_len x.f)
        have H6 : Hid (FdV w d m j b P _ _ l _ w6) := hid (H5.out.mem.to h6 hs6)
        rw [z1]
        rw [if_pos hin] at z4
        have HF6 : Hid (0 < ft ↔ 0 < (noteM 5 J n (bs (pgL x.f)).data.toList M).2.1.feet) := hid (by rw [z3]; exact H5.out.ft)
        have HZ := hid z2
        have HZ4 := hid z4
        clear h6 hs6 z1 z2 z3 z4
        generalize noteM 5 J n (bs (pgL x.f)).data.toList M = V at *
        obtain ⟨J2, M2, hJM⟩ : ∃ J2 M2, V.2 = (J2, M2) := ⟨_, _, rfl⟩
        rw [hJM] at H6 HF6 HZ HZ4
        clear hJM
        dsimp only at H6 HF6 HZ HZ4
        go_wp2_with fail
        refine (has_any H6.out.js n (by omega)).mono ?_
        rintro e w7 ⟨rfl, hb7⟩
        rw [decide_eq_true HZ.out]
        have H7 : Hid (FdV w d m j b P M2 J2 l _ w7) := hid (H6.out.on hb7)
        clear hb7
        have H7L : Hid (FdL w d m j b P (2 * k + 1) M2 J2 l q ft _ w7) := hid ⟨H7.out, HZ4.out, HF6.out⟩
        have c2 := HCELL.out _ H7L.out.mem.below 2 (by decide)
        simp only [chV, List.getElem?_cons_succ, List.getElem?_cons_zero] at c2
        generalize x.s = xs at *
        cases xs
        · go_wp2
          go_roundw
          case rel => exact ⟨k + 1, _, _, l, q, ft, _, _, by omega, by omega, rfl, rfl, rfl, by go_num, hid ⟨H7L.out.mem, H7L.out.fd.more (by omega), H7L.out.ft⟩⟩
          case measure => simp [intOf]; omega
        · go_wp2_with fail
          refine (seal_any H7L.out.mem.js (by have a := H7L.out.fd.ll; have c := H7L.out.fd.fl; exact ⟨by omega, by decide, by omega, by omega⟩)).mono ?_
          rintro e w8 ⟨rfl, h8, hs8⟩
          obtain ⟨z1, z2, z3⟩ := FdI.sealing H7L.out.fd (by omega) (by omega)
          have H8 : Hid (FdV w d m j b P _ _ l _ w8) := hid (H7L.out.mem.to h8 hs8)
          have H9 := hid z3
          have HZ := hid z2
          rw [z1]
          clear h8 hs8 z1 z2 z3
          go_wp2
          go_roundw
          case rel => exact ⟨k + 1, _, _, l, (l).length, ft + 1, _, _, by omega, by omega, rfl, rfl, by go_num, by go_num, hid ⟨H8.out, H9.out.more (by omega), ⟨fun _ => HZ.out, fun _ => Nat.succ_pos _⟩⟩⟩
          case measure => simp [intOf]; omega
      · go_wp2_with fail
        refine (has_any HI.out.mem.js n (by omega)).mono ?_
        rintro e w4 ⟨rfl, hb4⟩
        rw [decide_eq_false hin]
        have H4 : Hid (FdL w d m j b P (2 * k) M J l q ft _ w4) := hid ⟨HI.out.mem.on hb4, HI.out.fd, HI.out.ft⟩
        have c1 := HCELL.out _ H4.out.mem.below 1 (by decide)
        simp only [chV, List.getElem?_cons_succ, List.getElem?_cons_zero] at c1
        clear hb4 c0
        go_wp2_with fail
        refine (page13_any x.f w4).mono ?_
        rintro e w5 ⟨rfl, hb5⟩
        have H5 : Hid (FdL w d m j b P (2 * k) M J l q ft _ w5) := hid ⟨H4.out.mem.on hb5, H4.out.fd, H4.out.ft⟩
        clear hb5 c1
        go_wp2_with fail
        refine (note_any H5.out.mem.js (by omega) (by decide) (by have := H5.out.fd.ll; omega) (by have := H5.out.fd.nl; omega) n (by omega) (bs (pgL x.f)) (pgS_size x.f)).mono ?_
        rintro e w6 ⟨rfl, h6, hs6⟩
        obtain ⟨z1, z2, z3, z4⟩ := FdI.note H5.out.fd (by omega) (by omega) (n := n) (by omega) (d := (bs (pgL x.f)).data.toList) (page_len x.f)
        have H6 : Hid (FdV w d m j b P _ _ l _ w6) := hid (H5.out.mem.to h6 hs6)
        rw [z1]
        rw [if_neg hin] at z4
        have HF6 : Hid (0 < ft ↔ 0 < (noteM 5 J n (bs (pgL x.f)).data.toList M).2.1.feet) := hid (by rw [z3]; exact H5.out.ft)
        have HZ := hid z2
        have HZ4 := hid z4
        clear h6 hs6 z1 z2 z3 z4
        generalize noteM 5 J n (bs (pgL x.f)).data.toList M = V at *
        obtain ⟨J2, M2, hJM⟩ : ∃ J2 M2, V.2 = (J2, M2) := ⟨_, _, rfl⟩
        rw [hJM] at H6 HF6 HZ HZ4
        clear hJM
        dsimp only at H6 HF6 HZ HZ4
        go_wp2_with fail
        refine (has_any H6.out.js n (by omega)).mono ?_
        rintro e w7 ⟨rfl, hb7⟩
        rw [decide_eq_true HZ.out]
        have H7 : Hid (FdV w d m j b P M2 J2 l _ w7) := hid (H6.out.on hb7)
        clear hb7
        have c1 := HCELL.out _ H7.out.below 1 (by decide)
        simp only [chV, List.getElem?_cons_succ, List.getElem?_cons_zero] at c1
        go_wp2_with fail
        refine (page13_any x.f w7).mono ?_
        rintro e w71 ⟨rfl, hb71⟩
        have H71 : Hid (FdV w d m j b P M2 J2 l _ w71) := hid (H7.out.on hb71)
        clear hb71 c1
        obtain ⟨v', w72, hr, ho, hc, hk72⟩ := push_pg H71.out.row (n, pgL x.f) (by have := H4.out.fd.len; have := H4.out.fd.nl; omega)
        obtain ⟨l', hl'⟩ : ∃ l', l ++ [(n, pgL x.f)] = l' := ⟨_, rfl⟩
        have H72 := hid (H71.out.push ho hc hk72)
        have e231 : (bs (pgL x.f)).data.toList = pgL x.f := rfl
        rw [e231, hl'] at HZ4
        rw [hl'] at ho H72
        obtain ⟨ao3, cap3, hv', -⟩ := row_shape ho
        rw [hv'] at hr H72
        clear ho hc hk72 hv'
        have HR := hid hr
        clear hr
        have H7L : Hid (FdL w d m j b P (2 * k + 1) M2 J2 l' q ft _ w72) := hid ⟨H72.out, HZ4.out, HF6.out⟩
        have c2 := HCELL.out _ H7L.out.mem.below 2 (by decide)
        simp only [chV, List.getElem?_cons_succ, List.getElem?_cons_zero] at c2
        generalize x.s = xs at *
        cases xs
        · go_wp2_with (at_builtin; refine wpList_append_run rfl (.tmp 76) (.tmp 85) tPgs tPgs rfl _ _ (by simp [Act.eval]) (by simp [Act.eval]) HR.out ?_)
          go_roundw
          case rel => exact ⟨k + 1, _, _, l', q, ft, _, _, by omega, by omega, rfl, rfl, rfl, by go_num, hid ⟨H7L.out.mem, H7L.out.fd.more (by omega), H7L.out.ft⟩⟩
          case measure => simp [intOf]; omega
        · go_wp2_with (at_builtin; refine wpList_append_run rfl (.tmp 76) (.tmp 85) tPgs tPgs rfl _ _ (by simp [Act.eval]) (by simp [Act.eval]) HR.out ?_)
          refine (seal_any H7L.out.mem.js (by have a := H7L.out.fd.ll; have c := H7L.out.fd.fl; exact ⟨by omega, by decide, by omega, by omega⟩)).mono ?_
          rintro e w8 ⟨rfl, h8, hs8⟩
          obtain ⟨z1, z2, z3⟩ := FdI.sealing H7L.out.fd (by omega) (by omega)
          have H8 : Hid (FdV w d m j b P _ _ l' _ w8) := hid (H7L.out.mem.to h8 hs8)
          have H9 := hid z3
          have HZ := hid z2
          rw [z1]
          clear h8 hs8 z1 z2 z3
          go_wp2
          go_roundw
          case rel => exact ⟨k + 1, _, _, l', (l').length, ft + 1, _, _, by omega, by omega, rfl, rfl, by go_num, by go_num, hid ⟨H8.out, H9.out.more (by omega), ⟨fun _ => HZ.out, fun _ => Nat.succ_pos _⟩⟩⟩
          case measure => simp [intOf]; omega
    · have HB : Hid (M.size jn ≤ M.size jn) := hid (Int.le_refl _)
      have hlen := HI.out.fd.len
      have hnl := HI.out.fd.nl
      obtain ⟨f1, f2, f3, f4, f5, f6⟩ := HI.out.fd.find
      by_cases hlt : (k : Int) < (l1.length : Int)
      · have h40 : ¬ (k : Int) < 40 := fun h => hgo ⟨hlt, h⟩
        clear hgo
        go_wp2_with fail
        refine (bytes_jn HI.out.mem.js.disk).mono ?_
        rintro e w4 ⟨rfl, hb4⟩
        have H4 : Hid (FdL w d m j b P (2 * k) M J l q ft (.slice ao2 l.length cap2) w4) := hid ⟨HI.out.mem.on hb4, HI.out.fd, HI.out.ft⟩
        clear hb4
        go_wp2_with fail
        refine (find_any H4.out.mem.js.disk).mono ?_
        rintro e w5 ⟨v5, rfl, hrow5, hs5, hst5, hv5⟩
        have H5 : Hid (FdV w d m j b P (findM M).2.2 J l (.slice ao2 l.length cap2) w5) := hid (H4.out.mem.to (H4.out.mem.js.over (hs5.fewer (fun _ hk => Or.inl hk)) hst5) (fewer hst5 (fun _ hk => Or.inl hk)))
        have HBY : Hid ((findM M).2.2.bytes jn = M.bytes jn) := hid (fs_bytes f2 jn)
        clear hs5 hst5 hv5
        generalize findM M = X at *
        obtain ⟨ao5, cap5, hv5, -⟩ := row_shape hrow5
        by_cases hj : 0 < J.feet
        · have hfn : X.2.1.feet ≠ 0 := by omega
          have a1 : ansN X = true := decide_eq_true ⟨f1, hfn⟩
          have a2 : ansP X = P := by unfold ansP; rw [a1]; exact f6 hj
          have a3 : ansL X = l.take q := by unfold ansL countF; rw [a1, f4, f5]; rfl
          have hft0 : (ft : Int) > 0 := by have := HI.out.ft.2 hj; omega
          obtain ⟨-, hqc, hrq⟩ := row_cut H5.out.row hlen.2
          have hsl := slice_to ao2 l.length cap2 q hqc
          have hl5 : (ansL X).length = q := by rw [a3, List.length_take]; omega
          have P1 : PgR w5 v5 (l.take q) := pgr_of (by rw [← a3]; exact hrow5)
          have P2 : PgR w5 (.slice ao2 q cap2) (l.take q) := pgr_of hrq
          rw [hl5] at hv5
          subst hv5
          have HP1 := hid P1
          have HP2 := hid P2
          have hlt5 : (l.take q).length ≤ 100000 := by rw [List.length_take]; omega
          rw [a1, a2, f1]
          clear P1 P2 hrow5 hrq f2 f3 f4 f5 f6 a1 a2 a3 hl5 hfn
          go_wp2_with fail
          refine (bytes_jn H5.out.js.disk).mono ?_
          rintro e w6 ⟨rfl, hb6⟩
          have HB6 := hid hb6
          rw [HBY.out]
          clear hb6
          go_wp2_with fail
          refine (same13_any hlt5 (HP1.out.on HB6.out) (HP2.out.on HB6.out)).mono ?_
          rintro e w7 ⟨rfl, hb7⟩
          have HB7 : Hid (Below w.heap.size w w7) := hid ((H5.out.below.trans (HB6.out.mono H5.out.below.size)).trans (hb7.mono (Nat.le_trans H5.out.below.size HB6.out.size)))
          clear hb7
          go_wp2
          go_ret
          exact ⟨rfl, HB7.out⟩
        · have hfn : X.2.1.feet = 0 := by omega
          have a1 : ansN X = false := decide_eq_false (fun ⟨_, h⟩ => h hfn)
          have a2 : ansP X = 0 := by unfold ansP; rw [a1]; rfl
          have a3 : ansL X = [] := by unfold ansL; rw [a1]; rfl
          have hft0 : ¬ (ft : Int) > 0 := by intro h; exact hj (HI.out.ft.1 (by omega))
          rw [a3] at hv5
          subst hv5
          rw [a1, a2, f1]
          clear hrow5 f2 f3 f4 f5 f6 a1 a2 a3 hfn
          go_wp2_with fail
          refine (bytes_jn H5.out.js.disk).mono ?_
          rintro e w6 ⟨rfl, hb6⟩
          have HB6 : Hid (Below w.heap.size w w6) := hid (H5.out.below.trans (hb6.mono H5.out.below.size))
          rw [HBY.out]
          clear hb6
          go_wp2
          go_ret
          exact ⟨rfl, HB6.out⟩
      · clear hgo
        go_wp2_with fail
        refine (bytes_jn HI.out.mem.js.disk).mono ?_
        rintro e w4 ⟨rfl, hb4⟩
        have H4 : Hid (FdL w d m j b P (2 * k) M J l q ft (.slice ao2 l.length cap2) w4) := hid ⟨HI.out.mem.on hb4, HI.out.fd, HI.out.ft⟩
        clear hb4
        go_wp2_with fail
        refine (find_any H4.out.mem.js.disk).mono ?_
        rintro e w5 ⟨v5, rfl, hrow5, hs5, hst5, hv5⟩
        have H5 : Hid (FdV w d m j b P (findM M).2.2 J l (.slice ao2 l.length cap2) w5) := hid (H4.out.mem.to (H4.out.mem.js.over (hs5.fewer (fun _ hk => Or.inl hk)) hst5) (fewer hst5 (fun _ hk => Or.inl hk)))
        have HBY : Hid ((findM M).2.2.bytes jn = M.bytes jn) := hid (fs_bytes f2 jn)
        clear hs5 hst5 hv5
        generalize findM M = X at *
        obtain ⟨ao5, cap5, hv5, -⟩ := row_shape hrow5
        by_cases hj : 0 < J.feet
        · have hfn : X.2.1.feet ≠ 0 := by omega
          have a1 : ansN X = true := decide_eq_true ⟨f1, hfn⟩
          have a2 : ansP X = P := by unfold ansP; rw [a1]; exact f6 hj
          have a3 : ansL X = l.take q := by unfold ansL countF; rw [a1, f4, f5]; rfl
          have hft0 : (ft : Int) > 0 := by have := HI.out.ft.2 hj; omega
          obtain ⟨-, hqc, hrq⟩ := row_cut H5.out.row hlen.2
          have hsl := slice_to ao2 l.length cap2 q hqc
          have hl5 : (ansL X).length = q := by rw [a3, List.length_take]; omega
          have P1 : PgR w5 v5 (l.take q) := pgr_of (by rw [← a3]; exact hrow5)
          have P2 : PgR w5 (.slice ao2 q cap2) (l.take q) := pgr_of hrq
          rw [hl5] at hv5
          subst hv5
          have HP1 := hid P1
          have HP2 := hid P2
          have hlt5 : (l.take q).length ≤ 100000 := by rw [List.length_take]; omega
          rw [a1, a2, f1]
          clear P1 P2 hrow5 hrq f2 f3 f4 f5 f6 a1 a2 a3 hl5 hfn
          go_wp2_with fail
          refine (bytes_jn H5.out.js.disk).mono ?_
          rintro e w6 ⟨rfl, hb6⟩
          have HB6 := hid hb6
          rw [HBY.out]
          clear hb6
          go_wp2_with fail
          refine (same13_any hlt5 (HP1.out.on HB6.out) (HP2.out.on HB6.out)).mono ?_
          rintro e w7 ⟨rfl, hb7⟩
          have HB7 : Hid (Below w.heap.size w w7) := hid ((H5.out.below.trans (HB6.out.mono H5.out.below.size)).trans (hb7.mono (Nat.le_trans H5.out.below.size HB6.out.size)))
          clear hb7
          go_wp2
          go_ret
          exact ⟨rfl, HB7.out⟩
        · have hfn : X.2.1.feet = 0 := by omega
          have a1 : ansN X = false := decide_eq_false (fun ⟨_, h⟩ => h hfn)
          have a2 : ansP X = 0 := by unfold ansP; rw [a1]; rfl
          have a3 : ansL X = [] := by unfold ansL; rw [a1]; rfl
          have hft0 : ¬ (ft : Int) > 0 := by intro h; exact hj (HI.out.ft.1 (by omega))
          rw [a3] at hv5
          subst hv5
          rw [a1, a2, f1]
          clear hrow5 f2 f3 f4 f5 f6 a1 a2 a3 hfn
          go_wp2_with fail
          refine (bytes_jn H5.out.js.disk).mono ?_
          rintro e w6 ⟨rfl, hb6⟩
          have HB6 : Hid (Below w.heap.size w w6) := hid (H5.out.below.trans (hb6.mono H5.out.below.size))
          rw [HBY.out]
          clear hb6
          go_wp2
          go_ret
          exact ⟨rfl, HB6.out⟩
end Jo
end Go.Proofs.Ytpdpjgeoclilhaa
