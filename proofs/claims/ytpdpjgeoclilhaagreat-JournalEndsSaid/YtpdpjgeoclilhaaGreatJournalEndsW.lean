/-
  The walk of JournalEnds: when the journal has ended, the change stays.
-/
import Derived.Test.YtpdpjgeoclilhaaGreatJournalFailsW
namespace Go.Proofs.YtpdpjgeoclilhaaGreat
open Go.RowKit Go.Shelf
namespace Jo
open Num (hid)
open Disk (Mod Fil Plc Sees Stays Ctl arm_sees off_sees on_sees bytes_sees)
open Mem (Bs bs LAt ptr)

theorem left_nil {C : List Disk.Sec} (h : Left [] C) : C = [] := by cases h; rfl
/-- What is safe wakes as it is. -/
theorem woken_sync (F : Fil) (l : List Int) (k : Nat) : wk l k (some F.sync) = some (F.sync.woken l k) ∧ (F.sync.woken l k).bytes = F.sync.bytes := by
  have hl : F.sync.lives l k = true := by unfold Disk.Fil.lives; rfl
  have hps : F.sync.ps = (nows (some F)).map settled ++ ([] : List (List UInt8)).map fresh := by
    have := sync_ps (some F)
    rw [List.map_nil, List.append_nil]
    unfold nows
    rw [List.map_map]
    exact this
  obtain ⟨C, hC, e⟩ := woken_left hps l k
  rw [left_nil hC, List.append_nil] at e
  refine ⟨by unfold wk; exact if_pos hl, ?_⟩
  unfold Disk.Fil.bytes
  rw [e, hps, List.map_nil, List.append_nil]
theorem back_none {M : Mod} {D : Option Fil} (h : M.fs = dir2 D none) : backM M = (0, M) := by
  have hs := size_j h
  have e1 : findM M = (0, f0, M) := by
    unfold findM
    rw [hs]
    rfl
  have e2 : dropM M = (0, M) := by
    unfold dropM
    rw [hs]
    exact if_pos (by decide)
  unfold backM
  rw [e1, e2]
  rfl
/-- Behind the change: the sync, the end. -/
theorem ends_plain {P : Nat} (hP : 1 ≤ P) {M0 M1 : Mod} {er : Int} (h0 : LaidM P M0) (h1 : EndP P M0 er M1) :
    er = 0 ∧ (M1.sync dn).1 = 0 ∧ ∃ F J, (M1.sync dn).2.fs = dir2 (some (Fil.sync F)) J ∧ Calm (M1.sync dn).2.c := by
  obtain ⟨D, J, hf, hc, hk, hq⟩ := h1
  obtain ⟨e0, c0⟩ := hq h0.1 h0.2.2.1
  obtain ⟨A, B, _, hg⟩ := hc
  have hd := (hg 0 (Nat.zero_le _)).dat
  cases D with
  | none => exact absurd (show P = 0 from hd) (by omega)
  | some F =>
    obtain ⟨hdo, hcalm⟩ := does_sync_d hf
    obtain ⟨e1, c1, _⟩ := hcalm c0 (by simp)
    rcases hdo with ⟨e, _, _⟩ | ⟨_, e3⟩
    · exact absurd e1 e
    · exact ⟨e0, e1, F, J, e3, c1⟩
theorem drop_plain {M : Mod} {D J : Option Fil} (h : M.fs = dir2 D J) (hc : Calm M.c) (hs : 0 ≤ M.size jn) : (M.drop jn).1 = 0 ∧ (M.drop jn).2.fs = dir2 D none := by
  obtain ⟨hdo, hcalm⟩ := does_drop_j h
  have hJ : J ≠ none := fun e => by rw [size_j h, e] at hs; exact absurd hs (by decide)
  obtain ⟨e1, _, _⟩ := hcalm hc hJ
  rcases hdo with ⟨e, _, _⟩ | ⟨_, e3⟩
  · exact absurd e1 e
  · exact ⟨e1, e3⟩
theorem gone_plain {M : Mod} {D J : Option Fil} (h : M.fs = dir2 D J) (hs : M.size jn < 0) : M.fs = dir2 D none := by
  rw [size_j h] at hs
  cases J with
  | none => exact h
  | some F => exact absurd hs (by show ¬ (F.ps.length : Int) < 0; omega)
/-- Behind the power's loss. -/
theorem ended_plain {M : Mod} {F : Fil} (h : M.fs = dir2 (some F.sync) none) (l : List Int) : (backM (M.off.on l)).1 = 0 ∧ (backM (M.off.on l)).2.bytes dn = F.sync.bytes := by
  obtain ⟨_, _, k, k', e⟩ := off_on M l h
  obtain ⟨e1, e2⟩ := woken_sync F l k
  have e3 : (M.off.on l).fs = dir2 (some (F.sync.woken l k)) none := by rw [e, e1]; rfl
  rw [back_none e3]
  refine ⟨rfl, ?_⟩
  unfold Disk.Mod.bytes
  rw [e3, get_d]
  exact e2
theorem bytes_d {M : Mod} {F : Fil} {J : Option Fil} (h : M.fs = dir2 (some F) J) : M.bytes dn = F.bytes := by
  unfold Disk.Mod.bytes
  rw [h, get_d]
theorem bytes_dn {O : Nat → Prop} {d m : Nat} {M : Mod} {w : World} (h : Sees O d m M w) : Calls Tryz.prog 19 #[ptr d, .string dS] w fun e w' => e = .returned (.string (bs (M.bytes dn))) ∧ Below w.heap.size w w' := bytes_sees h dS (by decide)
/-- Fates that came in. -/
abbrev iV (x : Int) : List Value := [.int .i64 x]
theorem ints_at {w0 w : World} {v : Value} {l : List Int} (h : LAt 1 iV w0 v l) (hb : Below w0.heap.size w0 w) : Disk.IntsAt w v l ∧ l.length ≤ maxLen ∧ ∀ b o n cap, v = .slice (some ⟨b, o, none⟩) n cap → n ≠ 0 → b < w0.heap.size := by
  obtain ⟨h1, h2⟩ := h
  rcases h1 with ⟨ao, cap, rfl, rfl⟩ | ⟨b, o, cap, rfl, hc, hlt, hj⟩
  · exact ⟨Or.inl ⟨ao, cap, rfl, rfl⟩, h2, fun b o n cap e hn => by cases e; exact absurd rfl hn⟩
  · refine ⟨Or.inr ⟨b, o, cap, rfl, Nat.lt_of_lt_of_le hlt hb.size, fun j h => ?_⟩, h2, fun b' o' n cap' e hn => by cases e; exact hlt⟩
    have := hj j h 0 (by decide)
    rw [Nat.mul_one, Nat.add_zero] at this
    exact (hb.cell (p := ⟨b, o + j, none⟩) hlt).trans this
theorem on_fates {w0 w : World} {d m : Nat} {M : Mod} {v : Value} {l : List Int} (h : Dk w0 d m M w) (hL : LAt 1 iV w0 v l) :
    Calls Tryz.prog 27 #[ptr d, v] w fun e w' => e = .returned (.tuple #[]) ∧ Dk w0 d m (M.on l) w' := by
  obtain ⟨h1, h2, h3⟩ := ints_at hL h.below
  refine (on_sees h.sees v l h1 h2 h3).mono ?_
  rintro e w' ⟨rfl, a, b⟩
  exact ⟨rfl, h.to a b⟩
set_option maxRecDepth 100000 in
set_option maxHeartbeats 4000000 in
theorem ends_walk (a0 : Int) (v1 : Value) (l1 : List ChC) (v2 : Value) (l2 : List Int) (w : World) (hL : LAt 3 chV w v1 l1) (hL2 : LAt 1 iV w v2 l2) :
    Calls Tryz.prog 6 #[.int .i64 a0, v1, v2] w fun e w' => e = .returned (.bool true) ∧ Below w.heap.size w w' := by
  have hr0 : wrap64 ((IntKind.u64.wrap a0).tmod 8) = _ := remN_is a0 8 (by decide)
  have hl0 := remN_lt a0 8 (by decide)
  generalize remN a0 8 = p at *
  obtain ⟨P, hPe⟩ : ∃ P : Nat, 1 + p = P := ⟨_, rfl⟩
  have hPi : 1 + (p : Int) = (P : Int) := by omega
  obtain ⟨ao, cap, rfl, -⟩ := hL.ways
  obtain ⟨ao2, cap2, hv2, -⟩ := hL2.ways
  subst hv2
  have HL := hid hL
  have HL2 := hid hL2
  clear hL hL2
  go_enter Tryz.func6, Tryz.ntmps6
  go_wp2_with fail
  refine (awake_any w).mono ?_
  rintro e w1 ⟨rfl, hb1⟩
  have HB1 := hid hb1
  clear hb1
  go_wp2_with fail
  try rw [hPi]
  refine (laid_any P (by omega) w1).mono ?_
  rintro e w2 ⟨d, m, M0, rfl, h2, hb2, hM0⟩
  have H2 : Hid (Dk w d m M0 w2) := hid ⟨h2.fewer (fun k hk => Nat.lt_of_lt_of_le hk HB1.out.size), HB1.out.trans (hb2.mono HB1.out.size)⟩
  have HM0 := hid hM0
  clear h2 hb2 hM0
  go_wp2_with fail
  refine (changed_laid H2.out HM0.out rfl (by omega) HL.out).mono ?_
  rintro e w4 ⟨er, M1, rfl, h4, hE⟩
  have H4 := hid h4
  obtain ⟨rfl, es, F, J, hfs, hcm⟩ := ends_plain (by omega) HM0.out hE
  have HFS := hid hfs
  have HCM := hid hcm
  clear h4 hE HM0 hfs hcm
  go_wp2_with fail
  refine (sync_dn H4.out.sees).mono ?_
  rintro e w5 ⟨rfl, h5, hs5⟩
  have H5 := hid (H4.out.to h5 hs5)
  rw [es]
  clear h5 hs5 es
  generalize (M1.sync dn).2 = M2 at *
  go_wp2_with fail
  refine (bytes_dn H5.out.sees).mono ?_
  rintro e w6 ⟨rfl, hb6⟩
  have H6 := hid (H5.out.on hb6)
  rw [bytes_d HFS.out]
  clear hb6
  go_wp2_with fail
  refine (size_jn H6.out.sees).mono ?_
  rintro e w7 ⟨rfl, rfl⟩
  by_cases hs : 0 ≤ M2.size jn
  · obtain ⟨e1, e2⟩ := drop_plain HFS.out HCM.out hs
    have HE2 := hid e2
    have HS := hid hs
    generalize M2.size jn = sz at *
    go_wp2_with fail
    refine (drop_jn H6.out.sees).mono ?_
    rintro e w8 ⟨rfl, h8, hs8⟩
    have H8 := hid (H6.out.to h8 hs8)
    rw [e1]
    clear h8 hs8 e1 e2
    generalize (M2.drop jn).2 = M3 at *
    go_wp2_with fail
    refine (off_sees H8.out.sees).mono ?_
    rintro e w9 ⟨rfl, h9, hs9⟩
    have H9 := hid (H8.out.to h9 hs9)
    clear h9 hs9
    go_wp2_with fail
    refine (on_fates H9.out HL2.out).mono ?_
    rintro e w10 ⟨rfl, h10⟩
    have H10 := hid h10
    clear h10
    go_wp2_with fail
    refine (back_any H10.out.sees).mono ?_
    rintro e w11 ⟨rfl, h11, hs11⟩
    have H11 := hid (H10.out.to h11 hs11)
    obtain ⟨e3, e4⟩ := ended_plain HE2.out l2
    have HE4 := hid e4
    rw [e3]
    clear h11 hs11 e3 e4
    generalize (backM (M3.off.on l2)).2 = M4 at *
    go_wp2_with fail
    refine (bytes_dn H11.out.sees).mono ?_
    rintro e w12 ⟨rfl, hb12⟩
    have H12 := hid (H11.out.on hb12)
    rw [HE4.out]
    clear hb12
    go_wp2
    go_ret
    exact ⟨rfl, H12.out.below⟩
  · have HE2 := hid (gone_plain HFS.out (by omega))
    generalize M2.size jn = sz at *
    go_wp2_with fail
    refine (off_sees H6.out.sees).mono ?_
    rintro e w9 ⟨rfl, h9, hs9⟩
    have H9 := hid (H6.out.to h9 hs9)
    clear h9 hs9
    go_wp2_with fail
    refine (on_fates H9.out HL2.out).mono ?_
    rintro e w10 ⟨rfl, h10⟩
    have H10 := hid h10
    clear h10
    go_wp2_with fail
    refine (back_any H10.out.sees).mono ?_
    rintro e w11 ⟨rfl, h11, hs11⟩
    have H11 := hid (H10.out.to h11 hs11)
    obtain ⟨e3, e4⟩ := ended_plain HE2.out l2
    have HE4 := hid e4
    rw [e3]
    clear h11 hs11 e3 e4
    generalize (backM (M2.off.on l2)).2 = M4 at *
    go_wp2_with fail
    refine (bytes_dn H11.out.sees).mono ?_
    rintro e w12 ⟨rfl, hb12⟩
    have H12 := hid (H11.out.on hb12)
    rw [HE4.out]
    clear hb12
    go_wp2
    go_ret
    exact ⟨rfl, H12.out.below⟩
end Jo
end Go.Proofs.YtpdpjgeoclilhaaGreat
