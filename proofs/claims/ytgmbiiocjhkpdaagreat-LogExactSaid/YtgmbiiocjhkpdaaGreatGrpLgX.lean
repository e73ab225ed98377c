/-
  Put together: LogActM, LogAcM, LogTwoX, LogExactM, LogExactN, LogExactV.
-/
import Derived.Test.YtgmbiiocjhkpdaaGreatGrpLgA
import Derived.Test.YtgmbiiocjhkpdaaGreatGrpJDke
import Derived.Test.YtgmbiiocjhkpdaaGreatLogTwo
/-
  Both logs' calls that change, plainly: Add, Sync, Back, End answer the same and leave the same (what LogExact's round wants).
-/
namespace Go.Proofs.YtgmbiiocjhkpdaaGreat
open Go.RowKit
namespace Lo
open Disk (Mod Fil Plc Sec Nam Dir Ctl)
open Jo (lenO psO szO okB kK kN kS kD wk)
/-! ### no operation answers 1 -/
theorem run_ne1 (M : Mod) (f : Dir → Int × Dir) (h : (f M.fs).1 ≠ 1) : (M.run true f).1 ≠ 1 := by
  rcases Jo.run_ways M f with ⟨c, e, -, -⟩ | ⟨c, e, -⟩
  · rw [e]
    show M.c.refusal true ≠ 1
    rcases Jo.ref_vals M.c with h | h | h <;> rw [h] <;> decide
  · rw [e]
    exact h
theorem write_ne1 {M : Mod} (k : Nat) {l : List UInt8} (hl : l.length = 256) : (M.write ln k l).1 ≠ 1 := by
  have hfit : (Disk.nameFit ln && decide (0 ≤ (k : Int)) && decide (l.length = 256)) = true := by simp [fit_l, hl]
  unfold Disk.Mod.write
  rw [hfit]
  refine run_ne1 M _ ?_
  unfold Disk.writeD
  simp only
  split
  · exact (show (14 : Int) ≠ 1 by decide)
  · split
    · exact (show (12 : Int) ≠ 1 by decide)
    · exact (show (0 : Int) ≠ 1 by decide)
theorem cut_ne1 {M : Mod} (k : Nat) : (M.cut ln k).1 ≠ 1 := by
  have hfit : (decide (0 ≤ (k : Int)) && Disk.nameFit ln) = true := by simp [fit_l]
  unfold Disk.Mod.cut
  rw [hfit]
  refine run_ne1 M _ ?_
  unfold Disk.cutD Disk.onD
  split
  · exact (show (14 : Int) ≠ 1 by decide)
  · simp only
    split
    · exact (show (14 : Int) ≠ 1 by decide)
    · exact (show (0 : Int) ≠ 1 by decide)
theorem drop_ne1 {M : Mod} : (M.drop ln).1 ≠ 1 := by
  unfold Disk.Mod.drop
  rw [fit_l]
  refine run_ne1 M _ ?_
  unfold Disk.dropD Disk.onD
  split
  · exact (show (14 : Int) ≠ 1 by decide)
  · exact (show (0 : Int) ≠ 1 by decide)
/-- What both of a call leave: the same error, the same disk, the same numbers; behind success, or where nothing was done, the same log. -/
structure SW (n : Nat) (X : Int × List Fr × Mod) (Y : Int × Lg × Mod) : Prop where
  e : X.1 = Y.1
  m : X.2.2 = Y.2.2
  ns : Y.2.1.ns = X.2.1.map (·.1)
  dir : ∃ L, X.2.2.fs = dir1 L ∧ lenO L ≤ n
  ok : X.1 = 0 ∨ X.1 = 1 → SL X.2.1 Y.2.1 X.2.2
  low : ∀ x ∈ Y.2.1.ss, x < 18446744073709551616
theorem lenO_write {L : Option Fil} {k : Nat} {l : List UInt8} : lenO (some ((L.getD Disk.emptyFil).write k l)) ≤ lenO L + 1 := by
  have h0 : (L.getD Disk.emptyFil).ps.length = lenO L := by cases L <;> rfl
  show ((L.getD Disk.emptyFil).write k l).ps.length ≤ _
  unfold Disk.Fil.write
  split
  · simp only [List.length_append, List.length_cons, List.length_nil]
    omega
  · simp only
    split
    · rw [List.length_set]; omega
    · omega
theorem frameL_len {l : Lg} {n : Nat} {d : List UInt8} {c : Bool} (hd : d.length = 232) : (frameL l n d c).length = 256 := by
  unfold frameL
  rw [Seal.seal_len, hd]
/-- A frame laid behind the others. -/
theorem frame_same {fs : List Fr} {l : Lg} {M : Mod} {F : Fil} (hns : l.ns = fs.map (·.1)) (hss : l.ss = sumL topL :: fs.map (·.2)) (hf : M.fs = dir1 (some F)) (hok : OkAt fs.length (some F)) (hlen : F.ps.length = fs.length + 1)
    (hs : ∀ x ∈ fs, x.2 < 18446744073709551616) {n : Nat} (_hn : n < 4096) {d : List UInt8} (hd : d.length = 232) (c : Bool) : SW (F.ps.length + 1) (frameP fs n d c M) (frameM l n d c M) := by
  have hl : l = lgOf fs := by cases l; cases hns; cases hss; rfl
  subst hl
  have hnl : (lgOf fs).ns.length = fs.length := by show (fs.map (·.1)).length = _; rw [List.length_map]
  obtain ⟨h1, -⟩ := does_write hf (k := 1 + fs.length) (l := frameL (lgOf fs) n d c) (frameL_len hd)
  have hne := write_ne1 (M := M) (1 + fs.length) (l := frameL (lgOf fs) n d c) (frameL_len hd)
  have hkf : okB (frameL (lgOf fs) n d c) = true := Jo.okB_seal _ _ _ hd
  have hlow : ∀ x ∈ (lgOf fs).ss, x < 18446744073709551616 := by
    intro x hx
    have hx' : x ∈ sumL topL :: fs.map (·.2) := hx
    rcases List.mem_cons.1 hx' with h9 | hx
    · rw [h9]
      exact sum_lt64 _
    · obtain ⟨y, hy, h9⟩ := List.mem_map.1 hx
      rw [← h9]
      exact hs y hy
  have hlow2 : ∀ x ∈ (lgOf fs).ss ++ [sumL (frameL (lgOf fs) n d c)], x < 18446744073709551616 := by
    intro x hx
    rcases List.mem_append.1 hx with hx | hx
    · exact hlow x hx
    · rw [List.mem_singleton] at hx
      subst hx
      exact sum_lt64 _
  have hlw := lenO_write (L := some F) (k := 1 + fs.length) (l := frameL (lgOf fs) n d c)
  unfold frameP frameM
  rw [hnl]
  generalize hT : frameL (lgOf fs) n d c = T at *
  generalize M.write ln (1 + fs.length : Nat) T = W at *
  rcases h1 with ⟨h2, h3⟩ | ⟨h2, h3⟩
  · rw [if_neg h2, if_neg h2]
    exact ⟨rfl, rfl, rfl, ⟨some F, h3, Nat.le_succ _⟩, fun e => e.elim (fun e => absurd e h2) (fun e => absurd e hne), hlow⟩
  · rw [if_pos h2, if_pos h2]
    have hF : ((some F).getD Disk.emptyFil).write (1 + fs.length) T = { F with ps := F.ps ++ [⟨some T, none, true⟩] } := by
      show F.write (1 + fs.length) T = _
      unfold Disk.Fil.write
      rw [if_pos (by omega)]
    rw [hF] at h3 hlw
    refine ⟨rfl, rfl, by simp [lgOf], ⟨_, h3, hlw⟩, fun _ => ⟨by simp [lgOf], _, h3, ?_, fun e => (by cases e), ?_⟩, hlow2⟩
    · intro i hi
      rw [List.length_append] at hi
      by_cases hif : i < fs.length
      · obtain ⟨p, s, k1, k2, k3⟩ := hok i hif
        refine ⟨p, s, ?_, k2, k3⟩
        show (F.ps ++ [_])[i + 1]? = some p
        rw [List.getElem?_append_left (by omega)]
        exact k1
      · have hie : i = fs.length := by have : [(n, sumL T)].length = 1 := rfl; omega
        refine ⟨⟨some T, none, true⟩, T, ?_, rfl, hkf⟩
        show (F.ps ++ [_])[i + 1]? = _
        rw [List.getElem?_append_right (by omega), hlen, hie, Nat.sub_self]
        rfl
    · intro F' e
      cases e
      refine ⟨by simp [lgOf], ?_⟩
      show (F.ps ++ [_]).length = _
      simp [hlen]
theorem add_same {fs : List Fr} {l : Lg} {M : Mod} {L : Option Fil} (h : SL fs l M) (hf : M.fs = dir1 L) (hs : ∀ x ∈ fs, x.2 < 18446744073709551616) (hlow : ∀ x ∈ l.ss, x < 18446744073709551616) (n : Int) (d : List UInt8) (c : Bool) :
    SW (lenO L + 2) (addP fs n d c M) (addM l n d c M) := by
  have h' := h
  obtain ⟨hns, L', hf', hok, hnone, hsome⟩ := h
  have hLL : L' = L := by
    have := (get_l L').symm.trans ((congrArg (fun x => Disk.get? x ln) (hf'.symm.trans hf)).trans (get_l L))
    exact this
  subst hLL
  unfold addP addM
  by_cases hb : n < 0 ∨ 4096 ≤ n ∨ d.length ≠ 232
  · rw [if_pos hb, if_pos hb]
    exact ⟨rfl, rfl, hns, ⟨_, hf, by omega⟩, fun _ => h', hlow⟩
  · rw [if_neg hb, if_neg hb]
    have hd : d.length = 232 := Decidable.of_not_not fun x => hb (Or.inr (Or.inr x))
    have hnl : n.toNat < 4096 := by omega
    have hsz := size_l hf
    unfold topP topM
    rw [hsz]
    cases hL : L' with
    | none =>
      subst hL
      obtain rfl := hnone rfl
      rw [if_pos (show szO none < 0 from by decide), if_pos (show szO none < 0 from by decide)]
      obtain ⟨h1, -⟩ := does_write hf (k := 0) (l := topL) (by unfold topL; rw [Seal.seal_len, List.length_replicate])
      have hne := write_ne1 (M := M) 0 (l := topL) (by unfold topL; rw [Seal.seal_len, List.length_replicate])
      have hlw := lenO_write (L := none) (k := 0) (l := topL)
      generalize M.write ln (0 : Nat) topL = W at *
      rcases h1 with ⟨h2, h3⟩ | ⟨h2, h3⟩
      · rw [if_pos h2, if_pos h2, if_neg h2]
        exact ⟨rfl, rfl, hns, ⟨none, h3, Nat.zero_le _⟩, fun e => e.elim (fun e => absurd e h2) (fun e => absurd e hne), hlow⟩
      · have hz : ¬ (W.1 ≠ 0) := fun x => x h2
        rw [if_neg hz, if_neg hz, if_pos h2]
        have hF : ((none : Option Fil).getD Disk.emptyFil).write 0 topL = { Disk.emptyFil with ps := [⟨some topL, none, true⟩] } := rfl
        rw [hF] at h3
        exact frame_same (fs := []) (l := ⟨l.ns, [sumL topL]⟩) hns rfl h3 (fun i hi => absurd hi (Nat.not_lt_zero _)) rfl (fun x hx => by cases hx) hnl hd c
    | some F =>
      subst hL
      have hp : ¬ (szO (some F) < 0) := by show ¬ ((F.ps.length : Int) < 0); omega
      rw [if_neg hp, if_neg hp, if_neg (fun x => x rfl), if_neg (fun x => x rfl)]
      obtain ⟨hss, hlen⟩ := hsome F rfl
      have := frame_same hns hss hf hok hlen hs hnl hd c
      exact ⟨this.e, this.m, this.ns, by obtain ⟨L, h1, h2⟩ := this.dir; exact ⟨L, h1, by show lenO L ≤ F.ps.length + 2; omega⟩, this.ok, this.low⟩
/-- The same log over the disk's other control. -/
theorem SL.fs {fs : List Fr} {l : Lg} {M M' : Mod} (h : SL fs l M) (e : M'.fs = M.fs) : SL fs l M' := by
  obtain ⟨hns, L, hf, h1⟩ := h
  exact ⟨hns, L, e.trans hf, h1⟩
theorem sync_same {fs : List Fr} {l : Lg} {M : Mod} (h : SL fs l M) : SL fs l (syncM M).2 ∧ ∀ L, M.fs = dir1 L → ∃ L', (syncM M).2.fs = dir1 L' ∧ lenO L' ≤ lenO L := by
  obtain ⟨hns, L, hf, hok, hnone, hsome⟩ := h
  have h0 : SL fs l M := ⟨hns, L, hf, hok, hnone, hsome⟩
  have uq : ∀ L', M.fs = dir1 L' → L' = L := fun L' e => (get_l L').symm.trans ((congrArg (fun x => Disk.get? x ln) (e.symm.trans hf)).trans (get_l L))
  unfold syncM
  split
  · exact ⟨h0, fun L' e => ⟨L', e, Nat.le_refl _⟩⟩
  · obtain ⟨h1, -⟩ := does_sync hf
    generalize M.sync ln = W at *
    rcases h1 with ⟨-, h3⟩ | ⟨-, h3⟩
    · exact ⟨h0.fs (h3.trans hf.symm), fun L' e => ⟨L', h3.trans (by rw [uq L' e]), Nat.le_refl _⟩⟩
    · refine ⟨⟨hns, _, h3, ?_, ?_, ?_⟩, fun L' e => ⟨_, h3, ?_⟩⟩
      · intro i hi
        obtain ⟨p, s, k1, k2, k3⟩ := hok i hi
        cases L with
        | none => simp [psO] at k1
        | some F =>
          have k1' : F.ps[i + 1]? = some p := k1
          refine ⟨⟨p.now, some p.now, false⟩, s, ?_, k2, k3⟩
          show (F.ps.map _)[i + 1]? = _
          rw [List.getElem?_map, k1']
          rfl
      · intro e
        cases L with
        | none => exact hnone rfl
        | some F => cases e
      · intro F' e
        cases L with
        | none => cases e
        | some F =>
          cases e
          obtain ⟨k1, k2⟩ := hsome F rfl
          exact ⟨k1, by show (F.ps.map _).length = _; rw [List.length_map]; exact k2⟩
      · rw [uq L' e]
        cases L with
        | none => exact Nat.le_refl _
        | some F => show (F.ps.map _).length ≤ _; rw [List.length_map]; exact Nat.le_refl _
theorem back_same {fs : List Fr} {l : Lg} {M : Mod} {L : Option Fil} (h : SL fs l M) (hf : M.fs = dir1 L) (hlow : ∀ x ∈ l.ss, x < 18446744073709551616) (k : Int) : SW (lenO L) (backP fs k M) (backM l k M) := by
  have h' := h
  obtain ⟨hns, L', hf', hok, hnone, hsome⟩ := h
  have hLL : L' = L := (get_l L').symm.trans ((congrArg (fun x => Disk.get? x ln) (hf'.symm.trans hf)).trans (get_l L))
  subst hLL
  have hnl : l.ns.length = fs.length := by rw [hns, List.length_map]
  unfold backP backM
  rw [hnl]
  by_cases hb : k < 0 ∨ (fs.length : Int) < k
  · rw [if_pos hb, if_pos hb]
    exact ⟨rfl, rfl, hns, ⟨_, hf, Nat.le_refl _⟩, fun _ => h', hlow⟩
  · rw [if_neg hb, if_neg hb]
    by_cases he : k = fs.length
    · rw [if_pos he, if_pos he]
      exact ⟨rfl, rfl, hns, ⟨_, hf, Nat.le_refl _⟩, fun _ => h', hlow⟩
    · rw [if_neg he, if_neg he]
      obtain ⟨q, rfl⟩ : ∃ q : Nat, k = q := ⟨k.toNat, by omega⟩
      have hq : q < fs.length := by omega
      have e1 : (1 : Int) + (q : Int) = ((q + 1 : Nat) : Int) := by omega
      rw [e1, Int.toNat_natCast]
      obtain ⟨h1, -⟩ := does_cut hf (q + 1)
      have hne := cut_ne1 (M := M) (q + 1)
      generalize M.cut ln (q + 1 : Nat) = W at *
      rcases h1 with ⟨h2, h3⟩ | ⟨h2, h3⟩
      · rw [if_neg h2, if_neg h2]
        exact ⟨rfl, rfl, hns, ⟨_, h3, Nat.le_refl _⟩, fun e => e.elim (fun e => absurd e h2) (fun e => absurd e hne), hlow⟩
      · rw [if_pos h2, if_pos h2]
        cases L' with
        | none => have := hnone rfl; subst this; exact absurd hq (Nat.not_lt_zero _)
        | some F =>
          obtain ⟨hss, hlen⟩ := hsome F rfl
          have hn2 : l.ns.take q = (fs.take q).map (·.1) := by rw [hns, List.map_take]
          have hs2 : l.ss.take (q + 1) = sumL topL :: (fs.take q).map (·.2) := by rw [hss, List.take_succ_cons, List.map_take]
          have htl : (fs.take q).length = q := by rw [List.length_take]; omega
          refine ⟨rfl, rfl, hn2, ⟨_, h3, ?_⟩, fun _ => ⟨hn2, _, h3, ?_, fun e => (by cases e), ?_⟩, fun x hx => hlow x (List.mem_of_mem_take hx)⟩
          · show (F.ps.take (q + 1)).length ≤ F.ps.length
            rw [List.length_take]; omega
          · rw [htl]
            exact okAt_take hok (by omega)
          · intro F' e
            cases e
            refine ⟨hs2, ?_⟩
            show (F.ps.take (q + 1)).length = _
            rw [List.length_take, htl]
            omega
theorem end_same {fs : List Fr} {l : Lg} {M : Mod} {L : Option Fil} (h : SL fs l M) (hf : M.fs = dir1 L) (hlow : ∀ x ∈ l.ss, x < 18446744073709551616) : SW (lenO L) (endP fs M) (endM l M) := by
  have hsz := size_l hf
  have hns := h.ns
  have hend : ∀ {W : Mod}, W.fs = dir1 none → SL [] lg0 W := fun hW => ⟨rfl, none, hW, fun i hi => absurd hi (Nat.not_lt_zero _), fun _ => rfl, fun F e => (by cases e)⟩
  unfold endP endM
  rw [hsz]
  cases L with
  | none =>
    rw [if_pos (show szO none < 0 from by decide), if_pos (show szO none < 0 from by decide)]
    exact ⟨rfl, rfl, rfl, ⟨none, hf, Nat.le_refl _⟩, fun _ => hend hf, fun x hx => by cases hx⟩
  | some F =>
    have hp : ¬ (szO (some F) < 0) := by show ¬ ((F.ps.length : Int) < 0); omega
    rw [if_neg hp, if_neg hp]
    obtain ⟨h1, -⟩ := does_drop hf
    have hne := drop_ne1 (M := M)
    generalize M.drop ln = W at *
    rcases h1 with ⟨h2, h3⟩ | ⟨h2, h3⟩
    · rw [if_neg h2, if_neg h2]
      exact ⟨rfl, rfl, hns, ⟨_, h3, Nat.le_refl _⟩, fun e => e.elim (fun e => absurd e h2) (fun e => absurd e hne), hlow⟩
    · rw [if_pos h2, if_pos h2]
      exact ⟨rfl, rfl, rfl, ⟨none, h3, Nat.zero_le _⟩, fun _ => hend h3, fun x hx => by cases hx⟩
/-! ### Open: how long, how low -/
theorem readP_fs : ∀ (k i : Nat) (fs : List Fr) (st : Nat) (M : Mod), (readP k i fs st M).2.2.2.fs = M.fs
  | 0, _, _, _, _ => rfl
  | k + 1, i, fs, st, M => by
    unfold readP
    split
    · exact read_fs M i
    · split
      · exact read_fs M i
      · rw [readP_fs k]
        exact read_fs M i
theorem trim_len {M : Mod} {L : Option Fil} (hf : M.fs = dir1 L) (st : Nat) : ∃ L', (trimP st M).2.fs = dir1 L' ∧ lenO L' ≤ lenO L := by
  unfold trimP
  split
  · obtain ⟨h1, -⟩ := does_drop hf
    rcases h1 with ⟨-, h3⟩ | ⟨-, h3⟩
    · exact ⟨L, h3, Nat.le_refl _⟩
    · exact ⟨none, h3, Nat.zero_le _⟩
  · split
    · obtain ⟨h1, -⟩ := does_cut hf st
      rcases h1 with ⟨-, h3⟩ | ⟨-, h3⟩
      · exact ⟨L, h3, Nat.le_refl _⟩
      · refine ⟨_, h3, ?_⟩
        cases L with
        | none => exact Nat.le_refl _
        | some F => show (F.ps.take st).length ≤ F.ps.length; rw [List.length_take]; omega
    · exact ⟨L, hf, Nat.le_refl _⟩
theorem open_len {M : Mod} {L : Option Fil} (hf : M.fs = dir1 L) : ∃ L', (openP M).2.2.fs = dir1 L' ∧ lenO L' ≤ lenO L := by
  unfold openP
  have hr := (readP_fs (M.size ln).toNat 0 [] 0 M).trans hf
  generalize readP (M.size ln).toNat 0 [] 0 M = R at *
  have ht := trim_len hr R.2.2.1
  generalize trimP R.2.2.1 R.2.2.2 = T at *
  split
  · exact ⟨L, hr, Nat.le_refl _⟩
  · split
    · exact ht
    · exact ht
theorem takeL_low {i : Nat} {f g : LgS} {s : List UInt8} (h : ∀ x ∈ f.ss, x < 18446744073709551616) (e : takeL i f s = some g) : ∀ x ∈ g.ss, x < 18446744073709551616 := by
  unfold takeL at e
  split at e
  · split at e
    · cases e
      intro x hx
      rw [List.mem_singleton] at hx
      subst hx
      exact sum_lt64 _
    · cases e
  · split at e
    · cases e
    · split at e
      · cases e
      · cases e
        intro x hx
        rcases List.mem_append.1 hx with hx | hx
        · exact h x hx
        · rw [List.mem_singleton] at hx
          subst hx
          exact sum_lt64 _
theorem openN_low : ∀ (k i : Nat) (f : LgS) (M : Mod), (∀ x ∈ f.ss, x < 18446744073709551616) → ∀ x ∈ (openN k i f M).2.1.ss, x < 18446744073709551616
  | 0, _, _, _, h => h
  | k + 1, i, f, M, h => by
    unfold openN
    split
    · exact h
    · split
      · exact h
      · split
        · exact h
        · rename_i g e
          exact openN_low k _ g _ (takeL_low h e)
theorem open_low {M : Mod} {l : Lg} (h : (openM M).2.1 = some l) : ∀ x ∈ l.ss, x < 18446744073709551616 := by
  have hN := openN_low (M.size ln).toNat 0 g0 M (fun x hx => by cases hx)
  unfold openM at h
  split at h
  · cases h
    exact fun x hx => by cases hx
  · split at h
    · cases h
    · unfold openE at h
      split at h
      · cases h
        exact fun x hx => by cases hx
      · split at h
        · cases h
          exact fun x hx => hN x (List.mem_of_mem_take hx)
        · cases h
          exact fun x hx => hN x (List.mem_of_mem_take hx)
/-- Behind the power's loss and coming. -/
theorem wake_len {M : Mod} {L : Option Fil} (hf : M.fs = dir1 L) (l : List Int) : ∃ L', (M.off.on l).fs = dir1 L' ∧ lenO L' ≤ lenO L := by
  obtain ⟨-, -, h⟩ := off_on M l hf
  refine ⟨_, h, ?_⟩
  cases L with
  | none => exact Nat.le_refl _
  | some F =>
    unfold wk
    simp only
    split
    · exact Jo.woken_le F l 0
    · exact Nat.zero_le _
/-- Frames and sectors: no more frames than sectors. -/
theorem SL.few {fs : List Fr} {l : Lg} {M : Mod} {L : Option Fil} (h : SL fs l M) (hf : M.fs = dir1 L) : fs.length ≤ lenO L ∧ (0 ≤ M.size ln → l.ss ≠ []) ∧ (l.ns ≠ [] → l.ss.length = l.ns.length + 1) := by
  obtain ⟨hns, L', hf', hok, hnone, hsome⟩ := h
  have hLL : L' = L := (get_l L').symm.trans ((congrArg (fun x => Disk.get? x ln) (hf'.symm.trans hf)).trans (get_l L))
  subst hLL
  have hsz := size_l hf
  cases L' with
  | none =>
    obtain rfl := hnone rfl
    refine ⟨Nat.zero_le _, fun h => ?_, fun h => absurd hns h⟩
    rw [hsz] at h
    exact absurd h (by decide)
  | some F =>
    obtain ⟨h1, h2⟩ := hsome F rfl
    refine ⟨by show fs.length ≤ F.ps.length; omega, fun _ => by rw [h1]; simp, fun _ => ?_⟩
    rw [h1, hns]
    simp
end Lo
end Go.Proofs.YtgmbiiocjhkpdaaGreat

/-
  The acts of LogExact, as they came in.
-/
namespace Go.Proofs.YtgmbiiocjhkpdaaGreat
open Go.RowKit
namespace Lt
abbrev tAc : TypeId := 37
abbrev tAcs : TypeId := 22
/-- An act that came in; q: the fates that its slice holds. -/
structure AcC where
  k : Int
  n : Int
  f : UInt8
  c : Bool
  fv : Value
  q : List Int
abbrev acV (x : AcC) : List Value := [.int .i64 x.k, .int .i64 x.n, .int .u8 (x.f.toNat : Int), .bool x.c, x.fv]
structure AcOk (N : Nat) (w : World) (x : AcC) : Prop where
  n : x.n ≤ 9223372036854775807
  wf : -9223372036854775808 ≤ x.n
  ints : Disk.IntsAt w x.fv x.q
  few : x.q.length ≤ maxLen
  old : ∀ b o n cap, x.fv = .slice (some ⟨b, o, none⟩) n cap → n ≠ 0 → b < N
  one : ∃ ao n cap, x.fv = .slice ao n cap
theorem AcOk.kept {N : Nat} {w w' : World} {x : AcC} (h : AcOk N w x) (hb : Below N w w') : AcOk N w' x := by
  refine ⟨h.n, h.wf, ?_, h.few, h.old, h.one⟩
  rcases h.ints with h1 | ⟨b, o, cap, hv, hb0, hl⟩
  · exact Or.inl h1
  · exact Or.inr ⟨b, o, cap, hv, Nat.lt_of_lt_of_le hb0 hb.size, fun j hj => (hb.cell (p := ⟨b, o + j, none⟩) (h.old b o _ cap hv (by omega))).trans (hl j hj)⟩
end Lt
end Go.Proofs.YtgmbiiocjhkpdaaGreat

/-
  Both logs and both disks beside the round's own blocks X: each call of LogExact's.
-/
namespace Go.Proofs.YtgmbiiocjhkpdaaGreat
open Go.RowKit Go.Shelf
namespace Lt
open Lo
open Num (hid)
open Disk (Mod Fil Sees Stays)
open Mem (Bs bs LAt tI ptr blk_cell blk_free blk_new blk_set blk_other blk_alloc row_kept row_shape row_type)
open Ref (Refs RQ)
open Lr (RL lgX)
variable {O R R0 X : Nat → Prop} {d m r j b c : Nat} {f v u : Value} {M M' U U' : Mod} {fs fs' : List Fr} {l l' : Lg} {w0 w w' : World}
/-! ### the reference's disk: Arm, Off, On, Ops -/
theorem q_arm (h : RQ R0 X r U w0 w) (hX : ∀ k, X k → k < w.heap.size) (a k n : Int) (ha : a ≤ 9223372036854775807) (hn : n ≤ 9223372036854775807) :
    Calls Tryz.prog 24 #[ptr r, .int .i64 a, .int .i64 k, .int .i64 n] w fun e w' => e = .returned (.tuple #[]) ∧ RQ R0 X r (U.arm a k n) w0 w' ∧ Disk.Chg (fun k => ¬ X k) w w' := by
  obtain ⟨R', h1, h2⟩ := h.call hX
  refine (Ref.arm_ref h1 a k n ha hn).mono ?_
  rintro e w' ⟨rfl, k1, k2⟩
  exact ⟨rfl, h2 _ w' k1 k2 (h.good.arm _ _ _ ha hn)⟩
theorem q_off (h : RQ R0 X r U w0 w) (hX : ∀ k, X k → k < w.heap.size) :
    Calls Tryz.prog 26 #[ptr r] w fun e w' => e = .returned (.tuple #[]) ∧ RQ R0 X r U.off w0 w' ∧ Disk.Chg (fun k => ¬ X k) w w' := by
  obtain ⟨R', h1, h2⟩ := h.call hX
  refine (Ref.off_ref h1).mono ?_
  rintro e w' ⟨rfl, k1, k2⟩
  exact ⟨rfl, h2 _ w' k1 k2 h.good.off⟩
theorem q_ops (h : RQ R0 X r U w0 w) : Calls Tryz.prog 35 #[ptr r] w fun e w' => e = .returned (.int .i64 U.c.ops) ∧ w = w' := by
  obtain ⟨⟨R, ⟨v, E, a, k, m, D, hE⟩, -⟩, -, -⟩ := h
  exact Ref.rops_any D
/-! ### both logs -/
theorem LX.own {f' : Value} (hx : ∀ k, X k → O k ∧ ¬ R k) (h : TL w0 O R d m r j b c f v u M U fs l w) (hp : PL O d m j b f' M' fs' w') (hs : Stays O w w') : LX w0 X d m r j c M' U fs' l w' ∧ Stays X w w' :=
  ⟨⟨O, R, b, f', v, u, h.own hp hs, hx⟩, fewer hs (fun k hk => (hx k hk).1)⟩
theorem LX.ref {v' u' : Value} (hx : ∀ k, X k → O k ∧ ¬ R k) (h : TL w0 O R d m r j b c f v u M U fs l w) (hr : RL R r c U' l' w v' u' w') : LX w0 X d m r j c M U' fs l' w' ∧ Stays X w w' := by
  obtain ⟨O', R', h', hO, hR⟩ := h.ref hr
  refine ⟨⟨O', R', b, f, v', u', h', fun k hk => ⟨hO k (hx k hk).1, fun hRk => ?_⟩⟩, Disk.Chg.mono hr.q.chg (fun k _ hRk hXk => (hx k hXk).2 hRk)⟩
  rcases hR k hRk with e | e
  · exact (hx k hk).2 e
  · have := h.pl.olt (hx k hk).1; omega
theorem lx_add (h : LX w0 X d m r j c M U fs l w) (hf : fs.length < 15000) (n : Int) (s : Bs) (k : Bool) :
    Calls Tryz.prog 12 #[ptr j, .int .i64 n, .string (bs s), .bool k] w fun e w' => e = .returned (.int .i64 (addP fs n s k M).1) ∧ LX w0 X d m r j c (addP fs n s k M).2.2 U (addP fs n s k M).2.1 l w' ∧ Stays X w w' := by
  obtain ⟨O, R, b, f, v, u, h, hx⟩ := h.ex
  refine (add_any h.pl hf n s k).mono ?_
  rintro e w' ⟨rfl, f', hp, hs⟩
  exact ⟨rfl, LX.own hx h hp hs⟩
theorem lx_radd (h : LX w0 X d m r j c M U fs l w) (hs : 0 ≤ U.size ln → l.ss ≠ []) (hf : l.ns.length < 90000 ∧ l.ss.length < 90000) (hT : ∀ x ∈ l.ss, x < 18446744073709551616) (n : Int) (s : Bs) (k : Bool) :
    Calls Tryz.prog 14 #[ptr c, .int .i64 n, .string (bs s), .bool k] w fun e w' => e = .returned (.int .i64 (addM l n s k U).1) ∧ LX w0 X d m r j c M (addM l n s k U).2.2 fs (addM l n s k U).2.1 w' ∧ Stays X w w' := by
  obtain ⟨O, R, b, f, v, u, h, hx⟩ := h.ex
  have H := Lr.radd_any h.rl hs hf hT n (bs s) k
  rw [show (bs s).data.toList = s from by simp [bs]] at H
  refine H.mono ?_
  rintro e w' ⟨v', u', rfl, hr⟩
  exact ⟨rfl, LX.ref hx h hr⟩
theorem lx_sync (h : LX w0 X d m r j c M U fs l w) :
    Calls Tryz.prog 15 #[ptr j] w fun e w' => e = .returned (.int .i64 (syncM M).1) ∧ LX w0 X d m r j c (syncM M).2 U fs l w' ∧ Stays X w w' := by
  obtain ⟨O, R, b, f, v, u, h, hx⟩ := h.ex
  refine (sync_any h.pl).mono ?_
  rintro e w' ⟨rfl, hp, hs⟩
  exact ⟨rfl, LX.own hx h hp hs⟩
theorem lx_rsync (h : LX w0 X d m r j c M U fs l w) :
    Calls Tryz.prog 16 #[ptr c] w fun e w' => e = .returned (.int .i64 (syncM U).1) ∧ LX w0 X d m r j c M (syncM U).2 fs l w' ∧ Stays X w w' := by
  obtain ⟨O, R, b, f, v, u, h, hx⟩ := h.ex
  refine (Lr.rsync_any h.rl).mono ?_
  rintro e w' ⟨rfl, hr⟩
  exact ⟨rfl, LX.ref hx h hr⟩
theorem lx_back (h : LX w0 X d m r j c M U fs l w) (k : Int) :
    Calls Tryz.prog 19 #[ptr j, .int .i64 k] w fun e w' => e = .returned (.int .i64 (backP fs k M).1) ∧ LX w0 X d m r j c (backP fs k M).2.2 U (backP fs k M).2.1 l w' ∧ Stays X w w' := by
  obtain ⟨O, R, b, f, v, u, h, hx⟩ := h.ex
  refine (back_any h.pl k).mono ?_
  rintro e w' ⟨rfl, f', hp, hs⟩
  exact ⟨rfl, LX.own hx h hp hs⟩
theorem lx_rback (h : LX w0 X d m r j c M U fs l w) (hs : l.ns ≠ [] → l.ss.length = l.ns.length + 1) (k : Int) :
    Calls Tryz.prog 20 #[ptr c, .int .i64 k] w fun e w' => e = .returned (.int .i64 (backM l k U).1) ∧ LX w0 X d m r j c M (backM l k U).2.2 fs (backM l k U).2.1 w' ∧ Stays X w w' := by
  obtain ⟨O, R, b, f, v, u, h, hx⟩ := h.ex
  refine (Lr.rback_any h.rl hs k).mono ?_
  rintro e w' ⟨v', u', rfl, hr⟩
  exact ⟨rfl, LX.ref hx h hr⟩
theorem lx_end (h : LX w0 X d m r j c M U fs l w) :
    Calls Tryz.prog 21 #[ptr j] w fun e w' => e = .returned (.int .i64 (endP fs M).1) ∧ LX w0 X d m r j c (endP fs M).2.2 U (endP fs M).2.1 l w' ∧ Stays X w w' := by
  obtain ⟨O, R, b, f, v, u, h, hx⟩ := h.ex
  refine (end_any h.pl).mono ?_
  rintro e w' ⟨rfl, f', hp, hs⟩
  exact ⟨rfl, LX.own hx h hp hs⟩
theorem lx_rend (h : LX w0 X d m r j c M U fs l w) :
    Calls Tryz.prog 22 #[ptr c] w fun e w' => e = .returned (.int .i64 (endM l U).1) ∧ LX w0 X d m r j c M (endM l U).2.2 fs (endM l U).2.1 w' ∧ Stays X w w' := by
  obtain ⟨O, R, b, f, v, u, h, hx⟩ := h.ex
  refine (Lr.rend_any h.rl).mono ?_
  rintro e w' ⟨v', u', rfl, hr⟩
  exact ⟨rfl, LX.ref hx h hr⟩
theorem lx_arm (h : LX w0 X d m r j c M U fs l w) (a k n : Int) (ha : a ≤ 9223372036854775807) (hn : n ≤ 9223372036854775807) :
    Calls Tryz.prog 23 #[ptr d, .int .i64 a, .int .i64 k, .int .i64 n] w fun e w' => e = .returned (.tuple #[]) ∧ LX w0 X d m r j c (M.arm a k n) U fs l w' ∧ Stays X w w' := by
  obtain ⟨O, R, b, f, v, u, h, hx⟩ := h.ex
  refine (Disk.arm_sees h.pl.disk a k n ha hn).mono ?_
  rintro e w' ⟨rfl, h1, h2⟩
  exact ⟨rfl, LX.own hx h (h.pl.over h1 h2) (PL.stays h2)⟩
theorem lx_rarm (h : LX w0 X d m r j c M U fs l w) (a k n : Int) (ha : a ≤ 9223372036854775807) (hn : n ≤ 9223372036854775807) :
    Calls Tryz.prog 24 #[ptr r, .int .i64 a, .int .i64 k, .int .i64 n] w fun e w' => e = .returned (.tuple #[]) ∧ LX w0 X d m r j c M (U.arm a k n) fs l w' ∧ Stays X w w' := by
  obtain ⟨O, R, b, f, v, u, h, hx⟩ := h.ex
  refine (q_arm h.rl.q h.rl.hX a k n ha hn).mono ?_
  rintro e w' ⟨rfl, h1, h2⟩
  exact ⟨rfl, LX.ref hx h (h.rl.to h1 h2)⟩
theorem LX.logs (h : LX w0 X d m r j c M U fs l w) : Logs w0 d m r j c M U fs l w := by
  obtain ⟨O, R, b, f, v, u, h, -⟩ := h.ex
  exact ⟨O, R, b, f, v, u, h⟩
/-! ### both disks -/
structure DX (w0 : World) (X : Nat → Prop) (d m r : Nat) (M U : Mod) (w : World) : Prop where
  ex : ∃ O R, TD w0 O R d m r M U w ∧ ∀ k, X k → O k ∧ ¬ R k
theorem DX.below (h : DX w0 X d m r M U w) : Below w0.heap.size w0 w := by
  obtain ⟨O, R, h, -⟩ := h.ex
  exact h.below
theorem LX.disks (h : LX w0 X d m r j c M U fs l w) : DX w0 X d m r M U w := by
  obtain ⟨O, R, b, f, v, u, h, hx⟩ := h.ex
  exact ⟨O, R, h.disks, hx⟩
theorem DX.two (h : DX w0 X d m r M U w) : Two w0 d m r M U w := by
  obtain ⟨O, R, h, -⟩ := h.ex
  exact ⟨O, R, h⟩
theorem DX.on (h : DX w0 X d m r M U w) (hb : Below w.heap.size w w') : DX w0 X d m r M U w' := by
  obtain ⟨O, R, h, hx⟩ := h.ex
  exact ⟨O, R, h.on hb, hx⟩
theorem dx_start (h : Two w0 d m r M U w) (hb : Below w.heap.size w w') : DX w0 (fun k => w.heap.size ≤ k ∧ k < w'.heap.size) d m r M U w' := by
  obtain ⟨O, R, h⟩ := h
  refine ⟨_, R, ⟨h.sees.more hb, h.refs.apart (F := fun _ => False) (Disk.Chg.of_below hb) (fun _ x => x.elim), fun k hk => Or.inl (h.sub k hk), h.low, fun k hk => Or.inl (h.old k hk), h.below.trans (hb.mono h.below.size), h.good⟩, fun k hk => ⟨Or.inr hk, fun hR => ?_⟩⟩
  have := sees_lt h.sees (h.sub k hR)
  omega
theorem DX.own (hx : ∀ k, X k → O k ∧ ¬ R k) (h : TD w0 O R d m r M U w) (hp : Sees O d m M' w') (hs : Stays O w w') : DX w0 X d m r M' U w' ∧ Stays X w w' :=
  ⟨⟨O, R, h.own hp hs, hx⟩, fewer hs (fun k hk => (hx k hk).1)⟩
theorem DX.ref (hx : ∀ k, X k → O k ∧ ¬ R k) (h : TD w0 O R d m r M U w) (hr : RQ R (fun _ => False) r U' w w') : DX w0 X d m r M U' w' ∧ Stays X w w' := by
  obtain ⟨⟨R', h1, h2⟩, hg, hc⟩ := hr
  have hz := h.below.size
  refine ⟨⟨fun k => O k ∨ (w.heap.size ≤ k ∧ k < w'.heap.size), R', ⟨sees_beside h.sees (toMem' hc) (fun k hk _ => h.sub k hk), h1, fun k hk => ?_, fun k hk => ?_, fun k hk => Or.inl (h.old k hk), h.below.trans (Disk.Chg.below hc hz (fun k hk hx => by have := h.low k hx; omega)), hg⟩, fun k hk => ⟨Or.inl (hx k hk).1, fun hRk => ?_⟩⟩, Disk.Chg.mono hc (fun k _ hRk hXk => (hx k hXk).2 hRk)⟩
  · rcases (h2 k hk).2.2 with e | e
    · exact Or.inl (h.sub k e)
    · exact Or.inr ⟨e, (h2 k hk).2.1⟩
  · rcases (h2 k hk).2.2 with e | e
    · exact h.low k e
    · omega
  · rcases (h2 k hRk).2.2 with e | e
    · exact (hx k hk).2 e
    · have := sees_lt h.sees (hx k hk).1; omega
theorem dx_off (h : DX w0 X d m r M U w) :
    Calls Tryz.prog 25 #[ptr d] w fun e w' => e = .returned (.tuple #[]) ∧ DX w0 X d m r M.off U w' ∧ Stays X w w' := by
  obtain ⟨O, R, h, hx⟩ := h.ex
  refine (Disk.off_sees h.sees).mono ?_
  rintro e w' ⟨rfl, h1, h2⟩
  exact ⟨rfl, DX.own hx h h1 h2⟩
theorem dx_roff (h : DX w0 X d m r M U w) :
    Calls Tryz.prog 26 #[ptr r] w fun e w' => e = .returned (.tuple #[]) ∧ DX w0 X d m r M U.off w' ∧ Stays X w w' := by
  obtain ⟨O, R, h, hx⟩ := h.ex
  refine (q_off h.start (fun _ x => x.elim)).mono ?_
  rintro e w' ⟨rfl, h1, -⟩
  exact ⟨rfl, DX.ref hx h h1⟩
theorem dx_on (h : DX w0 X d m r M U w) (fv : Value) (q : List Int) (hI : Disk.IntsAt w fv q) (hl : q.length ≤ maxLen) (hv : ∀ b o n cap, fv = .slice (some ⟨b, o, none⟩) n cap → n ≠ 0 → b < w0.heap.size) :
    Calls Tryz.prog 27 #[ptr d, fv] w fun e w' => e = .returned (.tuple #[]) ∧ DX w0 X d m r (M.on q) U w' ∧ Stays X w w' := by
  obtain ⟨O, R, h, hx⟩ := h.ex
  refine (Disk.on_sees h.sees fv q hI hl (fun b o n cap e hn => h.old b (hv b o n cap e hn))).mono ?_
  rintro e w' ⟨rfl, h1, h2⟩
  exact ⟨rfl, DX.own hx h h1 h2⟩
/-- What the project's disk is, is good for the reference's. -/
theorem DX.good (h : DX w0 X d m r M U w) : Ref.Good M := by
  obtain ⟨O, R, h, -⟩ := h.ex
  exact Ref.Sees.good h.sees
theorem dx_ron (h : DX w0 X d m r M U w) (fv : Value) (q : List Int) (hI : Disk.IntsAt w fv q) (hl : q.length ≤ maxLen) (hg : Ref.Good (U.on q)) (hv : ∀ b o n cap, fv = .slice (some ⟨b, o, none⟩) n cap → n ≠ 0 → b < w0.heap.size) :
    Calls Tryz.prog 28 #[ptr r, fv] w fun e w' => e = .returned (.tuple #[]) ∧ DX w0 X d m r M (U.on q) w' ∧ Stays X w w' := by
  obtain ⟨O, R, h, hx⟩ := h.ex
  have hz := h.below.size
  have h1 : Ref.RSees (fun k => R k ∨ w.heap.size ≤ k) r U w := ⟨h.refs.mono (fun g _ hg => Or.inl hg), h.good, fun k hk => Or.inr hk⟩
  refine (Ref.on_ref h1 fv q hI hl (fun b o n cap e hn hR => ?_)).mono ?_
  · have hb := hv b o n cap e hn
    rcases hR with e | e
    · have := h.low b e; omega
    · omega
  · rintro e w' ⟨rfl, k1, k2⟩
    refine ⟨rfl, DX.ref hx h ⟨⟨fun k => (R k ∨ w.heap.size ≤ k) ∧ k < w'.heap.size, k1.mono (fun g hlt hg => ⟨hg, hlt⟩), fun k hk => ⟨fun x => x, hk.2, hk.1⟩⟩, hg, Disk.Chg.mono k2 (fun k hlt hk => ?_)⟩⟩
    rcases hk with e | e
    · exact e
    · omega
/-! ### Open -/
/-- The project's log, the reference's disk, beside X. -/
structure HX (w0 : World) (X : Nat → Prop) (d m r j : Nat) (M U : Mod) (fs : List Fr) (w : World) : Prop where
  ex : ∃ O R b f, TM w0 O R d m r j b f M U fs w ∧ ∀ k, X k → O k ∧ ¬ R k
def OpenX (w0 : World) (X : Nat → Prop) (d m r : Nat) (Y : Int × Option (List Fr) × Mod) (U : Mod) (w : World) (e : Ending) (w' : World) : Prop :=
  match Y.2.1 with
  | none => e = .returned (.tuple #[.pointer none, .int .i64 Y.1]) ∧ DX w0 X d m r Y.2.2 U w' ∧ Stays X w w'
  | some fs => ∃ j, e = .returned (.tuple #[ptr j, .int .i64 0]) ∧ HX w0 X d m r j Y.2.2 U fs w' ∧ Stays X w w'
theorem dx_open (h : DX w0 X d m r M U w) : Calls Tryz.prog 10 #[ptr d] w (OpenX w0 X d m r (openP M) U w) := by
  obtain ⟨O, R, h, hx⟩ := h.ex
  refine (open_any_ h.sees).mono ?_
  intro e w' ho
  generalize openP M = Y at *
  obtain ⟨a, o, M1⟩ := Y
  cases o with
  | none =>
    obtain ⟨-, rfl, h1, h2⟩ := ho
    exact ⟨rfl, DX.own hx h h1 h2⟩
  | some fs =>
    obtain ⟨-, j, b, f, rfl, hp, hs⟩ := ho
    exact ⟨j, rfl, ⟨O, R, b, f, ⟨hp, h.refs.apart hs (fun k hk hR => hk (h.sub k hR)), h.sub, h.low, h.old, h.below.trans (Disk.Chg.below hs h.below.size (fun k hk hx => hx (h.old k hk))), h.good⟩, hx⟩, fewer hs (fun k hk => (hx k hk).1)⟩
theorem dx_ropen (h : DX w0 X d m r M U w) :
    Calls Tryz.prog 11 #[ptr r] w fun e w' => ∃ p : Option Addr, e = .returned (.tuple #[.pointer p, .int .i64 (openM U).1]) ∧ DX w0 X d m r M (openM U).2.2 w' ∧ Stays X w w' := by
  obtain ⟨O, R, h, hx⟩ := h.ex
  refine (Lr.ropen_log h.start).mono ?_
  intro e w' ho
  generalize openM U = Y at *
  obtain ⟨a, o, U1⟩ := Y
  cases o with
  | none =>
    obtain ⟨rfl, h1⟩ := ho
    exact ⟨none, rfl, DX.ref hx h h1⟩
  | some l =>
    obtain ⟨b, v, u, rfl, -, hr⟩ := ho
    obtain ⟨⟨R', h1, h2⟩, hg, hc⟩ := hr.q
    exact ⟨_, rfl, DX.ref hx h ⟨⟨R', h1, fun k hk => ⟨fun x => x, (h2 k hk).2⟩⟩, hg, hc⟩⟩
theorem hx_ropen (h : HX w0 X d m r j M U fs w) {U1 : Mod} {l : Lg} (he : openM U = (0, some l, U1)) :
    Calls Tryz.prog 11 #[ptr r] w fun e w' => ∃ c, e = .returned (.tuple #[ptr c, .int .i64 0]) ∧ LX w0 X d m r j c M U1 fs l w' ∧ Stays X w w' := by
  obtain ⟨O, R, b, f, h, hx⟩ := h.ex
  have hlt : ∀ k, R k → k < w.heap.size := fun k hk => h.pl.olt (h.sub k hk)
  have ho := Lr.ropen_log (RQ.start h.refs (fun k hk => ⟨fun x => (x : False), hlt k hk, hk⟩) h.good)
  rw [he] at ho
  refine ho.mono ?_
  rintro e w' ⟨c, v, u, rfl, hc, hrl⟩
  have hch := hrl.q.chg
  have hz := h.below.size
  obtain ⟨R1, h1, h2⟩ := rl_again hrl
  refine ⟨c, rfl, ⟨_, R1, b, f, v, u, ⟨h.pl.side (F := R) (toMem' hch) (fun k hk _ => h.sub k hk), h1, fun k hk => ?_, fun k hk => ?_, fun k hk => Or.inl (h.old k hk), h.below.trans (Disk.Chg.below hch hz (fun k hk hx => by have := h.low k hx; omega))⟩, fun k hk => ⟨Or.inl (hx k hk).1, fun hRk => ?_⟩⟩, Disk.Chg.mono hch (fun k _ hRk hXk => (hx k hXk).2 hRk)⟩
  · rcases (h2 k hk).1 with e | e
    · exact Or.inl (h.sub k e)
    · exact Or.inr ⟨e, (h2 k hk).2⟩
  · rcases (h2 k hk).1 with e | e
    · exact h.low k e
    · omega
  · rcases (h2 k hRk).1 with e | e
    · exact (hx k hk).2 e
    · have := h.pl.olt (hx k hk).1; omega
/-! ### what is asked behind each call, and at the end -/
theorem lg_ops (h : Logs w0 d m r j c M U fs l w) : Calls Tryz.prog 34 #[ptr d] w fun e w' => e = .returned (.int .i64 M.c.ops) ∧ w = w' := by
  obtain ⟨O, R, b, f, v, u, h⟩ := h
  exact Disk.ops_sees h.pl.seen
theorem lg_rops (h : Logs w0 d m r j c M U fs l w) : Calls Tryz.prog 35 #[ptr r] w fun e w' => e = .returned (.int .i64 U.c.ops) ∧ w = w' := by
  obtain ⟨O, R, b, f, v, u, h⟩ := h
  exact q_ops h.rl.q
theorem Two.on (h : Two w0 d m r M U w) (hb : Below w.heap.size w w') : Two w0 d m r M U w' := by
  obtain ⟨O, R, h⟩ := h
  exact ⟨O, R, h.on hb⟩
theorem two_size (h : Two w0 d m r M U w) : Calls Tryz.prog 38 #[ptr d, .string lS] w fun e w' => e = .returned (.int .i64 (M.size ln)) ∧ w = w' := by
  obtain ⟨O, R, h⟩ := h
  exact Disk.size_sees h.sees lS (by decide)
theorem two_rsize (h : Two w0 d m r M U w) : Calls Tryz.prog 39 #[ptr r, .string lS] w fun e w' => e = .returned (.int .i64 (U.size ln)) ∧ w = w' := by
  obtain ⟨O, R, h⟩ := h
  exact Ref.q_size h.start lS
theorem two_bytes (h : Two w0 d m r M U w) : Calls Tryz.prog 36 #[ptr d, .string lS] w fun e w' => e = .returned (.string ⟨(M.bytes ln).toArray⟩) ∧ Below w.heap.size w w' := by
  obtain ⟨O, R, h⟩ := h
  exact Disk.bytes_sees h.sees lS (by decide)
theorem two_rbytes (h : Two w0 d m r M U w) : Calls Tryz.prog 37 #[ptr r, .string lS] w fun e w' => e = .returned (.string ⟨(U.bytes ln).toArray⟩) ∧ Below w.heap.size w w' := by
  obtain ⟨O, R, h⟩ := h
  exact Ref.q_bytes h.start lS
end Lt
end Go.Proofs.YtgmbiiocjhkpdaaGreat

/-
  LogExact's round, plainly: what holds at its beginning (EI), behind its call (EJ), and how the one gives the other.
-/
namespace Go.Proofs.YtgmbiiocjhkpdaaGreat
open Go.RowKit Go.Shelf
namespace Lt
open Lo
open Num (hid)
open Disk (Mod Fil Sees Stays)
open Jo (lenO)
open Mem (Bs bs tI ptr)
variable {X : Nat → Prop} {d m r j c k n : Nat} {M : Mod} {fs : List Fr} {l : Lg} {w0 w w' : World} {ov : Bool} {kd E : Int}
/-- What the sums of the reference's log are after k calls. -/
def Low (k : Nat) (l : Lg) : Prop := (∀ x ∈ l.ss, x < 18446744073709551616) ∧ l.ss.length ≤ 2 * k + 2
theorem Low.next (h : Low k l) : Low (k + 1) l := ⟨h.1, by have := h.2; omega⟩
theorem takeL_ss {i : Nat} {f g : LgS} {s : List UInt8} (e : takeL i f s = some g) : g.ss.length ≤ f.ss.length + 1 := by
  unfold takeL at e
  split at e
  · split at e
    · cases e
      exact Nat.le_add_left _ _
    · cases e
  · split at e
    · cases e
    · split at e
      · cases e
      · cases e
        show (f.ss ++ [_]).length ≤ _
        rw [List.length_append]
        exact Nat.le_refl _
theorem openN_ss : ∀ (k i : Nat) (f : LgS) (M : Mod), (openN k i f M).2.1.ss.length ≤ f.ss.length + k
  | 0, _, _, _ => Nat.le_refl _
  | k + 1, i, f, M => by
    unfold openN
    split
    · exact Nat.le_add_right _ _
    · split
      · exact Nat.le_add_right _ _
      · split
        · exact Nat.le_add_right _ _
        · rename_i g e
          have h1 := takeL_ss e
          have h2 := openN_ss k (i + 1) g (M.read ln i).2.2
          omega
theorem open_ss {M : Mod} {l : Lg} (h : (openM M).2.1 = some l) : l.ss.length ≤ (M.size ln).toNat := by
  have hN := openN_ss (M.size ln).toNat 0 g0 M
  have h0 : g0.ss.length = 0 := rfl
  unfold openM at h
  split at h
  · cases h
    exact Nat.zero_le _
  · split at h
    · cases h
    · unfold openE at h
      split at h
      · cases h
        exact Nat.zero_le _
      · split at h
        · cases h
          show ((_ : List Nat).take _).length ≤ _
          rw [List.length_take]
          omega
        · cases h
          show ((_ : List Nat).take _).length ≤ _
          rw [List.length_take]
          omega
/-- At a round's beginning: k calls are behind; where nothing is over, both logs stand. -/
structure EI (w0 : World) (d m r j c k : Nat) (ov : Bool) (M : Mod) (fs : List Fr) (l : Lg) (w : World) : Prop where
  two : Two w0 d m r M M w
  dir : ∃ L, M.fs = dir1 L ∧ lenO L ≤ 2 * k
  logs : ov = false → Logs w0 d m r j c M M fs l w ∧ SL fs l M ∧ Low k l
/-- What makes that all is over: the power has gone, or a call that changes has failed. -/
def Over (kd E : Int) : Prop := E = 10 ∨ (E ≠ 0 ∧ E ≠ 1 ∧ (kd = 1 ∨ kd = 4 ∨ kd = 5))
instance : Decidable (Over kd E) := inferInstanceAs (Decidable (_ ∨ _))
/-- Behind a round's call (kd its kind, E its error). -/
structure EJ (w0 : World) (X : Nat → Prop) (d m r j c k : Nat) (kd E : Int) (M : Mod) (fs : List Fr) (l : Lg) (w : World) : Prop where
  lx : LX w0 X d m r j c M M fs l w
  ns : l.ns = fs.map (·.1)
  dir : ∃ L, M.fs = dir1 L ∧ lenO L ≤ 2 * k + 2
  ok : ¬ Over kd E → SL fs l M ∧ Low (k + 1) l
theorem EI.on (h : EI w0 d m r j c k ov M fs l w) (hb : Below w.heap.size w w') : EI w0 d m r j c k ov M fs l w' :=
  ⟨h.two.on hb, h.dir, fun e => ⟨(h.logs e).1.on hb, (h.logs e).2⟩⟩
theorem EI.below (h : EI w0 d m r j c k ov M fs l w) : Below w0.heap.size w0 w := by
  obtain ⟨O, R, h⟩ := h.two
  exact h.below
/-- Open of a new disk. -/
theorem open_new : openP (Mod.new 200) = (0, some [], Mod.new 200) ∧ openM (Mod.new 200) = (0, some lg0, Mod.new 200) := by
  have h1 : (Mod.new 200).size ln = -1 := rfl
  refine ⟨?_, ?_⟩
  · have r1 : readP ((Mod.new 200).size ln).toNat 0 [] 0 (Mod.new 200) = (0, [], 0, Mod.new 200) := by rw [h1]; rfl
    have r2 : trimP 0 (Mod.new 200) = (0, Mod.new 200) := by unfold trimP; rw [h1, if_neg (by omega), if_neg (by omega)]
    unfold openP
    rw [r1]
    simp only [r2]
    rfl
  · unfold openM
    rw [h1, if_pos (by omega)]
/-- The first round's. -/
theorem ei_first (h : Logs w0 d m r j c (Mod.new 200) (Mod.new 200) [] lg0 w) : EI w0 d m r j c 0 false (Mod.new 200) [] lg0 w := by
  have h' := h
  obtain ⟨O, R, b, f, v, u, h⟩ := h
  exact ⟨⟨O, R, h.disks⟩, ⟨none, rfl, Nat.le_refl _⟩, fun _ => ⟨h', ⟨rfl, none, rfl, fun i hi => absurd hi (Nat.not_lt_zero _), fun _ => rfl, fun F e => (by cases e)⟩, fun x hx => (by cases hx), Nat.zero_le _⟩⟩
/-- Where a call is left out. -/
theorem ei_skip (h : EI w0 d m r j c k ov M fs l w) : EI w0 d m r j c (k + 1) ov M fs l w := by
  obtain ⟨L, h1, h2⟩ := h.dir
  exact ⟨h.two, ⟨L, h1, by omega⟩, fun e => ⟨(h.logs e).1, (h.logs e).2.1, (h.logs e).2.2.next⟩⟩
theorem EJ.on (h : EJ w0 X d m r j c k kd E M fs l w) (hb : Below w.heap.size w w') : EJ w0 X d m r j c k kd E M fs l w' := ⟨h.lx.on hb, h.ns, h.dir, h.ok⟩
/-- Behind the round. -/
theorem ej_next (h : EJ w0 X d m r j c k kd E M fs l w) : EI w0 d m r j c (k + 1) (decide (Over kd E)) M fs l w := by
  obtain ⟨L, h1, h2⟩ := h.dir
  refine ⟨h.lx.disks.two, ⟨L, h1, by omega⟩, fun e => ?_⟩
  exact ⟨h.lx.logs, h.ok (of_decide_eq_false e)⟩
/-- The error of both, the disk of both: one letter each. -/
theorem ej_sw {P : Int × List Fr × Mod} {Q : Int × Lg × Mod} (hs : SW n P Q) (hn : n ≤ 2 * k + 2) (hk : kd = 1 ∨ kd = 4 ∨ kd = 5) (hl : Q.2.1.ss.length ≤ 2 * k + 4) (h : LX w0 X d m r j c P.2.2 Q.2.2 P.2.1 Q.2.1 w) :
    EJ w0 X d m r j c k kd P.1 P.2.2 P.2.1 Q.2.1 w := by
  obtain ⟨L, h1, h2⟩ := hs.dir
  rw [← hs.m] at h
  refine ⟨h, hs.ns, ⟨L, h1, by omega⟩, fun ho => ⟨hs.ok ?_, hs.low, by omega⟩⟩
  by_cases e0 : P.1 = 0
  · exact Or.inl e0
  · by_cases e1 : P.1 = 1
    · exact Or.inr e1
    · exact absurd (Or.inr ⟨e0, e1, hk⟩) ho
/-- Where the log stays: only the disk's control has turned, or the file is synced. -/
theorem ej_same {M' : Mod} (hi : EI w0 d m r j c k false M fs l w') (hSL : SL fs l M') (hd : ∀ L, M.fs = dir1 L → ∃ L', M'.fs = dir1 L' ∧ lenO L' ≤ lenO L) (h : LX w0 X d m r j c M' M' fs l w) : EJ w0 X d m r j c k kd E M' fs l w := by
  obtain ⟨L, h1, h2⟩ := hi.dir
  obtain ⟨L', h3, h4⟩ := hd L h1
  exact ⟨h, hSL.ns, ⟨L', h3, by omega⟩, fun _ => ⟨hSL, (hi.logs rfl).2.2.next⟩⟩
/-- Reading turns no file. -/
theorem getP_fs (fs : List Fr) (n : Int) (M : Mod) : (getP fs n M).2.2.2.fs = M.fs := by
  unfold getP
  split
  · rfl
  · split
    · exact read_fs M _
    · split
      · exact read_fs M _
      · exact read_fs M _
/-- Behind Off and On: one file, no longer than it was. -/
theorem wake_dir (hd : ∃ L, M.fs = dir1 L ∧ lenO L ≤ 2 * k) (q : List Int) : ∃ L, (M.off.on q).fs = dir1 L ∧ lenO L ≤ 2 * k := by
  obtain ⟨L, h1, h2⟩ := hd
  obtain ⟨L', h3, h4⟩ := wake_len h1 q
  exact ⟨L', h3, by omega⟩
/-- Open anew: both fail alike, or both find the same. -/
theorem open_ways (hd : ∃ L, M.fs = dir1 L ∧ lenO L ≤ 2 * k) :
    (∃ E M1, E ≠ 0 ∧ openP M = (E, none, M1) ∧ (openM M).1 = E ∧ (openM M).2.2 = M1 ∧ ∃ L, M1.fs = dir1 L ∧ lenO L ≤ 2 * k) ∨
    ∃ fs l M1, openP M = (0, some fs, M1) ∧ openM M = (0, some l, M1) ∧ SL fs l M1 ∧ (∃ L, M1.fs = dir1 L ∧ lenO L ≤ 2 * k) ∧ Low k l := by
  obtain ⟨L, h1, h2⟩ := hd
  obtain ⟨e1, e2, e3, e4⟩ := open_same h1
  obtain ⟨L', h3, h4⟩ := open_len h1
  have hlow := fun l => open_low (M := M) (l := l)
  have hss := fun l => open_ss (M := M) (l := l)
  have hz : (M.size ln).toNat ≤ lenO L := by
    rw [size_l h1]
    cases L with
    | none => exact Nat.zero_le _
    | some F => exact Nat.le_of_eq (Int.toNat_natCast _)
  generalize (M.size ln).toNat = sz at *
  generalize openP M = P at *
  generalize openM M = Q at *
  obtain ⟨E, o, M1⟩ := P
  obtain ⟨E', o', M1'⟩ := Q
  simp only at e1 e2 e3 e4 h3 hlow
  subst e1
  subst e2
  by_cases he : E = 0
  · subst he
    obtain ⟨fs, l, rfl, rfl, hS⟩ := e3 rfl
    exact Or.inr ⟨fs, l, M1, rfl, rfl, hS, ⟨L', h3, by omega⟩, hlow l rfl, by have := hss l rfl; omega⟩
  · obtain ⟨rfl, -⟩ := e4 he
    exact Or.inl ⟨E, M1, he, rfl, rfl, rfl, L', h3, by omega⟩
end Lt
end Go.Proofs.YtgmbiiocjhkpdaaGreat

/-
  LogExact's round, its calls by pairs: the project's, then the reference's; what the copied act is stays.
-/
namespace Go.Proofs.YtgmbiiocjhkpdaaGreat
open Go.RowKit Go.Shelf
namespace Lt
open Lo
open Num (hid)
open Disk (Mod Fil Sees Stays)
open Jo (lenO)
open Mem (Bs bs tI ptr)
variable {d m r j c k n : Nat} {M : Mod} {fs : List Fr} {l : Lg} {w0 w w' wr w2 : World} {kd E : Int} {ob : Obj} {xf : UInt8} {xn : Int} {xc : Bool}
/-- The blocks that a round has made by w2. -/
abbrev XB (wr w2 : World) : Nat → Prop := fun b => wr.heap.size ≤ b ∧ b < w2.heap.size
/-- Two calls, one behind the other: what the first leaves (G) is kept by whatever makes memory alone; the copied act's block b stays. -/
structure PairOf (f1 f2 : Nat) (a1 a2 : Array Value) (e1 e2 : Ending) (ob : Obj) (b : Nat) (Z : World → Prop) (w2 : World) (G : World → Prop) : Prop where
  on : ∀ wx wy, G wx → Below wx.heap.size wx wy → G wy
  one : ∀ wx, Below w2.heap.size w2 wx → Calls Tryz.prog f1 a1 wx fun e w' => e = e1 ∧ G w'
  blk : ∀ wx, G wx → wx.heap[b]? = some ob
  two : ∀ wx, G wx → Calls Tryz.prog f2 a2 wx fun e w' => e = e2 ∧ Z w' ∧ w'.heap[b]? = some ob
theorem xb_in (h : w2.heap[wr.heap.size]? = some ob) : XB wr w2 wr.heap.size := ⟨Nat.le_refl _, lt_of_block h⟩
theorem blk_below {b : Nat} (h : w.heap[b]? = some ob) (hb : Below w.heap.size w w') : w'.heap[b]? = some ob := (hb.block b (lt_of_block h)).trans h
theorem sl_low {L : Option Fil} (h : SL fs l M) (_hf : M.fs = dir1 L) (hlow : ∀ x ∈ l.ss, x < 18446744073709551616) : ∀ x ∈ fs, x.2 < 18446744073709551616 := by
  intro x hx
  obtain ⟨hns, L', hf', hok, hnone, hsome⟩ := h
  cases L' with
  | none => rw [hnone rfl] at hx; cases hx
  | some F =>
    obtain ⟨h1, -⟩ := hsome F rfl
    exact hlow _ (by rw [h1]; exact List.mem_cons_of_mem _ (List.mem_map_of_mem hx))
/-- A pair of calls over two plain answers that agree (SW): Add, Back, End. -/
theorem pair_sw {f1 f2 : Nat} {a1 a2 : Array Value} {P : Int × List Fr × Mod} {Q : Int × Lg × Mod} (hb : w2.heap[wr.heap.size]? = some ob) (hs : SW n P Q) (hn : n ≤ 2 * k + 2) (hk : kd = 1 ∨ kd = 4 ∨ kd = 5) (hl : Q.2.1.ss.length ≤ 2 * k + 4)
    (h0 : LX w0 (XB wr w2) d m r j c M M fs l w2)
    (h1 : ∀ wx, LX w0 (XB wr w2) d m r j c M M fs l wx → Calls Tryz.prog f1 a1 wx fun e w' => e = .returned (.int .i64 P.1) ∧ LX w0 (XB wr w2) d m r j c P.2.2 M P.2.1 l w' ∧ Stays (XB wr w2) wx w')
    (h2 : ∀ wx, LX w0 (XB wr w2) d m r j c P.2.2 M P.2.1 l wx → Calls Tryz.prog f2 a2 wx fun e w' => e = .returned (.int .i64 Q.1) ∧ LX w0 (XB wr w2) d m r j c P.2.2 Q.2.2 P.2.1 Q.2.1 w' ∧ Stays (XB wr w2) wx w') :
    PairOf f1 f2 a1 a2 (.returned (.int .i64 P.1)) (.returned (.int .i64 P.1)) ob wr.heap.size (EJ w0 (XB wr w2) d m r j c k kd P.1 P.2.2 P.2.1 Q.2.1) w2 (fun wx => LX w0 (XB wr w2) d m r j c P.2.2 M P.2.1 l wx ∧ wx.heap[wr.heap.size]? = some ob) := by
  refine ⟨fun wx wy h hbl => ⟨h.1.on hbl, blk_below h.2 hbl⟩, fun wx hbl => ?_, fun wx h => h.2, fun wx h => ?_⟩
  · refine (h1 wx (h0.on hbl)).mono ?_
    rintro e w' ⟨rfl, k1, k2⟩
    exact ⟨rfl, k1, k2.at (blk_below hb hbl) (xb_in hb)⟩
  · refine (h2 wx h.1).mono ?_
    rintro e w' ⟨rfl, k1, k2⟩
    exact ⟨by rw [hs.e], ej_sw hs hn hk hl k1, k2.at h.2 (xb_in hb)⟩
/-- What a round's calls want of what is so at its beginning. -/
theorem ei_facts (hE : EI w0 d m r j c k false M fs l wr) (h80 : k < 80) : ∃ L, M.fs = dir1 L ∧ lenO L ≤ 2 * k ∧ SL fs l M ∧ (∀ x ∈ l.ss, x < 18446744073709551616) ∧ fs.length < 15000 ∧ (0 ≤ M.size ln → l.ss ≠ []) ∧ (l.ns ≠ [] → l.ss.length = l.ns.length + 1) ∧ l.ns.length < 90000 ∧ l.ss.length ≤ 2 * k + 2 := by
  obtain ⟨L, h1, h2⟩ := hE.dir
  obtain ⟨-, hS, hlow⟩ := hE.logs rfl
  obtain ⟨f1, f2, f3⟩ := hS.few h1
  have hl : l.ns.length = fs.length := by rw [hS.ns, List.length_map]
  exact ⟨L, h1, h2, hS, hlow.1, by omega, f2, f3, by omega, hlow.2⟩
theorem add_ss (l : Lg) (n : Int) (s : List UInt8) (cm : Bool) (M : Mod) : (addM l n s cm M).2.1.ss.length ≤ l.ss.length + 2 := by
  have ht : (topM l M).2.1.ss.length ≤ l.ss.length + 1 := by
    unfold topM
    generalize topL = tl
    by_cases h : M.size ln < 0
    · rw [if_pos h]
      by_cases h2 : (M.write ln 0 tl).1 = 0
      · simp only [if_pos h2]
        exact Nat.le_add_left _ _
      · simp only [if_neg h2]
        exact Nat.le_succ _
    · rw [if_neg h]
      exact Nat.le_succ _
  unfold addM
  split
  · exact Nat.le_add_right _ _
  · split
    · omega
    · unfold frameM
      show (if _ then _ else _ : Lg).ss.length ≤ _
      split
      · show (_ ++ [_] : List Nat).length ≤ _
        rw [List.length_append]
        show _ + 1 ≤ _
        omega
      · omega
theorem back_ss (l : Lg) (k : Int) (M : Mod) : (backM l k M).2.1.ss.length ≤ l.ss.length := by
  unfold backM
  split
  · exact Nat.le_refl _
  · split
    · exact Nat.le_refl _
    · show (if _ then _ else _ : Lg).ss.length ≤ _
      split
      · show (l.ss.take _).length ≤ _
        rw [List.length_take]
        omega
      · exact Nat.le_refl _
theorem end_ss (l : Lg) (M : Mod) : (endM l M).2.1.ss.length ≤ l.ss.length := by
  unfold endM
  split
  · exact Nat.zero_le _
  · show (if _ then _ else _ : Lg).ss.length ≤ _
    split
    · exact Nat.zero_le _
    · exact Nat.le_refl _
theorem ex_add (hE : EI w0 d m r j c k false M fs l wr) (h80 : k < 80) (hb : Below wr.heap.size wr w2) (hx : w2.heap[wr.heap.size]? = some ob) (n : Int) (s : Bs) (cm : Bool) :
    ∃ E M' fs' l' G, PairOf 12 14 #[ptr j, .int .i64 n, .string (bs s), .bool cm] #[ptr c, .int .i64 n, .string (bs s), .bool cm] (.returned (.int .i64 E)) (.returned (.int .i64 E)) ob wr.heap.size (EJ w0 (XB wr w2) d m r j c k 1 E M' fs' l') w2 G := by
  obtain ⟨L, h1, h2, hS, hlow, g1, g2, g3, g4, g5⟩ := ei_facts hE h80
  have hs := add_same hS h1 (sl_low hS h1 hlow) hlow n s cm
  exact ⟨_, _, _, _, _, pair_sw hx hs (by omega) (Or.inl rfl) (by have := add_ss l n s cm M; omega) (lx_start (hE.logs rfl).1 hb) (fun wx h => lx_add h g1 n s cm) (fun wx h => lx_radd h g2 ⟨g4, by omega⟩ hlow n s cm)⟩
theorem ex_back (hE : EI w0 d m r j c k false M fs l wr) (h80 : k < 80) (hb : Below wr.heap.size wr w2) (hx : w2.heap[wr.heap.size]? = some ob) (n : Int) :
    ∃ E M' fs' l' G, PairOf 19 20 #[ptr j, .int .i64 n] #[ptr c, .int .i64 n] (.returned (.int .i64 E)) (.returned (.int .i64 E)) ob wr.heap.size (EJ w0 (XB wr w2) d m r j c k 4 E M' fs' l') w2 G := by
  obtain ⟨L, h1, h2, hS, hlow, g1, g2, g3, g4, g5⟩ := ei_facts hE h80
  have hs := back_same hS h1 hlow n
  exact ⟨_, _, _, _, _, pair_sw hx hs (by omega) (Or.inr (Or.inl rfl)) (by have := back_ss l n M; omega) (lx_start (hE.logs rfl).1 hb) (fun wx h => lx_back h n) (fun wx h => lx_rback h g3 n)⟩
theorem ex_end (hE : EI w0 d m r j c k false M fs l wr) (h80 : k < 80) (hb : Below wr.heap.size wr w2) (hx : w2.heap[wr.heap.size]? = some ob) :
    ∃ E M' fs' l' G, PairOf 21 22 #[ptr j] #[ptr c] (.returned (.int .i64 E)) (.returned (.int .i64 E)) ob wr.heap.size (EJ w0 (XB wr w2) d m r j c k 5 E M' fs' l') w2 G := by
  obtain ⟨L, h1, h2, hS, hlow, g1, g2, g3, g4, g5⟩ := ei_facts hE h80
  have hs := end_same hS h1 hlow
  exact ⟨_, _, _, _, _, pair_sw hx hs (by omega) (Or.inr (Or.inr rfl)) (by have := end_ss l M; omega) (lx_start (hE.logs rfl).1 hb) (fun wx h => lx_end h) (fun wx h => lx_rend h)⟩
/-- A pair of calls that leave both logs as they are: Sync, Get, Arm. -/
theorem pair_same {f1 f2 : Nat} {a1 a2 : Array Value} {e1 e2 : Ending} {M' : Mod} (hE : EI w0 d m r j c k false M fs l wr) (hb : Below wr.heap.size wr w2) (hx : w2.heap[wr.heap.size]? = some ob) (hS : SL fs l M') (hd : ∀ L, M.fs = dir1 L → ∃ L', M'.fs = dir1 L' ∧ lenO L' ≤ lenO L)
    (h1 : ∀ wx, LX w0 (XB wr w2) d m r j c M M fs l wx → Calls Tryz.prog f1 a1 wx fun e w' => e = e1 ∧ LX w0 (XB wr w2) d m r j c M' M fs l w' ∧ Stays (XB wr w2) wx w')
    (h2 : ∀ wx, LX w0 (XB wr w2) d m r j c M' M fs l wx → Calls Tryz.prog f2 a2 wx fun e w' => e = e2 ∧ LX w0 (XB wr w2) d m r j c M' M' fs l w' ∧ Stays (XB wr w2) wx w') (E : Int) :
    PairOf f1 f2 a1 a2 e1 e2 ob wr.heap.size (EJ w0 (XB wr w2) d m r j c k kd E M' fs l) w2 (fun wx => LX w0 (XB wr w2) d m r j c M' M fs l wx ∧ wx.heap[wr.heap.size]? = some ob) := by
  refine ⟨fun wx wy h hbl => ⟨h.1.on hbl, blk_below h.2 hbl⟩, fun wx hbl => ?_, fun wx h => h.2, fun wx h => ?_⟩
  · refine (h1 wx ((lx_start (hE.logs rfl).1 hb).on hbl)).mono ?_
    rintro e w' ⟨rfl, k1, k2⟩
    exact ⟨rfl, k1, k2.at (blk_below hx hbl) (xb_in hx)⟩
  · refine (h2 wx h.1).mono ?_
    rintro e w' ⟨rfl, k1, k2⟩
    exact ⟨rfl, ej_same hE hS hd k1, k2.at h.2 (xb_in hx)⟩
theorem ex_sync (hE : EI w0 d m r j c k false M fs l wr) (hb : Below wr.heap.size wr w2) (hx : w2.heap[wr.heap.size]? = some ob) :
    ∃ E M' G, PairOf 15 16 #[ptr j] #[ptr c] (.returned (.int .i64 E)) (.returned (.int .i64 E)) ob wr.heap.size (EJ w0 (XB wr w2) d m r j c k 2 E M' fs l) w2 G := by
  have hs := sync_same (hE.logs rfl).2.1
  exact ⟨_, _, _, pair_same hE hb hx hs.1 hs.2 (fun wx h => lx_sync h) (fun wx h => lx_rsync h) (syncM M).1⟩
theorem ex_get (hE : EI w0 d m r j c k false M fs l wr) (hb : Below wr.heap.size wr w2) (hx : w2.heap[wr.heap.size]? = some ob) (n : Int) (hn : Wf n) :
    ∃ (s : Bs) (is : Bool) (E : Int) (M' : Mod) (G : World → Prop), PairOf 17 18 #[ptr j, .int .i64 n] #[ptr c, .int .i64 n] (.returned (.tuple #[.string (bs s), .bool is, .int .i64 E])) (.returned (.tuple #[.string (bs s), .bool is, .int .i64 E])) ob wr.heap.size (EJ w0 (XB wr w2) d m r j c k 3 E M' fs l) w2 G := by
  have hS := (hE.logs rfl).2.1
  have hg := get_same hS n
  refine ⟨_, _, _, _, _, pair_same hE hb hx (hS.fs (getP_fs fs n M)) (fun L h => ⟨L, (getP_fs fs n M).trans h, Nat.le_refl _⟩) (fun wx h => lx_get h n hn) (fun wx h => ?_) (getP fs n M).2.2.1⟩
  have := lx_rget h n
  rw [← hg] at this
  exact this
theorem ex_arm (hE : EI w0 d m r j c k false M fs l wr) (hb : Below wr.heap.size wr w2) (hx : w2.heap[wr.heap.size]? = some ob) (a q : Int) (ha : a ≤ 9223372036854775807) :
    ∃ M' G, PairOf 23 24 #[ptr d, .int .i64 a, .int .i64 q, .int .i64 0] #[ptr r, .int .i64 a, .int .i64 q, .int .i64 0] (.returned (.tuple #[])) (.returned (.tuple #[])) ob wr.heap.size (EJ w0 (XB wr w2) d m r j c k 7 0 M' fs l) w2 G := by
  have hS := (hE.logs rfl).2.1
  exact ⟨_, _, pair_same hE hb hx (M' := M.arm a q 0) (hS.fs rfl) (fun L h => ⟨L, h, Nat.le_refl _⟩) (fun wx h => lx_arm h a q 0 ha (by decide)) (fun wx h => lx_rarm h a q 0 ha (by decide)) 0⟩
/-- A call that does nothing. -/
theorem ex_none (hE : EI w0 d m r j c k false M fs l wr) (hb : Below wr.heap.size wr w2) (kd : Int) : EJ w0 (XB wr w2) d m r j c k kd 0 M fs l w2 :=
  ej_same hE (hE.logs rfl).2.1 (fun L h => ⟨L, h, Nat.le_refl _⟩) (lx_start (hE.logs rfl).1 hb)
/-- Off and On of both disks. -/
structure WakeOf (w0 : World) (d r : Nat) (fv : Value) (ob : Obj) (b : Nat) (Z : World → Prop) (w2 : World) (G1 G2 G3 : World → Prop) : Prop where
  one : Calls Tryz.prog 25 #[ptr d] w2 fun e w' => e = .returned (.tuple #[]) ∧ G1 w'
  two : ∀ wx, G1 wx → Calls Tryz.prog 26 #[ptr r] wx fun e w' => e = .returned (.tuple #[]) ∧ G2 w'
  blk2 : ∀ wx, G2 wx → wx.heap[b]? = some ob
  three : ∀ wx, G2 wx → Calls Tryz.prog 27 #[ptr d, fv] wx fun e w' => e = .returned (.tuple #[]) ∧ G3 w'
  blk3 : ∀ wx, G3 wx → wx.heap[b]? = some ob
  four : ∀ wx, G3 wx → Calls Tryz.prog 28 #[ptr r, fv] wx fun e w' => e = .returned (.tuple #[]) ∧ Z w' ∧ w'.heap[b]? = some ob
theorem ex_wake (h : Two w0 d m r M M wr) (hb : Below wr.heap.size wr w2) (hx : w2.heap[wr.heap.size]? = some ob) {x : AcC} (hA : AcOk w0.heap.size w0 x) :
    ∃ G1 G2 G3, WakeOf w0 d r x.fv ob wr.heap.size (DX w0 (XB wr w2) d m r (M.off.on x.q) (M.off.on x.q)) w2 G1 G2 G3 := by
  refine ⟨fun wx => DX w0 (XB wr w2) d m r M.off M wx ∧ wx.heap[wr.heap.size]? = some ob, fun wx => DX w0 (XB wr w2) d m r M.off M.off wx ∧ wx.heap[wr.heap.size]? = some ob, fun wx => DX w0 (XB wr w2) d m r (M.off.on x.q) M.off wx ∧ wx.heap[wr.heap.size]? = some ob, ?_, fun wx h => ?_, fun wx h => h.2, fun wx h => ?_, fun wx h => h.2, fun wx h => ?_⟩
  · refine (dx_off (dx_start h hb)).mono ?_
    rintro e w' ⟨rfl, k1, k2⟩
    exact ⟨rfl, k1, k2.at hx (xb_in hx)⟩
  · refine (dx_roff h.1).mono ?_
    rintro e w' ⟨rfl, k1, k2⟩
    exact ⟨rfl, k1, k2.at h.2 (xb_in hx)⟩
  · have ha := hA.kept h.1.below
    refine (dx_on h.1 x.fv x.q ha.ints ha.few ha.old).mono ?_
    rintro e w' ⟨rfl, k1, k2⟩
    exact ⟨rfl, k1, k2.at h.2 (xb_in hx)⟩
  · have ha := hA.kept h.1.below
    refine (dx_ron h.1 x.fv x.q ha.ints ha.few h.1.good ha.old).mono ?_
    rintro e w' ⟨rfl, k1, k2⟩
    exact ⟨rfl, k1, k2.at h.2 (xb_in hx)⟩
/-- Open of both, beside the round's blocks. -/
def OpenFails (w0 : World) (d m r j c k : Nat) (w3 : World) : Prop :=
  ∃ (E : Int) (G : World → Prop) (M1 : Mod), E ≠ 0 ∧ (Calls Tryz.prog 10 #[ptr d] w3 fun e w' => e = .returned (.tuple #[.pointer none, .int .i64 E]) ∧ G w') ∧
    ∀ wx, G wx → Calls Tryz.prog 11 #[ptr r] wx fun e w' => ∃ p : Option Addr, e = .returned (.tuple #[.pointer p, .int .i64 E]) ∧ EI w0 d m r j c (k + 1) true M1 [] lg0 w'
def OpenGoes (w0 : World) (X : Nat → Prop) (d m r k : Nat) (kd : Int) (ob : Obj) (b : Nat) (w3 : World) : Prop :=
  ∃ (G : Nat → World → Prop) (M1 : Mod) (fs : List Fr) (l : Lg), (Calls Tryz.prog 10 #[ptr d] w3 fun e w' => ∃ j, e = .returned (.tuple #[ptr j, .int .i64 0]) ∧ G j w') ∧
    ∀ j wx, G j wx → Calls Tryz.prog 11 #[ptr r] wx fun e w' => ∃ c, e = .returned (.tuple #[ptr c, .int .i64 0]) ∧ EJ w0 X d m r j c k kd 0 M1 fs l w' ∧ w'.heap[b]? = some ob
theorem ex_open {X : Nat → Prop} {b : Nat} (h : DX w0 X d m r M M w) (hd : ∃ L, M.fs = dir1 L ∧ lenO L ≤ 2 * k) (hX : X b) (hx : w.heap[b]? = some ob) (kd : Int) : OpenFails w0 d m r j c k w ∨ OpenGoes w0 X d m r k kd ob b w := by
  have ho := dx_open h
  rcases open_ways hd with ⟨E, M1, hE, e1, e2, e3, L, e4, e5⟩ | ⟨fs, l, M1, e1, e2, hS, ⟨L, e4, e5⟩, hlow⟩
  · refine Or.inl ⟨E, fun wx => DX w0 X d m r M1 M wx, M1, hE, ?_, fun wx hw => ?_⟩
    · rw [e1] at ho
      refine ho.mono ?_
      rintro e w' ⟨rfl, k1, -⟩
      exact ⟨rfl, k1⟩
    · refine (dx_ropen hw).mono ?_
      rintro e w' ⟨p, rfl, k1, -⟩
      rw [e2]
      rw [e3] at k1
      exact ⟨p, rfl, k1.two, ⟨L, e4, by omega⟩, fun h => by cases h⟩
  · refine Or.inr ⟨fun j wx => HX w0 X d m r j M1 M fs wx ∧ wx.heap[b]? = some ob, M1, fs, l, ?_, fun j wx hw => ?_⟩
    · rw [e1] at ho
      refine ho.mono ?_
      rintro e w' ⟨j, rfl, k1, k2⟩
      exact ⟨j, rfl, k1, k2.at hx hX⟩
    · refine (hx_ropen hw.1 e2).mono ?_
      rintro e w' ⟨c, rfl, k1, k2⟩
      exact ⟨c, rfl, ⟨k1, hS.ns, ⟨L, e4, by omega⟩, fun _ => ⟨hS, hlow.next⟩⟩, k2.at hw.2 hX⟩
theorem ej_true {X : Nat → Prop} (h : EJ w0 X d m r j c k kd E M fs l w) (hv : Over kd E) : EI w0 d m r j c (k + 1) true M fs l w := by
  have := ej_next h
  rwa [decide_eq_true hv] at this
theorem ej_false {X : Nat → Prop} (h : EJ w0 X d m r j c k kd E M fs l w) (hv : ¬ Over kd E) : EI w0 d m r j c (k + 1) false M fs l w := by
  have := ej_next h
  rwa [decide_eq_false hv] at this
end Lt
end Go.Proofs.YtgmbiiocjhkpdaaGreat

/-
  LogExact's code, where its switch and its round's end lie; what makes that all is over; what follows the switch and the round.
-/
namespace Go.Proofs.YtgmbiiocjhkpdaaGreat
open Go.RowKit Go.Shelf
namespace Lt
open Lo
open Num (hid)
open Disk (Mod Fil Sees Stays)
open Mem (Bs bs LAt tI ptr blk_cell blk_free blk_new blk_set blk_other blk_alloc row_kept row_shape row_type)
/-- The block n of a code; the sequence that region n begins. -/
def findBlk (n : Nat) : Code → Option Code
  | .block k c => if k = n then some (.block k c) else findBlk n c
  | .seq a b => match findBlk n a with | some x => some x | none => findBlk n b
  | .cond _ a b => match findBlk n a with | some x => some x | none => findBlk n b
  | .loop c => findBlk n c
  | _ => none
def firstReg : Code → Option Nat
  | .region k _ _ => some k
  | .seq a _ => firstReg a
  | _ => none
def findSeq (n : Nat) : Code → Option Code
  | .block _ c => findSeq n c
  | .seq a b => if firstReg a = some n then some (.seq a b) else (match findSeq n a with | some x => some x | none => findSeq n b)
  | .cond _ a b => match findSeq n a with | some x => some x | none => findSeq n b
  | .loop c => findSeq n c
  | _ => none
def blkOf (f : Func) (n : Nat) : Option Code := match f.body with | some b => findBlk n b | none => none
def seqOf (f : Func) (n : Nat) : Option Code := match f.body with | some b => findSeq n b | none => none
theorem over0 {kd : Int} : ¬ Over kd 0 := fun h => by
  rcases h with h | ⟨h, -⟩
  · exact absurd h (by decide)
  · exact h rfl
theorem over1 {kd : Int} : ¬ Over kd 1 := fun h => by
  rcases h with h | ⟨-, h, -⟩
  · exact absurd h (by decide)
  · exact h rfl
theorem over_of {kd E : Int} (h0 : E ≠ 0) (h1 : E ≠ 1) (hk : kd = 1 ∨ kd = 4 ∨ kd = 5) : Over kd E := Or.inr ⟨h0, h1, hk⟩
theorem not_over {kd E : Int} (h : E ≠ 10) (k1 : kd ≠ 1) (k4 : kd ≠ 4) (k5 : kd ≠ 5) : ¬ Over kd E := fun ho => by
  rcases ho with e | ⟨-, -, e | e | e⟩
  · exact h e
  · exact k1 e
  · exact k4 e
  · exact k5 e
theorem skip_ways {o : Bool} {xk : Int} (h : ¬ (o = true ∧ xk ≠ 6 ∧ xk ≠ 8)) : o = true → xk = 6 ∨ xk = 8 := by
  intro ho
  by_cases h6 : xk = 6
  · exact Or.inl h6
  · exact Or.inr (Decidable.of_not_not fun h8 => h ⟨ho, h6, h8⟩)
theorem wrap_u8 (x : UInt8) : IntKind.i64.wrap (x.toNat : Int) = (x.toNat : Int) := by
  have h : x.toNat < 256 := x.toNat_lt
  have e : (x.toNat : Int) % 18446744073709551616 = (x.toNat : Int) := by omega
  have e2 : decide ((x.toNat : Int) % 18446744073709551616 ≥ 9223372036854775808) = false := decide_eq_false (by omega)
  unfold IntKind.wrap
  simp only [IntKind.signed, IntKind.bits]
  show (if (true && decide ((x.toNat : Int) % 18446744073709551616 ≥ 9223372036854775808)) = true then (x.toNat : Int) % 18446744073709551616 - 18446744073709551616 else (x.toNat : Int) % 18446744073709551616) = _
  rw [e2, e]
  rfl
theorem pages_few4 (ns : List Nat) : (pagesM ns).length ≤ 4096 := by
  unfold pagesM
  have := List.length_filter_le (fun n => ns.any fun x => x == n) (List.range 4096)
  rw [List.length_range] at this
  exact this
/-- The copied act's block. -/
abbrev obA (xk xn : Int) (xf : UInt8) (xc : Bool) (fao : Option Addr) (fn fcap : Nat) : Obj := .cells #[.int .i64 xk, .int .i64 xn, .int .u8 (xf.toNat : Int), .bool xc, .slice fao fn fcap] tAc (0, 0)
section
variable (w wr w2 : World) (d m r k : Nat) (xk : Int) (ob : Obj)
/-- Behind the switch: what follows it holds. -/
structure HKp (K : Act → World → Prop) (p0 p1 p6 p8 pa po pp pq pr ps pt pu pv pw px py pz p10 p11 p12 p13 p14 p15 p16 p17 p6u p6v p6w p6x p6y p6z p70 p71 p72 p73 p74 p75 : Value) : Prop where
  out : ∀ {p2 pe pf pg ph pi pj pk pl pm pn p18 p19 p1a p1b p1c p1d p1e p1f p1g p1h p1i p1j p1k p1l p1m p1n p1o p1p p1q p1r p1s p1t p1u p1v p1w p1x p1y p1z p20 p21 p22 p23 p24 p25 p26 p27 p28 p29 p2a p2b p2c p2d p2e p2f p2g p2h p2i p2j p2k p2l p2m p2n p2o p2p p2q p2r p2s p2t p2u p2v p2w p2x p2y p2z p30 p31 p32 p33 p34 p35 p36 p37 p38 p39 p3a p3b p3c p3d p3e p3f p3g p3h p3i p3j p3k p3l p3m p3n p3o p3p p3q p3r p3s p3t p3u p3v p3w p3x p3y p3z p40 p41 p42 p43 p44 p45 p46 p47 p48 p49 p4a p4b p4c p4d p4e p4f p4g p4h p4i p4j p4k p4l p4m p4n p4o p4p p4q p4r p4s p4t p4u p4v p4w p4x p4y p4z p50 p51 p52 p53 p54 p55 p56 p57 p58 p59 p5a p5b p5c p5d p5e p5f p5g p5h p5i p5j p5k p5l p5m p5n p5o p5p p5q p5r p5s p5t p5u p5v p5w p5x p5y p5z p60 p61 p62 p63 p64 p65 p66 p67 p68 p69 p6a p6b p6c p6d p6e p6f p6g p6h p6i p6j p6k p6l p6m p6n p6o p6p p6q p6r p6s p6t : Value} (jj' cc' : Nat) (E : Int) (wx : World), Hid (∃ M fs l, EJ w (XB wr w2) d m r jj' cc' k xk E M fs l wx) → Hid (wx.heap[wr.heap.size]? = some ob) → K { tmps := #[p0,p1,p2,ptr d,Disk.ptr r,ptr jj',p6,ptr cc',p8,Value.bool false,pa,Value.pointer (some { block := wr.heap.size, off := 0 }),Value.int IntKind.i64 E,Value.int IntKind.i64 E,pe,pf,pg,ph,pi,pj,pk,pl,pm,pn,po,pp,pq,pr,ps,pt,pu,pv,pw,px,py,pz,p10,p11,p12,p13,p14,p15,p16,p17,p18,p19,p1a,p1b,p1c,p1d,p1e,p1f,p1g,p1h,p1i,p1j,p1k,p1l,p1m,p1n,p1o,p1p,p1q,p1r,p1s,p1t,p1u,p1v,p1w,p1x,p1y,p1z,p20,p21,p22,p23,p24,p25,p26,p27,p28,p29,p2a,p2b,p2c,p2d,p2e,p2f,p2g,p2h,p2i,p2j,p2k,p2l,p2m,p2n,p2o,p2p,p2q,p2r,p2s,p2t,p2u,p2v,p2w,p2x,p2y,p2z,p30,p31,p32,p33,p34,p35,p36,p37,p38,p39,p3a,p3b,p3c,p3d,p3e,p3f,p3g,p3h,p3i,p3j,p3k,p3l,p3m,p3n,p3o,p3p,p3q,p3r,p3s,p3t,p3u,p3v,p3w,p3x,p3y,p3z,p40,p41,p42,p43,p44,p45,p46,p47,p48,p49,p4a,p4b,p4c,p4d,p4e,p4f,p4g,p4h,p4i,p4j,p4k,p4l,p4m,p4n,p4o,p4p,p4q,p4r,p4s,p4t,p4u,p4v,p4w,p4x,p4y,p4z,p50,p51,p52,p53,p54,p55,p56,p57,p58,p59,p5a,p5b,p5c,p5d,p5e,p5f,p5g,p5h,p5i,p5j,p5k,p5l,p5m,p5n,p5o,p5p,p5q,p5r,p5s,p5t,p5u,p5v,p5w,p5x,p5y,p5z,p60,p61,p62,p63,p64,p65,p66,p67,p68,p69,p6a,p6b,p6c,p6d,p6e,p6f,p6g,p6h,p6i,p6j,p6k,p6l,p6m,p6n,p6o,p6p,p6q,p6r,p6s,p6t,p6u,p6v,p6w,p6x,p6y,p6z,p70,p71,p72,p73,p74,p75], defers := [] } wx
/-- Where a round is left: a call that is left out, an opening that fails. -/
structure HFp (jj cc : Nat) (Q : Exit → Act → World → Prop) (p0 p1 p6 p8 pa po pp pq pr ps pt pu pv pw px py pz p10 p11 p12 p13 p14 p15 p16 p17 p6u p6v p6w p6x p6y p6z p70 p71 p72 p73 p74 p75 : Value) : Prop where
  out : ∀ {p2 pc pd pe pf pg ph pi pj pk pl pm pn p18 p19 p1a p1b p1c p1d p1e p1f p1g p1h p1i p1j p1k p1l p1m p1n p1o p1p p1q p1r p1s p1t p1u p1v p1w p1x p1y p1z p20 p21 p22 p23 p24 p25 p26 p27 p28 p29 p2a p2b p2c p2d p2e p2f p2g p2h p2i p2j p2k p2l p2m p2n p2o p2p p2q p2r p2s p2t p2u p2v p2w p2x p2y p2z p30 p31 p32 p33 p34 p35 p36 p37 p38 p39 p3a p3b p3c p3d p3e p3f p3g p3h p3i p3j p3k p3l p3m p3n p3o p3p p3q p3r p3s p3t p3u p3v p3w p3x p3y p3z p40 p41 p42 p43 p44 p45 p46 p47 p48 p49 p4a p4b p4c p4d p4e p4f p4g p4h p4i p4j p4k p4l p4m p4n p4o p4p p4q p4r p4s p4t p4u p4v p4w p4x p4y p4z p50 p51 p52 p53 p54 p55 p56 p57 p58 p59 p5a p5b p5c p5d p5e p5f p5g p5h p5i p5j p5k p5l p5m p5n p5o p5p p5q p5r p5s p5t p5u p5v p5w p5x p5y p5z p60 p61 p62 p63 p64 p65 p66 p67 p68 p69 p6a p6b p6c p6d p6e p6f p6g p6h p6i p6j p6k p6l p6m p6n p6o p6p p6q p6r p6s p6t : Value} (wx : World), Hid (∃ M fs l, EI w d m r jj cc (k + 1) true M fs l wx) → Q (.exit 1) { tmps := #[p0,p1,p2,ptr d,Disk.ptr r,ptr jj,p6,ptr cc,p8,Value.bool true,pa,Value.pointer (some { block := wr.heap.size, off := 0 }),pc,pd,pe,pf,pg,ph,pi,pj,pk,pl,pm,pn,po,pp,pq,pr,ps,pt,pu,pv,pw,px,py,pz,p10,p11,p12,p13,p14,p15,p16,p17,p18,p19,p1a,p1b,p1c,p1d,p1e,p1f,p1g,p1h,p1i,p1j,p1k,p1l,p1m,p1n,p1o,p1p,p1q,p1r,p1s,p1t,p1u,p1v,p1w,p1x,p1y,p1z,p20,p21,p22,p23,p24,p25,p26,p27,p28,p29,p2a,p2b,p2c,p2d,p2e,p2f,p2g,p2h,p2i,p2j,p2k,p2l,p2m,p2n,p2o,p2p,p2q,p2r,p2s,p2t,p2u,p2v,p2w,p2x,p2y,p2z,p30,p31,p32,p33,p34,p35,p36,p37,p38,p39,p3a,p3b,p3c,p3d,p3e,p3f,p3g,p3h,p3i,p3j,p3k,p3l,p3m,p3n,p3o,p3p,p3q,p3r,p3s,p3t,p3u,p3v,p3w,p3x,p3y,p3z,p40,p41,p42,p43,p44,p45,p46,p47,p48,p49,p4a,p4b,p4c,p4d,p4e,p4f,p4g,p4h,p4i,p4j,p4k,p4l,p4m,p4n,p4o,p4p,p4q,p4r,p4s,p4t,p4u,p4v,p4w,p4x,p4y,p4z,p50,p51,p52,p53,p54,p55,p56,p57,p58,p59,p5a,p5b,p5c,p5d,p5e,p5f,p5g,p5h,p5i,p5j,p5k,p5l,p5m,p5n,p5o,p5p,p5q,p5r,p5s,p5t,p5u,p5v,p5w,p5x,p5y,p5z,p60,p61,p62,p63,p64,p65,p66,p67,p68,p69,p6a,p6b,p6c,p6d,p6e,p6f,p6g,p6h,p6i,p6j,p6k,p6l,p6m,p6n,p6o,p6p,p6q,p6r,p6s,p6t,p6u,p6v,p6w,p6x,p6y,p6z,p70,p71,p72,p73,p74,p75], defers := [] } wx
/-- At a round's end, behind the calls (HEp: E is what they answered). -/
structure HEp (jj' cc' : Nat) (E : Int) (Q : Exit → Act → World → Prop) (p0 p1 p6 p8 pa pe pf pg ph pi pj pk pl pm pn po pp pq pr ps pt pu pv pw px py pz p10 p11 p12 p13 p14 p15 p16 p17 p6u p6v p6w p6x p6y p6z p70 p71 p72 p73 p74 p75 : Value) : Prop where
  out : ∀ {p2 p18 p19 p1a p1b p1c p1d p1e p1f p1g p1h p1i p1j p1k p1l p1m p1n p1o p1p p1q p1r p1s p1t p1u p1v p1w p1x p1y p1z p20 p21 p22 p23 p24 p25 p26 p27 p28 p29 p2a p2b p2c p2d p2e p2f p2g p2h p2i p2j p2k p2l p2m p2n p2o p2p p2q p2r p2s p2t p2u p2v p2w p2x p2y p2z p30 p31 p32 p33 p34 p35 p36 p37 p38 p39 p3a p3b p3c p3d p3e p3f p3g p3h p3i p3j p3k p3l p3m p3n p3o p3p p3q p3r p3s p3t p3u p3v p3w p3x p3y p3z p40 p41 p42 p43 p44 p45 p46 p47 p48 p49 p4a p4b p4c p4d p4e p4f p4g p4h p4i p4j p4k p4l p4m p4n p4o p4p p4q p4r p4s p4t p4u p4v p4w p4x p4y p4z p50 p51 p52 p53 p54 p55 p56 p57 p58 p59 p5a p5b p5c p5d p5e p5f p5g p5h p5i p5j p5k p5l p5m p5n p5o p5p p5q p5r p5s p5t p5u p5v p5w p5x p5y p5z p60 p61 p62 p63 p64 p65 p66 p67 p68 p69 p6a p6b p6c p6d p6e p6f p6g p6h p6i p6j p6k p6l p6m p6n p6o p6p p6q p6r p6s p6t : Value} (wx : World) (o' : Bool), Hid (∃ M fs l, EI w d m r jj' cc' (k + 1) o' M fs l wx) → Q .normal { tmps := #[p0,p1,p2,ptr d,Disk.ptr r,ptr jj',p6,ptr cc',p8,Value.bool o',pa,Value.pointer (some { block := wr.heap.size, off := 0 }),Value.int IntKind.i64 E,Value.int IntKind.i64 E,pe,pf,pg,ph,pi,pj,pk,pl,pm,pn,po,pp,pq,pr,ps,pt,pu,pv,pw,px,py,pz,p10,p11,p12,p13,p14,p15,p16,p17,p18,p19,p1a,p1b,p1c,p1d,p1e,p1f,p1g,p1h,p1i,p1j,p1k,p1l,p1m,p1n,p1o,p1p,p1q,p1r,p1s,p1t,p1u,p1v,p1w,p1x,p1y,p1z,p20,p21,p22,p23,p24,p25,p26,p27,p28,p29,p2a,p2b,p2c,p2d,p2e,p2f,p2g,p2h,p2i,p2j,p2k,p2l,p2m,p2n,p2o,p2p,p2q,p2r,p2s,p2t,p2u,p2v,p2w,p2x,p2y,p2z,p30,p31,p32,p33,p34,p35,p36,p37,p38,p39,p3a,p3b,p3c,p3d,p3e,p3f,p3g,p3h,p3i,p3j,p3k,p3l,p3m,p3n,p3o,p3p,p3q,p3r,p3s,p3t,p3u,p3v,p3w,p3x,p3y,p3z,p40,p41,p42,p43,p44,p45,p46,p47,p48,p49,p4a,p4b,p4c,p4d,p4e,p4f,p4g,p4h,p4i,p4j,p4k,p4l,p4m,p4n,p4o,p4p,p4q,p4r,p4s,p4t,p4u,p4v,p4w,p4x,p4y,p4z,p50,p51,p52,p53,p54,p55,p56,p57,p58,p59,p5a,p5b,p5c,p5d,p5e,p5f,p5g,p5h,p5i,p5j,p5k,p5l,p5m,p5n,p5o,p5p,p5q,p5r,p5s,p5t,p5u,p5v,p5w,p5x,p5y,p5z,p60,p61,p62,p63,p64,p65,p66,p67,p68,p69,p6a,p6b,p6c,p6d,p6e,p6f,p6g,p6h,p6i,p6j,p6k,p6l,p6m,p6n,p6o,p6p,p6q,p6r,p6s,p6t,p6u,p6v,p6w,p6x,p6y,p6z,p70,p71,p72,p73,p74,p75], defers := [] } wx
structure HOp (Q : Exit → Act → World → Prop) (p0 p1 p6 p8 pa po pp pq pr ps pt pu pv pw px py pz p10 p11 p12 p13 p14 p15 p16 p17 p6u p6v p6w p6x p6y p6z p70 p71 p72 p73 p74 p75 : Value) : Prop where
  out : ∀ {p2 pc pd pe pf pg ph pi pj pk pl pm pn p18 p19 p1a p1b p1c p1d p1e p1f p1g p1h p1i p1j p1k p1l p1m p1n p1o p1p p1q p1r p1s p1t p1u p1v p1w p1x p1y p1z p20 p21 p22 p23 p24 p25 p26 p27 p28 p29 p2a p2b p2c p2d p2e p2f p2g p2h p2i p2j p2k p2l p2m p2n p2o p2p p2q p2r p2s p2t p2u p2v p2w p2x p2y p2z p30 p31 p32 p33 p34 p35 p36 p37 p38 p39 p3a p3b p3c p3d p3e p3f p3g p3h p3i p3j p3k p3l p3m p3n p3o p3p p3q p3r p3s p3t p3u p3v p3w p3x p3y p3z p40 p41 p42 p43 p44 p45 p46 p47 p48 p49 p4a p4b p4c p4d p4e p4f p4g p4h p4i p4j p4k p4l p4m p4n p4o p4p p4q p4r p4s p4t p4u p4v p4w p4x p4y p4z p50 p51 p52 p53 p54 p55 p56 p57 p58 p59 p5a p5b p5c p5d p5e p5f p5g p5h p5i p5j p5k p5l p5m p5n p5o p5p p5q p5r p5s p5t p5u p5v p5w p5x p5y p5z p60 p61 p62 p63 p64 p65 p66 p67 p68 p69 p6a p6b p6c p6d p6e p6f p6g p6h p6i p6j p6k p6l p6m p6n p6o p6p p6q p6r p6s p6t : Value} (jj' cc' : Nat) (wx : World) (o' : Bool), Hid (∃ M fs l, EI w d m r jj' cc' (k + 1) o' M fs l wx) → Q .normal { tmps := #[p0,p1,p2,ptr d,Disk.ptr r,ptr jj',p6,ptr cc',p8,Value.bool o',pa,Value.pointer (some { block := wr.heap.size, off := 0 }),pc,pd,pe,pf,pg,ph,pi,pj,pk,pl,pm,pn,po,pp,pq,pr,ps,pt,pu,pv,pw,px,py,pz,p10,p11,p12,p13,p14,p15,p16,p17,p18,p19,p1a,p1b,p1c,p1d,p1e,p1f,p1g,p1h,p1i,p1j,p1k,p1l,p1m,p1n,p1o,p1p,p1q,p1r,p1s,p1t,p1u,p1v,p1w,p1x,p1y,p1z,p20,p21,p22,p23,p24,p25,p26,p27,p28,p29,p2a,p2b,p2c,p2d,p2e,p2f,p2g,p2h,p2i,p2j,p2k,p2l,p2m,p2n,p2o,p2p,p2q,p2r,p2s,p2t,p2u,p2v,p2w,p2x,p2y,p2z,p30,p31,p32,p33,p34,p35,p36,p37,p38,p39,p3a,p3b,p3c,p3d,p3e,p3f,p3g,p3h,p3i,p3j,p3k,p3l,p3m,p3n,p3o,p3p,p3q,p3r,p3s,p3t,p3u,p3v,p3w,p3x,p3y,p3z,p40,p41,p42,p43,p44,p45,p46,p47,p48,p49,p4a,p4b,p4c,p4d,p4e,p4f,p4g,p4h,p4i,p4j,p4k,p4l,p4m,p4n,p4o,p4p,p4q,p4r,p4s,p4t,p4u,p4v,p4w,p4x,p4y,p4z,p50,p51,p52,p53,p54,p55,p56,p57,p58,p59,p5a,p5b,p5c,p5d,p5e,p5f,p5g,p5h,p5i,p5j,p5k,p5l,p5m,p5n,p5o,p5p,p5q,p5r,p5s,p5t,p5u,p5v,p5w,p5x,p5y,p5z,p60,p61,p62,p63,p64,p65,p66,p67,p68,p69,p6a,p6b,p6c,p6d,p6e,p6f,p6g,p6h,p6i,p6j,p6k,p6l,p6m,p6n,p6o,p6p,p6q,p6r,p6s,p6t,p6u,p6v,p6w,p6x,p6y,p6z,p70,p71,p72,p73,p74,p75], defers := [] } wx
end
end Lt
end Go.Proofs.YtgmbiiocjhkpdaaGreat
