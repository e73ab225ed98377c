/-
  Put together: LogPL, LogPH, LogLw, LogAwake.
-/
import Derived.Test.YtgmbiiocjhkpdaaGreatLogPD
import Derived.Test.YtgmbiiocjhkpdaaGreatGrpLgA
import Derived.Test.YtgmbiiocjhkpdaaGreatGrpJDke
/-
  Contracts of the laws' own page, number, holds: a page of one byte; a frame's page; whether a log holds just these frames.
-/
namespace Go.Proofs.YtgmbiiocjhkpdaaGreat
open Go.RowKit Go.Shelf
namespace Lo
open Num (hid bcells)
open Jo (okB kK kN kS kD okB_iff psO nows)
open Disk (Mod Fil Sees Stays Filled fill fill_len fill_all fill_zero make_row conv_row)
open Mem (Bs bs LAt tI Chg ptr blk_cell blk_free blk_new blk_set blk_other blk_alloc row_kept row_shape row_type)
variable {O O' : Nat → Prop} {d m j b : Nat} {f f' : Value} {M M' : Mod} {fs fs' : List Fr} {w w' : World}
set_option maxRecDepth 100000 in
theorem page14_any (b : UInt8) (w : World) :
    Calls Tryz.prog 13 #[.int .u8 (b.toNat : Int)] w fun e w' => e = .returned (.string (bs (pgL b))) ∧ Below w.heap.size w w' := by
  obtain ⟨w1, hmk, hrow, hb⟩ := make_row w 232 (by omega)
  have H0 : Hid (Filled w w.heap.size 232 b 0 w1) := hid ⟨by rw [fill_zero]; exact hrow, hb⟩
  have hmk2 : (Instr.makeSlice 99 (.int .i64 232) (.int .i64 232)).run Tryz.prog w = .ok (.slice (some ⟨w.heap.size, 0, none⟩) 232 232) w1 := hmk
  clear hrow hb hmk
  go_enter Tryz.func13, Tryz.ntmps13
  go_wp2
  go_loopw [4] (fun i wr => ∃ k : Nat, k ≤ 232 ∧ i = .int .i64 k ∧ Filled w w.heap.size 232 b k wr) (fun i _ => 232 - (intOf i).toNat)
  case atStart => exact ⟨0, Nat.zero_le _, rfl, H0.out⟩
  case round =>
    obtain ⟨k, hk, rfl, hf⟩ := hrel
    have HF := hid hf
    by_cases hlt : k < 232
    · obtain ⟨x, hc, hz⟩ := hf.cell hlt
      clear hf
      go_wp2
      go_roundw
      case rel => exact ⟨k + 1, by omega, by go_num, HF.out.step hlt⟩
      case measure => simp [intOf]; omega
    · obtain rfl : k = 232 := by omega
      have hcv := conv_row (l := fill b 232 232) (by rw [fill_len b 232 232 (Nat.le_refl _)]) hf.1
      clear hf
      go_wp2
      go_ret
      exact ⟨by rw [fill_all]; rfl, HF.out.2⟩
/-- A frame as the laws are handed it. -/
structure FI where
  n : Int
  fill : UInt8
  commit : Bool
  sync : Bool
def fiV (x : FI) : List Value := [.int .i64 x.n, .int .u8 (x.fill.toNat : Int), .bool x.commit, .bool x.sync]
theorem fiV_len (x : FI) : (fiV x).length = 4 := rfl
def numOf (n : Int) : Nat := (n % 18446744073709551616).toNat % 10
theorem numOf_lt (n : Int) : numOf n < 10 := Nat.mod_lt _ (by decide)
def fm (x : FI) : Fm := (numOf x.n, x.fill, x.commit)
def fms (l : List FI) : List Fm := l.map fm
theorem fms_lt (l : List FI) : ∀ x ∈ fms l, x.1 < 4096 := by
  intro x hx
  obtain ⟨y, _, rfl⟩ := List.mem_map.1 hx
  have := numOf_lt y.n
  show numOf y.n < 4096
  omega
theorem mod10 (n : Int) : (IntKind.u64.wrap n).tmod 10 = (numOf n : Int) := by
  rw [IntKind.wrap_u64]
  have h0 : 0 ≤ n % 18446744073709551616 := Int.emod_nonneg _ (by decide)
  show Int.tmod (n % 18446744073709551616) 10 = _
  rw [Int.tmod_eq_emod_of_nonneg h0]
  unfold numOf
  omega
set_option maxRecDepth 100000 in
theorem number_any (x : FI) (w : World) :
    Calls Tryz.prog 45 #[.agg #[.int .i64 x.n, .int .u8 (x.fill.toNat : Int), .bool x.commit, .bool x.sync]] w fun e w' => e = .returned (.int .i64 (numOf x.n : Nat)) ∧ Below w.heap.size w w' := by
  have hm := mod10 x.n
  have hlt := numOf_lt x.n
  go_enter Tryz.func45, Tryz.ntmps45
  go_wp2
  go_ret
  exact ⟨rfl, (Below.refl _ _).alloc (Nat.le_refl _) _⟩
/-- What a page should be, by the first k frames. -/
def wantK (l : List FI) (n : Nat) : Nat → Bs
  | 0 => []
  | k + 1 => match l[k]? with
    | some x => if numOf x.n = n then pgL x.fill else wantK l n k
    | none => wantK l n k
theorem frs_nums : ∀ (l : List Fm), (frs l).map (·.1) = l.map (·.1) := fun l => snoc_ind (P := fun l => (frs l).map (·.1) = l.map (·.1)) rfl (fun l x h => by rw [frs_snoc, List.map_append, List.map_append, h]; rfl) _ l rfl
theorem want_is (l : List FI) (n : Nat) : ∀ k, k ≤ l.length → wantK l n k = match lastI ((fms l).map (·.1)) (n : Int) k with | none => [] | some i => match l[i]? with | some x => pgL x.fill | none => []
  | 0, _ => rfl
  | k + 1, h => by
    have hk : k < l.length := by omega
    have e : ((fms l).map (·.1)).getD k 0 = numOf l[k].n := by
      rw [List.getD_eq_getElem?_getD]
      simp [fms, fm, hk]
    unfold wantK
    rw [lastI_succ, e, List.getElem?_eq_getElem hk]
    by_cases hn : numOf l[k].n = n
    · simp only [hn, if_true]
      rw [List.getElem?_eq_getElem hk]
    · have hn2 : ¬ ((numOf l[k].n : Nat) : Int) = (n : Int) := by omega
      simp only [if_neg hn, if_neg hn2]
      exact want_is l n k (by omega)
/-- Of a calm disk that holds them: what Get answers. -/
structure SameD (M M' : Mod) : Prop where
  fs : M'.fs = M.fs
  calm : Jo.Calm M'.c
  room : M'.c.room = M.c.room
theorem get_holds {l : List FI} {M : Mod} (h : Holds (fms l) M) (n : Nat) : ∃ M', getP (frs (fms l)) n M = (wantK l n l.length, decide (wantK l n l.length ≠ []), 0, M') ∧ SameD M M' := by
  obtain ⟨hc, L, hf, hw⟩ := h
  have hl : (frs (fms l)).length = l.length := by rw [frs_len]; exact List.length_map ..
  have hw' := want_is l n l.length (Nat.le_refl _)
  rw [← frs_nums] at hw'
  cases hla : lastI ((frs (fms l)).map (·.1)) (n : Int) l.length with
  | none =>
    rw [hla] at hw'
    refine ⟨M, ?_, rfl, hc, rfl⟩
    rw [getP_none (by rw [hl]; exact hla), hw']
    rfl
  | some i =>
    rw [hla] at hw'
    obtain ⟨hi, -⟩ := lastI_some hla
    simp only [List.getElem?_eq_getElem hi] at hw'
    have hif : i < (fms l).length := by rw [show (fms l).length = l.length from List.length_map ..]; exact hi
    rcases hw with ⟨h1, _⟩ | ⟨F, rfl, hps⟩
    · rw [h1] at hif; cases hif
    · have hat := secs_at hif
      have hnow : (F.ps.map (·.now))[i + 1]? = some (some (secOf (frs ((fms l).take i)) (fms l)[i])) := by rw [hps, List.getElem?_map, hat]; rfl
      rw [List.getElem?_map] at hnow
      obtain ⟨p, hp, hpn⟩ := Option.map_eq_some_iff.1 hnow
      obtain ⟨r1, r2, r3, r4, r5⟩ := read_calm hf hc (i := i + 1) (p := p) hp
      rw [hpn] at r1 r2
      have he : (fms l)[i] = fm l[i] := by simp [fms]
      have hn4 : (fms l)[i].1 < 4096 := fms_lt l _ (List.getElem_mem hif)
      obtain ⟨s1, _, _, _, s5⟩ := frame_says (sums_lt ((fms l).take i)) hn4 (pgL_len (fms l)[i].2.1) (fms l)[i].2.2
      refine ⟨_, ?_, r3.trans hf.symm, r4, r5⟩
      rw [getP_some (by rw [hl]; exact hla)]
      have e2 : ((i : Int) + 1) = ((i + 1 : Nat) : Int) := rfl
      have r1' : (M.read ln ((i + 1 : Nat) : Int)).1 = secOf (frs ((fms l).take i)) (fms l)[i] := r1
      have r2' : (M.read ln ((i + 1 : Nat) : Int)).2.1 = 0 := r2
      have s1' : okB (secOf (frs ((fms l).take i)) (fms l)[i]) = true := s1
      have s5' : kD (secOf (frs ((fms l).take i)) (fms l)[i]) = pgL (fms l)[i].2.1 := s5
      rw [r1', r2', if_neg (fun h => h rfl), s1', if_neg (by decide), s5', hw', he]
      have hne : decide (pgL l[i].fill ≠ []) = true := by
        rw [decide_eq_true_eq]
        intro h0
        have := congrArg List.length h0
        rw [pgL_len] at this
        cases this
      rw [hne]
      rfl
theorem Holds.same {l : List Fm} {M M' : Mod} (h : Holds l M) (hs : SameD M M') : Holds l M' := by
  obtain ⟨hc, L, hf, hw⟩ := h
  exact ⟨hs.calm, L, hs.fs.trans hf, hw⟩
theorem SameD.trans {M M' M'' : Mod} (h : SameD M M') (k : SameD M' M'') : SameD M M'' := ⟨k.fs.trans h.fs, k.calm, k.room.trans h.room⟩
/-- A row of frames that is read, whatever the log's disk does. -/
def RowIn (O : Nat → Prop) (w : World) (v : Value) (l : List FI) : Prop := ∀ wr, Stays O w wr → LAt 4 fiV wr v l
theorem RowIn.on {v : Value} {l : List FI} (h : RowIn O w v l) (hs : Stays O w w') : RowIn O w' v l := fun wr hr => h wr (hs.trans hr)
theorem RowIn.len {v : Value} {l : List FI} (h : RowIn O w v l) : ∃ ao cap, v = .slice ao l.length cap ∧ l.length ≤ cap := by
  obtain ⟨ao, cap, e, _, hc, _⟩ := (h w (Disk.Stays.refl _ _)).ways
  exact ⟨ao, cap, e, hc⟩
end Lo
end Go.Proofs.YtgmbiiocjhkpdaaGreat

/-
  Contract of the laws' own holds: a log that holds just these frames.
-/
namespace Go.Proofs.YtgmbiiocjhkpdaaGreat
open Go.RowKit Go.Shelf
namespace Lo
open Num (hid)
open Jo (okB kK kN kS kD okB_iff psO nows)
open Disk (Mod Fil Sees Stays)
open Mem (Bs bs LAt tI Chg ptr blk_cell blk_free blk_new blk_set blk_other blk_alloc row_kept row_shape row_type)
variable {O O' : Nat → Prop} {d m j b : Nat} {f f' : Value} {M M' : Mod} {fs fs' : List Fr} {w w' : World}
/-- While it is asked: the log, its disk but for what asking turns. -/
structure HI (O : Nat → Prop) (d m j b : Nat) (f : Value) (M : Mod) (fs : List Fr) (w wr : World) : Prop where
  pl : ∃ M', PL O d m j b f M' fs wr ∧ SameD M M'
  st : Stays O w wr
theorem HI.on {wr wx : World} (h : HI O d m j b f M fs w wr) (hb : Below wr.heap.size wr wx) : HI O d m j b f M fs w wx := by
  obtain ⟨⟨M', h1, h2⟩, h3⟩ := h
  exact ⟨⟨M', h1.on hb, h2⟩, h3.trans (stays_of hb)⟩
theorem wantK_yes {l : List FI} {n k : Nat} (hk : k < l.length) (h : numOf l[k].n = n) : wantK l n (k + 1) = pgL l[k].fill := by
  unfold wantK
  rw [List.getElem?_eq_getElem hk]
  exact if_pos h
theorem wantK_no {l : List FI} {n k : Nat} (hk : k < l.length) (h : ¬ numOf l[k].n = n) : wantK l n (k + 1) = wantK l n k := by
  rw [wantK]
  rw [List.getElem?_eq_getElem hk]
  exact if_neg h
theorem wf_nat10 {n : Nat} (h : n < 10) : Wf (n : Int) := wf_of (by omega) (by omega)
set_option maxRecDepth 100000 in
set_option maxHeartbeats 4000000 in
theorem holds_any {l : List FI} {v : Value} (h : PL O d m j b f M (frs (fms l)) w) (hh : Holds (fms l) M) (hl : l.length ≤ 10000) (hr : RowIn O w v l) :
    Calls Tryz.prog 46 #[ptr j, v] w fun e w' => e = .returned (.bool true) ∧ HI O d m j b f M (frs (fms l)) w w' := by
  obtain ⟨ao, cap, rfl, hcap⟩ := hr.len
  have hlen := len_any h
  rw [show (frs (fms l)).length = l.length by rw [frs_len]; exact List.length_map ..] at hlen
  have HLEN := hid hlen
  have HI0 : Hid (HI O d m j b f M (frs (fms l)) w w) := hid ⟨⟨M, h, rfl, hh.1, rfl⟩, Disk.Stays.refl _ _⟩
  have HROW : Hid (∀ wr, Stays O w wr → ∀ k (hk : k < l.length), ∃ g o, ao = some ⟨g, o, none⟩ ∧ g < wr.heap.size ∧ (∀ i, i < 4 → wr.cell? ⟨g, o + k * 4 + i, none⟩ = (fiV l[k])[i]?)) := hid (fun wr hs k hk => by
    obtain ⟨ao', cap', e, _, _, hc⟩ := (hr wr hs).ways
    cases e
    obtain ⟨g, o, e1, e2, e3⟩ := hc k hk
    exact ⟨g, o, e1, e2, e3⟩)
  have HGET : Hid (∀ n M', n < 10 → SameD M M' → ∀ wr, PL O d m j b f M' (frs (fms l)) wr → Stays O w wr → Calls Tryz.prog 17 #[ptr j, .int .i64 (n : Nat)] wr fun e w' => e = .returned (.tuple #[.string (bs (wantK l n l.length)), .bool (decide (wantK l n l.length ≠ [])), .int .i64 0]) ∧ HI O d m j b f M (frs (fms l)) w w') := hid (fun n M' hn hs wr hp hst => by
    obtain ⟨M'', e, hs2⟩ := get_holds (hh.same hs) n
    have hg := get_any hp (n : Int) (wf_nat10 hn)
    rw [e] at hg
    refine hg.mono ?_
    rintro e w' ⟨rfl, h1, h2⟩
    exact ⟨rfl, ⟨M'', h1, hs.trans hs2⟩, hst.trans h2⟩)
  have HL := hid hl
  have HCP : Hid (l.length ≤ cap) := hid hcap
  obtain ⟨len, hle⟩ : ∃ len, l.length = len := ⟨_, rfl⟩
  have HLE := hid hle
  rw [hle] at HLEN
  clear hlen h hh hl hr hcap hle
  go_enter Tryz.func46, Tryz.ntmps46
  go_wp2_with fail
  refine HLEN.out.mono ?_
  rintro e w1 ⟨rfl, rfl⟩
  rw [HLE.out]
  go_wp2_with fail
  go_loopw [5] (fun nv wr => ∃ n : Nat, n ≤ 10 ∧ nv = .int .i64 n ∧ Hid (HI O d m j b f M (frs (fms l)) w wr)) (fun nv _ => 10 - (intOf nv).toNat)
  case atStart => exact ⟨0, by omega, rfl, HI0⟩
  case round =>
    obtain ⟨n, hn, rfl, HN⟩ := hrel
    by_cases hn10 : (n : Int) < 10
    · obtain ⟨w5, hw5⟩ : ∃ x, x = wr := ⟨_, rfl⟩
      subst hw5
      go_wp2_with fail
      go_loopw [6, 7] (fun sv iv wr => ∃ k : Nat, k ≤ len ∧ sv = .string (bs (wantK l n k)) ∧ iv = .int .i64 k ∧ Hid (HI O d m j b f M (frs (fms l)) w wr)) (fun _ iv _ => len - (intOf iv).toNat)
      case atStart => exact ⟨0, Nat.zero_le _, rfl, rfl, HN⟩
      case round =>
        obtain ⟨k, hk, rfl, rfl, HK⟩ := hrel
        by_cases hkl : (k : Int) < (len : Int)
        · have hkL : k < l.length := by have := HLE.out; omega
          have HLT : Hid (k < len) := hid (by omega)
          have hkc : (k : Int) < (cap : Int) := by have := HCP.out; omega
          have hkw : (k : Int) ≤ 10000 := by have := HL.out; omega
          obtain ⟨g, o, rfl, hg, hcell⟩ := HROW.out wr HK.out.st k hkL
          have q0 : wr.cell? ⟨g, o + k * 4, none⟩ = some (.int .i64 l[k].n) := hcell 0 (by decide)
          have q1 : wr.cell? ⟨g, o + k * 4 + 1, none⟩ = some (.int .u8 (l[k].fill.toNat : Int)) := hcell 1 (by decide)
          have q2 : wr.cell? ⟨g, o + k * 4 + 2, none⟩ = some (.bool l[k].commit) := hcell 2 (by decide)
          have q3 : wr.cell? ⟨g, o + k * 4 + 3, none⟩ = some (.bool l[k].sync) := hcell 3 (by decide)
          have HNUM := hid (number_any l[k])
          have HPG := hid (page14_any l[k].fill)
          have HF1 : Hid (∀ wx, Below wr.heap.size wr wx → wx.cell? ⟨g, o + k * 4 + 1, none⟩ = some (.int .u8 (l[k].fill.toNat : Int))) := hid (fun wx hx => (hx.cell (p := ⟨g, o + k * 4 + 1, none⟩) hg).trans q1)
          clear hcell
          by_cases hx : numOf l[k].n = n
          · have hW := wantK_yes hkL hx
            have hxb : ((numOf l[k].n : Int) == (n : Int)) = true := by simp; omega
            have HW := hid hW
            clear hx hW
            generalize l[k] = x at *
            go_wp2_with fail
            refine (HNUM.out _).mono ?_
            rintro e w2 ⟨rfl, hb2⟩
            have HB2 := hid hb2
            have e1 := HF1.out w2 hb2
            clear hb2 q0 q1 q2 q3
            go_wp2_with fail
            refine (HPG.out _).mono ?_
            rintro e w3 ⟨rfl, hb3⟩
            have HNX := hid ((HK.out.on HB2.out).on hb3)
            clear hb3 e1
            go_wp2
            go_roundw
            case rel => exact ⟨k + 1, HLT.out, by rw [HW.out], by go_num, HNX⟩
            case measure => exact meas_lt' HLT.out
          · have hW := wantK_no hkL hx
            have hxb : ((numOf l[k].n : Int) == (n : Int)) = false := by simp; omega
            have HW := hid hW
            clear hx hW
            generalize l[k] = x at *
            go_wp2_with fail
            refine (HNUM.out _).mono ?_
            rintro e w2 ⟨rfl, hb2⟩
            have HNX := hid (HK.out.on hb2)
            clear hb2 q0 q1 q2 q3
            go_wp2
            go_roundw
            case rel => exact ⟨k + 1, HLT.out, by rw [HW.out], by go_num, HNX⟩
            case measure => exact meas_lt' HLT.out
        · obtain rfl : k = len := by omega
          obtain ⟨⟨M', hp, hs⟩, hst⟩ := HK.out
          have hg := HGET.out n M' (by omega) hs wr hp hst
          rw [HLE.out] at hg
          obtain ⟨W, hW⟩ : ∃ W, wantK l n k = W := ⟨_, rfl⟩
          rw [hW] at hg ⊢
          have HG := hid hg
          have HLT : Hid (n < 10) := hid (by omega)
          clear hp hs hst hg hW
          by_cases hw0 : W = []
          · subst hw0
            have hne : (bs []).toList.isEmpty = true := by rw [ByteArray.toList_eq]; rfl
            go_wp2_with fail
            refine HG.out.mono ?_
            rintro e w2 ⟨rfl, h2⟩
            have H2 := hid h2
            clear h2
            go_wp2
            go_roundw
            case rel => exact ⟨n + 1, HLT.out, by go_num, H2⟩
            case measure => exact meas_lt' HLT.out
          · have hne : (bs W).toList.isEmpty = false := by
              rw [ByteArray.toList_eq]
              show W.isEmpty = false
              simpa using hw0
            have hd : decide (W ≠ []) = true := decide_eq_true hw0
            rw [hd] at HG
            generalize bs W = S at *
            clear hw0 hd
            go_wp2_with fail
            refine HG.out.mono ?_
            rintro e w2 ⟨rfl, h2⟩
            have H2 := hid h2
            clear h2
            go_wp2
            go_roundw
            case rel => exact ⟨n + 1, HLT.out, by go_num, H2⟩
            case measure => exact meas_lt' HLT.out
    · obtain rfl : n = 10 := by omega
      have HE := hid HN.out
      go_wp2
      go_ret
      exact ⟨rfl, HE.out⟩
end Lo
end Go.Proofs.YtgmbiiocjhkpdaaGreat

/-
  A log of these frames over a calm disk, for the laws: what each call leaves of it.
-/
namespace Go.Proofs.YtgmbiiocjhkpdaaGreat
open Go.RowKit Go.Shelf
namespace Lo
open Num (hid)
open Disk (Mod Fil Sees Stays arm_sees off_sees on_sees)
open Mem (Bs bs LAt iV tI Chg ptr blk_cell blk_free blk_new blk_set blk_other blk_alloc row_kept row_shape row_type)
variable {O O' : Nat → Prop} {d m j b : Nat} {f f' : Value} {M M' : Mod} {w w' : World} {l : List Fm} {A : Nat} {r : Int}
abbrev Bl (N : Nat) : Nat → Prop := fun k => k < N
theorem bl_below {N : Nat} {w w' : World} (h : Stays (Bl N) w w') (hN : N ≤ w.heap.size) : Below N w w' := Disk.Chg.below h hN (fun _ hk hx => hx hk)
theorem new_sees (n : Int) (w : World) : Calls Tryz.prog 8 #[.int .i64 n] w fun e w' => ∃ d m, e = .returned (ptr d) ∧ Sees (Bl w.heap.size) d m (Mod.new n) w' ∧ Below w.heap.size w w' := by
  refine (Disk.new_has n w).mono ?_
  rintro e w' ⟨rfl, h, hb⟩
  exact ⟨_, _, rfl, Disk.Sees.of_has h, hb⟩
/-- Fates that came in. -/
theorem ints_at {w0 w : World} {v : Value} {l : List Int} (h : LAt 1 iV w0 v l) (hb : Below w0.heap.size w0 w) : Disk.IntsAt w v l ∧ l.length ≤ maxLen ∧ ∀ b o n cap, v = .slice (some ⟨b, o, none⟩) n cap → n ≠ 0 → b < w0.heap.size := by
  obtain ⟨h1, h2⟩ := h.on hb
  refine ⟨?_, h2, ?_⟩
  · rcases h1 with h1 | ⟨b, o, cap, e, hc, hb', hj⟩
    · exact Or.inl h1
    · exact Or.inr ⟨b, o, cap, e, hb', fun k hk => by have := hj k hk 0 (by decide); simpa [iV] using this⟩
  · intro b o n cap e hn
    rcases h.1 with ⟨ao, cap', e', _⟩ | ⟨b', o', cap', e', _, hb', _⟩
    · rw [e] at e'; injection e' with _ e2; exact absurd e2 hn
    · rw [e] at e'; injection e' with e1 _; injection e1 with e1; injection e1 with e1; rw [e1]; exact hb'
/-- A log of the frames l at j over a calm disk of r sectors, of whose sectors the first A are safe. -/
structure AW (O : Nat → Prop) (d m j b : Nat) (r : Int) (l : List Fm) (A : Nat) (w : World) : Prop where
  ex : ∃ f M L, PL O d m j b f M (frs l) w ∧ M.fs = dir1 L ∧ Stands l A L ∧ Jo.Calm M.c ∧ M.c.room = r
theorem AW.on (h : AW O d m j b r l A w) (hb : Below w.heap.size w w') : AW O d m j b r l A w' := by
  obtain ⟨f, M, L, h1, h2⟩ := h.ex
  exact ⟨f, M, L, h1.on hb, h2⟩
theorem AW.start (h : PL O d m j b f M [] w) (hf : M.fs = dir1 none) (hc : Jo.Calm M.c) : AW O d m j b M.c.room [] 0 w := ⟨f, M, none, h, hf, stands_none, hc, rfl⟩
/-- The log of a new disk. -/
theorem aw_new (h : Sees O d m (Mod.new r) w) : Calls Tryz.prog 10 #[ptr d] w fun e w' => ∃ j b, e = .returned (.tuple #[ptr j, .int .i64 0]) ∧ AW O d m j b (Mod.new r).c.room [] 0 w' ∧ Stays O w w' := by
  have ho := open_any_ h
  rw [(open_none (l := []) (new_dir r) (new_calm r) rfl).1] at ho
  refine ho.mono ?_
  rintro e w' ⟨_, j, b, f, rfl, h1, h2⟩
  exact ⟨j, b, rfl, AW.start h1 (new_dir r) (new_calm r), h2⟩
theorem aw_add (h : AW O d m j b r l A w) (x : Fm) (hx : x.1 < 4096) (hl : l.length < 15000) (hr : ((l.length + 1 : Nat) : Int) < r) :
    Calls Tryz.prog 12 #[ptr j, .int .i64 (x.1 : Nat), .string (bs (pgL x.2.1)), .bool x.2.2] w fun e w' => e = .returned (.int .i64 0) ∧ AW O d m j b r (l ++ [x]) A w' ∧ Stays O w w' := by
  obtain ⟨f, M, L, h1, h2, h3, h4, h5⟩ := h.ex
  refine (add_any h1 (by rw [frs_len]; exact hl) (x.1 : Int) (pgL x.2.1) x.2.2).mono ?_
  rintro e w' ⟨rfl, f', hp, hs⟩
  have hcr : Jo.Calm M.c ∧ ((l.length + 1 : Nat) : Int) < M.c.room := ⟨h4, by rw [h5]; exact hr⟩
  rcases add_way h3 h2 x hx with ⟨e1, e2, ⟨L', e3, e4, _⟩, e5⟩ | ⟨_, e2, _⟩
  · rw [e2] at hp
    obtain ⟨e6, e7⟩ := e5 hcr
    exact ⟨by rw [e1], ⟨f', _, L', hp, e3, e4, e6, e7.trans h5⟩, hs⟩
  · exact absurd hcr e2
theorem aw_sync (h : AW O d m j b r l A w) : Calls Tryz.prog 15 #[ptr j] w fun e w' => e = .returned (.int .i64 0) ∧ (∃ A', AW O d m j b r l A' w' ∧ (l ≠ [] → A' = l.length + 1)) ∧ Stays O w w' := by
  obtain ⟨f, M, L, h1, h2, h3, h4, h5⟩ := h.ex
  refine (sync_any h1).mono ?_
  rintro e w' ⟨rfl, hp, hs⟩
  obtain ⟨e1, e2, e3, L', A', e4, e5, e6⟩ := sync_ok h3 h2 h4
  exact ⟨by rw [e1], ⟨A', ⟨f, _, L', hp, e4, e5, e2, e3.trans h5⟩, e6⟩, hs⟩
theorem aw_len (h : AW O d m j b r l A w) : Calls Tryz.prog 29 #[ptr j] w fun e w' => e = .returned (.int .i64 (l.length : Nat)) ∧ w = w' := by
  obtain ⟨f, M, L, h1, _⟩ := h.ex
  have := len_any h1
  rw [frs_len] at this
  exact this
theorem aw_get {q : List FI} (h : AW O d m j b r (fms q) A w) (n : Nat) (hn : n ≤ 4095) : Calls Tryz.prog 17 #[ptr j, .int .i64 (n : Nat)] w fun e w' => e = .returned (.tuple #[.string (bs (wantK q n q.length)), .bool (decide (wantK q n q.length ≠ [])), .int .i64 0]) ∧ AW O d m j b r (fms q) A w' ∧ Stays O w w' := by
  obtain ⟨f, M, L, h1, h2, h3, h4, h5⟩ := h.ex
  obtain ⟨M', e, hs⟩ := get_holds (h3.holds h2 h4) n
  have hg := get_any h1 (n : Int) (wf_of (by omega) (by omega))
  rw [e] at hg
  refine hg.mono ?_
  rintro e w' ⟨rfl, hp, hst⟩
  exact ⟨rfl, ⟨f, M', L, hp, hs.fs.trans h2, h3, hs.calm, hs.room.trans h5⟩, hst⟩
theorem aw_holds {q : List FI} {v : Value} (h : AW O d m j b r (fms q) A w) (hl : q.length ≤ 10000) (hr : RowIn O w v q) : Calls Tryz.prog 46 #[ptr j, v] w fun e w' => e = .returned (.bool true) ∧ AW O d m j b r (fms q) A w' ∧ Stays O w w' := by
  obtain ⟨f, M, L, h1, h2, h3, h4, h5⟩ := h.ex
  refine (holds_any h1 (h3.holds h2 h4) hl hr).mono ?_
  rintro e w' ⟨rfl, ⟨M', hp, hs⟩, hst⟩
  exact ⟨rfl, ⟨f, M', L, hp, hs.fs.trans h2, h3, hs.calm, hs.room.trans h5⟩, hst⟩
theorem aw_back (h : AW O d m j b r l 0 w) (k : Nat) (hk : k ≤ l.length) : Calls Tryz.prog 19 #[ptr j, .int .i64 (k : Nat)] w fun e w' => e = .returned (.int .i64 0) ∧ AW O d m j b r (l.take k) 0 w' ∧ Stays O w w' := by
  obtain ⟨f, M, L, h1, h2, h3, h4, h5⟩ := h.ex
  refine (back_any h1 (k : Int)).mono ?_
  rintro e w' ⟨rfl, f', hp, hs⟩
  obtain ⟨e1, e2, e3, e4, L', e5, e6⟩ := back_ok h3 h2 h4 hk
  rw [e2] at hp
  exact ⟨by rw [e1], ⟨f', _, L', hp, e5, e6, e3, e4.trans h5⟩, hs⟩
theorem aw_back_no (h : AW O d m j b r l A w) (k : Int) (hk : k < 0 ∨ (l.length : Int) < k) : Calls Tryz.prog 19 #[ptr j, .int .i64 k] w fun e w' => e = .returned (.int .i64 1) ∧ AW O d m j b r l A w' ∧ Stays O w w' := by
  obtain ⟨f, M, L, h1, h2, h3, h4, h5⟩ := h.ex
  have hb := back_any h1 k
  rw [back_arg hk] at hb
  refine hb.mono ?_
  rintro e w' ⟨rfl, f', hp, hs⟩
  exact ⟨rfl, ⟨f', M, L, hp, h2, h3, h4, h5⟩, hs⟩
/-- Open of the same disk, calm. -/
theorem aw_open (h : AW O d m j b r l A w) (hl : ∀ x ∈ l, x.1 < 4096) : Calls Tryz.prog 10 #[ptr d] w fun e w' => ∃ j' b' f' n M', e = .returned (.tuple #[ptr j', .int .i64 0]) ∧ PL O d m j' b' f' M' (frs (l.take n)) w' ∧ Found l (l.length + 1) n M' ∧ Stays O w w' := by
  obtain ⟨f, M, L, h1, h2, h3, h4, h5⟩ := h.ex
  obtain ⟨n, M', e, hF⟩ := open_holds hl (h3.holds h2 h4)
  have ho := open_any_ h1.seen
  rw [e] at ho
  refine ho.mono ?_
  rintro e w' ⟨_, j', b', f', rfl, hp, hs⟩
  exact ⟨j', b', f', n, M', rfl, hp, hF, hs⟩
end Lo
end Go.Proofs.YtgmbiiocjhkpdaaGreat

/-
  Contract of the statements' own awake: it answers true; the old memory stays.
-/
namespace Go.Proofs.YtgmbiiocjhkpdaaGreat
open Go.RowKit Go.Shelf
namespace Lo
open Num (hid)
open Disk (Mod Fil Sees Stays)
open Mem (Bs bs LAt iV tI Chg ptr blk_cell blk_free blk_new blk_set blk_other blk_alloc row_kept row_shape row_type)
def q1 : FI := ⟨3, 1, false, true⟩
def q2 : FI := ⟨4, 2, true, true⟩
def q3 : FI := ⟨3, 3, false, true⟩
theorem nums_q : numOf 3 = 3 ∧ numOf 4 = 4 := by decide
def p1 : Fm := (3, 1, false)
def p2 : Fm := (4, 2, true)
def p3 : Fm := (3, 3, false)
theorem fms_q : fms [q1, q2, q3] = [p1, p2, p3] := by decide
theorem fms_q2 : fms [q1, q2] = [p1, p2] := by decide
theorem want_q : wantK [q1, q2, q3] 3 3 = pgL 3 := by decide +kernel
theorem want_q2 : wantK [q1, q2] 3 2 = pgL 1 := by decide +kernel
theorem pg_ne (b : UInt8) : decide (pgL b ≠ []) = true := by
  rw [decide_eq_true_eq]
  intro h0
  have := congrArg List.length h0
  rw [pgL_len] at this
  cases this
theorem small_q : ∀ x ∈ [p1, p2, p3], x.1 < 4096 := by decide
theorem found_q {n : Nat} {M : Mod} (h : Found [p1, p2, p3] 4 n M) : n = 2 := by
  have h1 : n ≤ 3 := h.le
  have h2 : lastC ([p1, p2, p3].take 3) ≤ n := h.ge
  have h3 : lastC ([p1, p2, p3].take 3) = 2 := by
    show lastC (([] ++ [p1] ++ [p2]) ++ [p3]) = 2
    rw [lastC_snoc, if_neg (by decide), lastC_snoc, if_pos (by decide)]
    rfl
  rw [h3] at h2
  rcases h.last with h4 | ⟨x, h4, h5⟩
  · omega
  · by_cases h6 : n = 3
    · subst h6
      have : x = p3 := by simpa using h4.symm
      subst this
      cases h5
    · omega
theorem pages_q : pagesM ((frs [p1, p2]).map (·.1)) = [3, 4] := by
  rw [frs_nums]
  decide +kernel
theorem int_at {w : World} {base : Nat} {v : Value} {ns : List Nat} (h : w.ownsRow base tI 1 v ns.length (ns.map fun n : Nat => Value.int .i64 (n : Int))) (hn : 0 < ns.length) :
    ∃ g cap, v = .slice (some ⟨g, 0, none⟩) ns.length cap ∧ ns.length ≤ cap ∧ g < w.heap.size ∧ ∀ j (hj : j < ns.length), w.cell? ⟨g, j, none⟩ = some (.int .i64 (ns[j] : Nat)) := by
  obtain ⟨h1, h2⟩ := h
  rcases h2 with ⟨h2, h3⟩ | ⟨g, cap', cur, h2, h3, h4, h5, h6, h7, h8⟩
  · omega
  · refine ⟨g, cap', h2, by omega, lt_of_block h4, fun j hj => ?_⟩
    have hx : (cur.toList.take (ns.length * 1))[j]? = some (.int .i64 (ns[j] : Nat)) := by rw [h8]; simp [hj]
    rw [List.getElem?_take_of_lt (by omega)] at hx
    rw [blk_cell h4 j]
    simpa using hx
theorem holds_size {l : List Fm} {M : Mod} (h : Holds l M) (hl : l ≠ []) : M.size ln = ((l.length + 1 : Nat) : Int) := by
  obtain ⟨hc, L, hf, ⟨h1, _⟩ | ⟨F, rfl, hF⟩⟩ := h
  · exact absurd h1 hl
  · rw [size_l hf]
    have := congrArg List.length hF
    rw [List.length_map, List.length_map, secs_len] at this
    show ((F.ps.length : Nat) : Int) = _
    rw [this]
structure AwL (w : World) (d m j b : Nat) (l : List Fm) (A : Nat) (wr : World) : Prop where
  aw : AW (Bl w.heap.size) d m j b 100 l A wr
  below : Below w.heap.size w wr
theorem AwL.to {w wr w2 : World} {d m j b : Nat} {l l' : List Fm} {A A' : Nat} (h : AwL w d m j b l A wr) (h1 : AW (Bl w.heap.size) d m j b 100 l' A' w2) (h2 : Stays (Bl w.heap.size) wr w2) : AwL w d m j b l' A' w2 := ⟨h1, h.below.trans (bl_below h2 h.below.size)⟩
theorem AwL.on {w wr w2 : World} {d m j b : Nat} {l : List Fm} {A : Nat} (h : AwL w d m j b l A wr) (hb : Below wr.heap.size wr w2) : AwL w d m j b l A w2 := ⟨h.aw.on hb, h.below.trans (hb.mono h.below.size)⟩
set_option maxRecDepth 100000 in
set_option maxHeartbeats 8000000 in
theorem awake_any (w : World) : Calls Tryz.prog 7 #[] w fun e w' => e = .returned (.bool true) ∧ Below w.heap.size w w' := by
  go_enter Tryz.func7, Tryz.ntmps7
  go_wp2_with fail
  refine (new_sees 100 w).mono ?_
  rintro e w1 ⟨d, m, rfl, h, hb⟩
  have H1 := hid h
  have HB1 := hid hb
  clear h hb
  go_wp2_with fail
  refine (aw_new H1.out).mono ?_
  rintro e w2 ⟨j, b, rfl, h, hs⟩
  have H2 : Hid (AwL w d m j b [] 0 w2) := hid ⟨h, HB1.out.trans (bl_below hs HB1.out.size)⟩
  clear h hs H1 HB1
  have HPG : Hid (∀ (b : UInt8) (w : World), Calls Tryz.prog 13 #[.int .u8 (b.toNat : Int)] w fun e w' => e = .returned (.string (bs (pgL b))) ∧ Below w.heap.size w w') := hid page14_any
  go_wp2_with fail
  refine (HPG.out 1 _).mono ?_
  rintro e w3 ⟨rfl, hb⟩
  have H3 := hid (H2.out.on hb)
  clear hb H2
  go_wp2_with fail
  refine (aw_add H3.out.aw p1 (by decide) (by decide) (by decide)).mono ?_
  rintro e w4 ⟨rfl, h, hs⟩
  have H4 : Hid (AwL w d m j b [p1] 0 w4) := hid (H3.out.to h hs)
  clear h hs H3
  go_wp2_with fail
  refine (HPG.out 2 _).mono ?_
  rintro e w5 ⟨rfl, hb⟩
  have H5 := hid (H4.out.on hb)
  clear hb H4
  go_wp2_with fail
  refine (aw_add H5.out.aw p2 (by decide) (by decide) (by decide)).mono ?_
  rintro e w6 ⟨rfl, h, hs⟩
  have H6 : Hid (AwL w d m j b [p1, p2] 0 w6) := hid (H5.out.to h hs)
  clear h hs H5
  go_wp2_with fail
  refine (aw_sync H6.out.aw).mono ?_
  rintro e w7 ⟨rfl, ⟨A7, h, -⟩, hs⟩
  have H7 : Hid (AwL w d m j b [p1, p2] A7 w7) := hid (H6.out.to h hs)
  clear h hs H6
  go_wp2_with fail
  refine (HPG.out 3 _).mono ?_
  rintro e w8 ⟨rfl, hb⟩
  have H8 := hid (H7.out.on hb)
  clear hb H7
  go_wp2_with fail
  refine (aw_add H8.out.aw p3 (by decide) (by decide) (by decide)).mono ?_
  rintro e w9 ⟨rfl, h, hs⟩
  have H9 : Hid (AwL w d m j b (fms [q1, q2, q3]) A7 w9) := hid (by rw [fms_q]; exact H8.out.to h hs)
  clear h hs H8
  go_wp2_with fail
  refine (aw_get H9.out.aw 3 (by decide)).mono ?_
  rintro e w10 ⟨rfl, h, hs⟩
  have H10 := hid (H9.out.to h hs)
  rw [show ([q1, q2, q3] : List FI).length = 3 from rfl, want_q, pg_ne]
  clear h hs H9
  go_wp2_with fail
  refine (aw_len H10.out.aw).mono ?_
  rintro e w11 ⟨rfl, rfl⟩
  rw [fms_q] at H10 ⊢
  go_wp2_with fail
  refine (aw_open H10.out.aw small_q).mono ?_
  rintro e w12 ⟨j', b', f', n, M', rfl, hp, hF, hs⟩
  obtain rfl := found_q hF
  have HB12 := hid (H10.out.below.trans (bl_below hs H10.out.below.size))
  have HP12 : Hid (PL (Bl w.heap.size) d m j' b' f' M' (frs (fms [q1, q2])) w12) := hid (by rw [fms_q2]; exact hp)
  have HH12 : Hid (Holds (fms [q1, q2]) M') := hid (by rw [fms_q2]; exact hF.holds)
  clear hp hF hs H10
  obtain ⟨M13, e13, hs13⟩ := get_holds HH12.out 3
  have hg := get_any HP12.out ((3 : Nat) : Int) (wf_of (by decide) (by decide))
  rw [e13, show ([q1, q2] : List FI).length = 2 from rfl, want_q2, pg_ne] at hg
  have HG := hid hg
  have HS13 := hid hs13
  clear e13 hs13 hg
  go_wp2_with fail
  refine HG.out.mono ?_
  rintro e w13 ⟨rfl, hp, hs⟩
  have HP13 := hid hp
  have HB13 := hid (HB12.out.trans (bl_below hs HB12.out.size))
  clear hp hs HG
  go_wp2_with fail
  refine (pages_any HP13.out).mono ?_
  rintro e w14 ⟨v, rfl, hpg⟩
  have HP14 := hid (HP13.out.on hpg.bel)
  have HB14 := hid (HB13.out.trans (hpg.bel.mono HB13.out.size))
  have hrow := hpg.row
  rw [fms_q2, pages_q] at hrow
  obtain ⟨g, cap, rfl, hcap, hg, hcell⟩ := int_at hrow (by decide)
  have g0 : w14.cell? ⟨g, 0, none⟩ = some (.int .i64 3) := hcell 0 (by decide)
  have g1 : w14.cell? ⟨g, 1, none⟩ = some (.int .i64 4) := hcell 1 (by decide)
  have hcap2 : (1 : Int) < (cap : Int) := by have : (2 : Nat) ≤ cap := hcap; omega
  have hcap1 : (0 : Int) < (cap : Int) := by have : (2 : Nat) ≤ cap := hcap; omega
  rw [show ([3, 4] : List Nat).length = 2 from rfl]
  have HS14 : Hid (M13.size ln = 3) := hid (holds_size (HH12.out.same HS13.out) (by decide))
  have HG0 : Hid (∀ wx, Below w14.heap.size w14 wx → wx.cell? ⟨g, 0, none⟩ = some (.int .i64 3) ∧ wx.cell? ⟨g, 1, none⟩ = some (.int .i64 4)) := hid (fun wx hx => ⟨(hx.cell (p := ⟨g, 0, none⟩) hg).trans g0, (hx.cell (p := ⟨g, 1, none⟩) hg).trans g1⟩)
  clear hrow hcell hcap hg g0 g1 hpg HS13 HH12 HB12 HB13 HP12 HP13
  go_wp2_with fail
  refine (HPG.out 3 _).mono ?_
  rintro e w15 ⟨rfl, hb⟩
  have HB15 := hid hb
  clear hb
  go_wp2_with fail
  refine (len_any (HP14.out.on HB15.out)).mono ?_
  rintro e w16 ⟨rfl, rfl⟩
  rw [show (frs (fms [q1, q2])).length = 2 by rw [frs_len]; rfl]
  go_wp2_with fail
  refine (HPG.out 1 _).mono ?_
  rintro e w17 ⟨rfl, hb⟩
  have HB17 := hid (HB15.out.trans (hb.mono HB15.out.size))
  obtain ⟨k0, k1⟩ := HG0.out w17 HB17.out
  clear hb
  go_wp2_with fail
  refine (HP14.out.on HB17.out).size_.mono ?_
  rintro e w18 ⟨rfl, rfl⟩
  rw [HS14.out]
  have HEND := hid (HB14.out.trans (HB17.out.mono HB14.out.size))
  go_wp2
  go_ret
  exact ⟨rfl, HEND.out⟩
end Lo
end Go.Proofs.YtgmbiiocjhkpdaaGreat
