/-
  Contracts of the laws' own page, number, holds: a page of one byte; a frame's page; whether a log holds just these frames.
-/
import Derived.Test.YtgmbiiocjhkpdaaGreatLogPD
import Derived.Test.YtgmbiiocjhkpdaaGreatLogCutM
import Derived.Test.YtgmbiiocjhkpdaaGreatGrpJDke
namespace Go.Proofs.YtgmbiiocjhkpdaaGreat
open Go.RowKit Go.Shelf
namespace Lo
open Num (hid bcells)
open Jo (okB kK kN kS kD okB_iff psO nows)
open Disk (Mod Fil Sees Stays Filled fill fill_len fill_all fill_zero make_row conv_row)
open Mem (Bs bs LAt tI Chg ptr blk_cell blk_free blk_new blk_set blk_other blk_alloc row_kept row_shape row_type)
variable {O O' : Nat → Prop} {d m j b : Nat} {f f' : Value} {M M' : Mod} {fs fs' : List Fr} {w w' : World}
set_option maxRecDepth 100000 in
theorem page14_any (b : UInt8) (w : World) :
    Calls Tryz.prog 13 #[.int .u8 (b.toNat : Int)] w fun e w' => e = .returned (.string (bs (pgL b))) ∧ Below w.heap.size w w' := by
  obtain ⟨w1, hmk, hrow, hb⟩ := make_row w 232 (by omega)
  have H0 : Hid (Filled w w.heap.size 232 b 0 w1) := hid ⟨by rw [fill_zero]; exact hrow, hb⟩
  have hmk2 : (Instr.makeSlice 99 (.int .i64 232) (.int .i64 232)).run Tryz.prog w = .ok (.slice (some ⟨w.heap.size, 0, none⟩) 232 232) w1 := hmk
  clear hrow hb hmk
  go_enter Tryz.func13, Tryz.ntmps13
  go_wp2
  go_loopw [4] (fun i wr => ∃ k : Nat, k ≤ 232 ∧ i = .int .i64 k ∧ Filled w w.heap.size 232 b k wr) (fun i _ => 232 - (intOf i).toNat)
  case atStart => exact ⟨0, Nat.zero_le _, rfl, H0.out⟩
  case round =>
    obtain ⟨k, hk, rfl, hf⟩ := hrel
    have HF := hid hf
    by_cases hlt : k < 232
    · obtain ⟨x, hc, hz⟩ := hf.cell hlt
      clear hf
      go_wp2
      go_roundw
      case rel => exact ⟨k + 1, by omega, by go_num, HF.out.step hlt⟩
      case measure => simp [intOf]; omega
    · obtain rfl : k = 232 := by omega
      have hcv := conv_row (l := fill b 232 232) (by rw [fill_len b 232 232 (Nat.le_refl _)]) hf.1
      clear hf
      go_wp2
      go_ret
      exact ⟨by rw [fill_all]; rfl, HF.out.2⟩
/-- A frame as the laws are handed it. -/
structure FI where
  n : Int
  fill : UInt8
  commit : Bool
  sync : Bool
def fiV (x : FI) : List Value := [.int .i64 x.n, .int .u8 (x.fill.toNat : Int), .bool x.commit, .bool x.sync]
theorem fiV_len (x : FI) : (fiV x).length = 4 := rfl
def numOf (n : Int) : Nat := (n % 18446744073709551616).toNat % 10
theorem numOf_lt (n : Int) : numOf n < 10 := Nat.mod_lt _ (by decide)
def fm (x : FI) : Fm := (numOf x.n, x.fill, x.commit)
def fms (l : List FI) : List Fm := l.map fm
theorem fms_lt (l : List FI) : ∀ x ∈ fms l, x.1 < 4096 := by
  intro x hx
  obtain ⟨y, _, rfl⟩ := List.mem_map.1 hx
  have := numOf_lt y.n
  show numOf y.n < 4096
  omega
theorem mod10 (n : Int) : (IntKind.u64.wrap n).tmod 10 = (numOf n : Int) := by
  rw [IntKind.wrap_u64]
  have h0 : 0 ≤ n % 18446744073709551616 := Int.emod_nonneg _ (by decide)
  show Int.tmod (n % 18446744073709551616) 10 = _
  rw [Int.tmod_eq_emod_of_nonneg h0]
  unfold numOf
  omega
set_option maxRecDepth 100000 in
theorem number_any (x : FI) (w : World) :
    Calls Tryz.prog 45 #[.agg #[.int .i64 x.n, .int .u8 (x.fill.toNat : Int), .bool x.commit, .bool x.sync]] w fun e w' => e = .returned (.int .i64 (numOf x.n : Nat)) ∧ Below w.heap.size w w' := by
  have hm := mod10 x.n
  have hlt := numOf_lt x.n
  go_enter Tryz.func45, Tryz.ntmps45
  go_wp2
  go_ret
  exact ⟨rfl, (Below.refl _ _).alloc (Nat.le_refl _) _⟩
/-- What a page should be, by the first k frames. -/
def wantK (l : List FI) (n : Nat) : Nat → Bs
  | 0 => []
  | k + 1 => match l[k]? with
    | some x => if numOf x.n = n then pgL x.fill else wantK l n k
    | none => wantK l n k
theorem frs_nums : ∀ (l : List Fm), (frs l).map (·.1) = l.map (·.1) := fun l => snoc_ind (P := fun l => (frs l).map (·.1) = l.map (·.1)) rfl (fun l x h => by rw [frs_snoc, List.map_append, List.map_append, h]; rfl) _ l rfl
theorem want_is (l : List FI) (n : Nat) : ∀ k, k ≤ l.length → wantK l n k = match lastI ((fms l).map (·.1)) (n : Int) k with | none => [] | some i => match l[i]? with | some x => pgL x.fill | none => []
  | 0, _ => rfl
  | k + 1, h => by
    have hk : k < l.length := by omega
    have e : ((fms l).map (·.1)).getD k 0 = numOf l[k].n := by
      rw [List.getD_eq_getElem?_getD]
      simp [fms, fm, hk]
    unfold wantK
    rw [lastI_succ, e, List.getElem?_eq_getElem hk]
    by_cases hn : numOf l[k].n = n
    · simp only [hn, if_true]
      rw [List.getElem?_eq_getElem hk]
    · have hn2 : ¬ ((numOf l[k].n : Nat) : Int) = (n : Int) := by omega
      simp only [if_neg hn, if_neg hn2]
      exact want_is l n k (by omega)
/-- Of a calm disk that holds them: what Get answers. -/
structure SameD (M M' : Mod) : Prop where
  fs : M'.fs = M.fs
  calm : Jo.Calm M'.c
  room : M'.c.room = M.c.room
theorem get_holds {l : List FI} {M : Mod} (h : Holds (fms l) M) (n : Nat) : ∃ M', getP (frs (fms l)) n M = (wantK l n l.length, decide (wantK l n l.length ≠ []), 0, M') ∧ SameD M M' := by
  obtain ⟨hc, L, hf, hw⟩ := h
  have hl : (frs (fms l)).length = l.length := by rw [frs_len]; exact List.length_map ..
  have hw' := want_is l n l.length (Nat.le_refl _)
  rw [← frs_nums] at hw'
  cases hla : lastI ((frs (fms l)).map (·.1)) (n : Int) l.length with
  | none =>
    rw [hla] at hw'
    refine ⟨M, ?_, rfl, hc, rfl⟩
    rw [getP_none (by rw [hl]; exact hla), hw']
    rfl
  | some i =>
    rw [hla] at hw'
    obtain ⟨hi, -⟩ := lastI_some hla
    simp only [List.getElem?_eq_getElem hi] at hw'
    have hif : i < (fms l).length := by rw [show (fms l).length = l.length from List.length_map ..]; exact hi
    rcases hw with ⟨h1, _⟩ | ⟨F, rfl, hps⟩
    · rw [h1] at hif; cases hif
    · have hat := secs_at hif
      have hnow : (F.ps.map (·.now))[i + 1]? = some (some (secOf (frs ((fms l).take i)) (fms l)[i])) := by rw [hps, List.getElem?_map, hat]; rfl
      rw [List.getElem?_map] at hnow
      obtain ⟨p, hp, hpn⟩ := Option.map_eq_some_iff.1 hnow
      obtain ⟨r1, r2, r3, r4, r5⟩ := read_calm hf hc (i := i + 1) (p := p) hp
      rw [hpn] at r1 r2
      have he : (fms l)[i] = fm l[i] := by simp [fms]
      have hn4 : (fms l)[i].1 < 4096 := fms_lt l _ (List.getElem_mem hif)
      obtain ⟨s1, _, _, _, s5⟩ := frame_says (sums_lt ((fms l).take i)) hn4 (pgL_len (fms l)[i].2.1) (fms l)[i].2.2
      refine ⟨_, ?_, r3.trans hf.symm, r4, r5⟩
      rw [getP_some (by rw [hl]; exact hla)]
      have e2 : ((i : Int) + 1) = ((i + 1 : Nat) : Int) := rfl
      have r1' : (M.read ln ((i + 1 : Nat) : Int)).1 = secOf (frs ((fms l).take i)) (fms l)[i] := r1
      have r2' : (M.read ln ((i + 1 : Nat) : Int)).2.1 = 0 := r2
      have s1' : okB (secOf (frs ((fms l).take i)) (fms l)[i]) = true := s1
      have s5' : kD (secOf (frs ((fms l).take i)) (fms l)[i]) = pgL (fms l)[i].2.1 := s5
      rw [r1', r2', if_neg (fun h => h rfl), s1', if_neg (by decide), s5', hw', he]
      have hne : decide (pgL l[i].fill ≠ []) = true := by
        rw [decide_eq_true_eq]
        intro h0
        have := congrArg List.length h0
        rw [pgL_len] at this
        cases this
      rw [hne]
      rfl
theorem Holds.same {l : List Fm} {M M' : Mod} (h : Holds l M) (hs : SameD M M') : Holds l M' := by
  obtain ⟨hc, L, hf, hw⟩ := h
  exact ⟨hs.calm, L, hs.fs.trans hf, hw⟩
theorem SameD.trans {M M' M'' : Mod} (h : SameD M M') (k : SameD M' M'') : SameD M M'' := ⟨k.fs.trans h.fs, k.calm, k.room.trans h.room⟩
/-- A row of frames that is read, whatever the log's disk does. -/
def RowIn (O : Nat → Prop) (w : World) (v : Value) (l : List FI) : Prop := ∀ wr, Stays O w wr → LAt 4 fiV wr v l
theorem RowIn.on {v : Value} {l : List FI} (h : RowIn O w v l) (hs : Stays O w w') : RowIn O w' v l := fun wr hr => h wr (hs.trans hr)
theorem RowIn.len {v : Value} {l : List FI} (h : RowIn O w v l) : ∃ ao cap, v = .slice ao l.length cap ∧ l.length ≤ cap := by
  obtain ⟨ao, cap, e, _, hc, _⟩ := (h w (Disk.Stays.refl _ _)).ways
  exact ⟨ao, cap, e, hc⟩
end Lo
end Go.Proofs.YtgmbiiocjhkpdaaGreat
