/-
  DiskSafe: the walk of the statement.
-/
import Derived.Test.YtfgaoopgnpigjaaDiskKeptW
import Derived.Test.YtfgaoopgnpigjaaDiskSafeN
import Derived.Laws.Strings
namespace Go.Proofs.Ytfgaoopgnpigjaa
open Go.RowKit
namespace Disk
open Num (hid bcells)

theorem acts_val {N : Nat} {w : World} {v : Value} {l : List ActM} (h : ActsAt N w v l) : ∃ ao cap, v = .slice ao l.length cap ∧ ∀ j (hj : j < l.length), ∃ b o, ao = some ⟨b, o, none⟩ ∧ b < N ∧ ∀ i, i < 6 → w.cell? ⟨b, o + j * 6 + i, none⟩ = l[j].cells[i]? := by
  rcases h.1 with ⟨ao, cap, rfl, rfl⟩ | ⟨b, o, cap, rfl, hb, hl⟩
  · exact ⟨ao, cap, rfl, fun j hj => absurd hj (Nat.not_lt_zero _)⟩
  · exact ⟨_, cap, rfl, fun j hj => ⟨b, o, rfl, hb, fun i hi => hl j hj i hi⟩⟩
theorem boolInfo : ∃ i, Try.prog.info? 4 = some i ∧ i.zero = some (.bool false) ∧ i.size = 1 ∧ i.bytes = 1 := by
  have h : (Try.prog.info? 4).map (fun i => (i.zero, i.size, i.bytes)) = some (some (.bool false), 1, 1) := by kernel_rfl
  cases e : Try.prog.info? 4 with
  | none => rw [e] at h; cases h
  | some i =>
    rw [e] at h
    simp only [Option.map_some, Option.some.injEq, Prod.mk.injEq] at h
    exact ⟨i, rfl, h.1, h.2.1, h.2.2⟩
theorem make_bools (w : World) (n : Nat) (hn : n ≤ 20000) : ∃ w', (Instr.makeSlice 58 (.int .i64 (n : Int)) (.int .i64 (n : Int))).run Try.prog w = .ok (.slice (some ⟨w.heap.size, 0, none⟩) n n) w' ∧
    w'.ownsRow w.heap.size 4 1 (.slice (some ⟨w.heap.size, 0, none⟩) n n) n (List.replicate n (.bool false)) ∧ Below w.heap.size w w' := by
  obtain ⟨i, hi, h0, h1, h2⟩ := boolInfo
  obtain ⟨w', hr, ho, hg⟩ := run_make_full (P := Try.prog) w w.heap.size 58 4 i _ 1 Try.underlying58 hi h0 h1 .i64 .i64 n (by rw [h2]; omega) (by unfold maxLen; omega) (Nat.le_refl _)
  rw [Nat.mul_one] at ho
  have e : (madeCells (Value.bool false).cells n).toList = List.replicate n (.bool false) := toList_madeCells_one _ _
  rw [e] at ho
  exact ⟨w', hr, ho, (Below.refl _ w).grown hg (Nat.le_refl _) (fun k hk => by cases hk)⟩
theorem make_strs (w : World) (n : Nat) (hn : n ≤ 20000) : ∃ w', (Instr.makeSlice 52 (.int .i64 (n : Int)) (.int .i64 (n : Int))).run Try.prog w = .ok (.slice (some ⟨w.heap.size, 0, none⟩) n n) w' ∧
    w'.ownsRow w.heap.size tStr 1 (.slice (some ⟨w.heap.size, 0, none⟩) n n) n (List.replicate n (.string ⟨#[]⟩)) ∧ Below w.heap.size w w' := by
  obtain ⟨i, hi, h0, h1, h2⟩ := strInfo
  obtain ⟨w', hr, ho, hg⟩ := run_make_full (P := Try.prog) w w.heap.size 52 tStr i _ 1 Try.underlying52 hi h0 h1 .i64 .i64 n (by rw [h2]; omega) (by unfold maxLen; omega) (Nat.le_refl _)
  rw [Nat.mul_one] at ho
  have e : (madeCells (Value.string ⟨#[]⟩).cells n).toList = List.replicate n (.string ⟨#[]⟩) := toList_madeCells_one _ _
  rw [e] at ho
  exact ⟨w', hr, ho, (Below.refl _ w).grown hg (Nat.le_refl _) (fun k hk => by cases hk)⟩
/-- A file's places: how many; each sector has its bytes. -/
theorem Sees.places {O : Nat → Prop} {d m : Nat} {M : Mod} {w : World} (h : Sees O d m M w) {n : Nam} {F : Fil} (hg : get? M.fs n = some F) : F.ps.length ≤ 16384 ∧ ∀ p ∈ F.ps, (p.now.getD zeros).length = 256 := by
  obtain ⟨tag, L, D, hL, _, _⟩ := h
  rw [← hL] at hg
  have hm := get_mem hg
  obtain ⟨e, he, h2⟩ := List.mem_map.1 hm
  obtain ⟨v, Q, hf⟩ := D.files e he
  have hF : e.2.2 = F := (Prod.mk.inj h2).2
  rw [← hF, hf.ps]
  refine ⟨by rw [List.length_map]; exact hf.len, fun p hp => ?_⟩
  obtain ⟨x, hx, rfl⟩ := List.mem_map.1 hp
  exact (hf.pls x hx).now.len
/-- A sector's bytes within the file's. -/
theorem flat_at {α : Type} (f : α → List UInt8) (c : Nat) : ∀ (l : List α) (k : Nat) (hk : k < l.length), (∀ x ∈ l, (f x).length = c) → ((l.flatMap f).drop (k * c)).take c = f l[k]
  | [], _, hk, _ => absurd hk (Nat.not_lt_zero _)
  | x :: r, 0, _, h => by
    rw [List.flatMap_cons, Nat.zero_mul, List.drop_zero, List.getElem_cons_zero, List.take_append_of_le_length (by rw [h x (List.mem_cons_self ..)]; exact Nat.le_refl _), List.take_of_length_le (by rw [h x (List.mem_cons_self ..)]; exact Nat.le_refl _)]
  | x :: r, k + 1, hk, h => by
    have hx := h x (List.mem_cons_self ..)
    have ih := flat_at f c r k (by simpa using hk) (fun y hy => h y (List.mem_cons_of_mem _ hy))
    have e : (k + 1) * c - c = k * c := by rw [Nat.succ_mul]; omega
    have e2 : c ≤ (k + 1) * c := by rw [Nat.succ_mul]; omega
    rw [List.flatMap_cons, List.getElem_cons_succ, List.drop_append, List.drop_of_length_le (by rw [hx]; exact e2), List.nil_append, hx, e]
    exact ih
theorem flat_len {α : Type} (f : α → List UInt8) (c : Nat) : ∀ (l : List α), (∀ x ∈ l, (f x).length = c) → (l.flatMap f).length = l.length * c
  | [], _ => by simp
  | x :: r, h => by
    rw [List.flatMap_cons, List.length_append, h x (List.mem_cons_self ..), flat_len f c r (fun y hy => h y (List.mem_cons_of_mem _ hy)), List.length_cons, Nat.succ_mul]
    omega
/-- torn, k places of it told. -/
def tornL (F2 : Fil) (k : Nat) : List Value := (F2.ps.take k).map (fun p => Value.bool p.now.isNone) ++ List.replicate (F2.ps.length - k) (.bool false)
theorem tornL_zero (F2 : Fil) : tornL F2 0 = List.replicate F2.ps.length (.bool false) := by simp [tornL]
theorem tornL_set (F2 : Fil) (k : Nat) (hk : k < F2.ps.length) : (tornL F2 k).set k (.bool F2.ps[k].now.isNone) = tornL F2 (k + 1) := by
  unfold tornL
  rw [take_map F2.ps _ k hk, List.set_append_right _ _ (by rw [List.length_map, List.length_take]; omega), show F2.ps.length - k = (F2.ps.length - (k + 1)) + 1 by omega, List.replicate_succ]
  have : k - ((F2.ps.take k).map (fun p => Value.bool p.now.isNone)).length = 0 := by simp; omega
  rw [this, List.set_cons_zero, List.append_assoc]
  rfl

/-- Behind k reads of loop 1. -/
structure L1 (w : World) (w1s bT : Nat) (nm : Nam) (F2 : Fil) (M : Mod) (k : Nat) (wr : World) : Prop where
  syn : Syn nm F2 M
  sees : Sees (fun j => j < w1s ∨ j = bT) (w1s + 1) w1s M wr
  below : Below w.heap.size w wr
  row : wr.ownsRow bT 4 1 (.slice (some ⟨bT, 0, none⟩) F2.ps.length F2.ps.length) F2.ps.length (tornL F2 k)
/-- Behind some writes of loop 2. -/
structure L2 (w : World) (w1s bT bN : Nat) (nm : Nam) (F2 : Fil) (R : List (List UInt8)) (M : Mod) (wr : World) : Prop where
  wri : Wri nm F2 R M
  rlen : R.length = F2.ps.length
  sees : Sees (fun j => (j < w1s ∨ j = bT) ∨ j = bN) (w1s + 1) w1s M wr
  below : Below w.heap.size w wr
  rowT : wr.ownsRow bT 4 1 (.slice (some ⟨bT, 0, none⟩) F2.ps.length F2.ps.length) F2.ps.length (tornL F2 F2.ps.length)
  rowN : wr.ownsRow bN tStr 1 (.slice (some ⟨bN, 0, none⟩) F2.ps.length F2.ps.length) F2.ps.length (R.map fun s => Value.string ⟨s.toArray⟩)
theorem tornL_at (F2 : Fil) {k : Nat} (hk : k < F2.ps.length) : (tornL F2 F2.ps.length)[k]? = some (.bool F2.ps[k].now.isNone) := by
  unfold tornL
  rw [List.take_of_length_le (Nat.le_refl _), Nat.sub_self, List.replicate_zero, List.append_nil, List.getElem?_map, List.getElem?_eq_getElem hk]
  rfl
/-- The sector's bytes in the file's. -/
theorem slice_at (F2 : Fil) (h : ∀ p ∈ F2.ps, (p.now.getD zeros).length = 256) {k : Nat} (hk : k < F2.ps.length) : (⟨F2.bytes.toArray⟩ : ByteArray).extract (k * 256) ((k + 1) * 256) = ⟨(F2.ps[k].now.getD zeros).toArray⟩ := by
  apply ByteArray.ext
  apply Array.ext'
  have e : ((⟨F2.bytes.toArray⟩ : ByteArray).extract (k * 256) ((k + 1) * 256)).data.toList = (F2.bytes.drop (k * 256)).take ((k + 1) * 256 - k * 256) := by simp [ByteArray.data_extract]
  rw [e, show (k + 1) * 256 - k * 256 = 256 by omega]
  exact flat_at (fun p : Plc => p.now.getD zeros) 256 F2.ps k hk h
theorem bytes_len (F2 : Fil) (h : ∀ p ∈ F2.ps, (p.now.getD zeros).length = 256) : (⟨F2.bytes.toArray⟩ : ByteArray).size = F2.ps.length * 256 := by
  show F2.bytes.toArray.size = _
  rw [List.size_toArray]
  exact flat_len (fun p : Plc => p.now.getD zeros) 256 F2.ps h
theorem not_empty {s : List UInt8} (h : s ≠ []) : ¬ (⟨s.toArray⟩ : ByteArray).toList = [] := fun e => by
  rw [ByteArray.toList_eq] at e
  exact h (by simpa using e)
/-- A page of a byte: a name that a walk leaves closed. -/
def pgb (b : UInt8) : ByteArray := ⟨(pageL b).toArray⟩
theorem pgb_any (b : UInt8) (w : World) : Calls Try.prog 41 #[.int .u8 (b.toNat : Int)] w fun e w' => e = .returned (.string (pgb b)) ∧ Below w.heap.size w w' := page_any b w
theorem pgb_list (b : UInt8) : (pgb b).data.toList = pageL b := by show (pageL b).toArray.toList = _; simp
theorem pgb_size (b : UInt8) : (pgb b).size ≤ maxLen := by
  show (pageL b).toArray.size ≤ maxLen
  unfold maxLen
  simp [pageL_len]
theorem mod_in (y n : Nat) (h : n ≤ 20000) (hp : 0 < n) : wrap64 ((y : Int) % (n : Int)) = ((y % n : Nat) : Int) := by
  have hlt := Nat.mod_lt y hp
  have e : (y : Int) % (n : Int) = ((y % n : Nat) : Int) := rfl
  rw [e, Num.wrap_i]
  omega
theorem u64_cases (a : Int) : ∃ n : Nat, IntKind.u64.wrap a = (n : Int) := ⟨(IntKind.u64.wrap a).toNat, by
  have : IntKind.u64.wrap a = a % 18446744073709551616 := IntKind.wrap_u64 a
  omega⟩

end Disk
namespace diskSafe
open Disk
open Num (hid)

set_option maxRecDepth 100000 in
set_option maxHeartbeats 4000000 in
theorem walk (v0 v1 v2 : Value) (l lw : List ActM) (fl : List Int) (w : World) (hA : ActsAt w.heap.size w v0 l) (hW : ActsAt w.heap.size w v1 lw) (hI : IntsAt w v2 fl) (hfl : fl.length ≤ maxLen) (hold : ∀ b o k cap, v2 = .slice (some ⟨b, o, none⟩) k cap → k ≠ 0 → b < w.heap.size) :
    Calls Try.prog 8 #[v0, v1, v2] w fun e w' => e = .returned (.bool true) ∧ Below w.heap.size w w' := by
  have HA := hid hA
  have HW := hid hW
  obtain ⟨ao1, cap1, rfl, hcw⟩ := acts_val hW
  have HCW := hid hcw
  have hl1 : lw.length ≤ maxLen := hW.2.2
  unfold maxLen at hl1
  clear hcw
  have HI := hid hI
  have HFL := hid hfl
  have HOLD := hid hold
  clear hA hW hI hfl hold
  go_enter Try.func8, Try.ntmps8
  go_wp2_with fail
  refine (awake_any _).mono ?_
  rintro e w1 ⟨rfl, B1⟩
  have A1 : ActsAt w1.heap.size w1 v0 l := (HA.out.kept B1).mono B1.size
  have HB1 := hid B1
  have HA1 := hid A1
  clear B1 A1
  go_wp2_with fail
  refine (filled_any w1 v0 l HA1.out).mono ?_
  rintro e w2 ⟨rfl, h2, hb2⟩
  have S2 := hid (Sees.of_has h2)
  have B2 := hid (HB1.out.trans (hb2.mono HB1.out.size))
  clear h2 hb2
  go_wp2_with fail
  refine (names_sees S2.out).mono ?_
  rintro e w3 ⟨v8, rfl, r8, hb3⟩
  obtain ⟨ao8, cap8, rfl, hc8⟩ := row_val r8
  have S3 := hid (S2.out.kept hb3)
  have B3 := hid (B2.out.trans (hb3.mono B2.out.size))
  have hfit := hid (Fits.filled l)
  have hcalm := hid (calm_filled l)
  have hsort := hid S2.out.sorted
  clear r8 hb3
  generalize filledM l = M at *
  by_cases h0 : M.names.length = 0
  · have hz : ((M.names.length : Int) == 0) = true := by rw [h0]; rfl
    clear hc8 h0
    go_wp2
    go_ret
    exact ⟨rfl, B3.out⟩
  · have hz : ((M.names.length : Int) == 0) = false := beq_eq_false_iff_ne.2 (by omega)
    have hpos : 0 < M.names.length := by omega
    obtain ⟨g8, e8, c8⟩ := hc8 0 hpos
    subst e8
    have hmem : M.names[0] ∈ M.fs.map (·.1) := List.getElem_mem hpos
    rw [List.getElem?_map, List.getElem?_eq_getElem hpos] at c8
    have c8' : w3.cell? ⟨g8, 0, none⟩ = some (.string ⟨M.names[0].toArray⟩) := c8
    have hsmall := name_small hfit.out hmem
    have hnl : (⟨M.names[0].toArray⟩ : ByteArray).size ≤ maxLen := by show M.names[0].toArray.size ≤ maxLen; unfold maxLen; simp; omega
    have hn : nameFit M.names[0] = true := by
      obtain ⟨e, he, h2⟩ := List.mem_map.1 hmem
      rw [← h2]
      exact hfit.out e he
    obtain ⟨F, hF⟩ := get_name hmem
    generalize M.names[0] = nm at *
    obtain ⟨hs0, hsyn⟩ := syn_start hcalm.out hsort.out hF hn
    have hsy := sync_sees S3.out ⟨nm.toArray⟩ hnl
    have hl1 : (⟨nm.toArray⟩ : ByteArray).data.toList = nm := by simp
    rw [hl1, hs0] at hsy
    clear hl1
    have HSY := hid hsy
    have HSYN := hid hsyn
    have HNL := hid hnl
    have HN := hid hn
    clear hsy hsyn hnl hn hs0 hmem hsmall hF c8 hc8 h0
    go_wp2_with fail
    refine HSY.out.mono ?_
    rintro e w4 ⟨rfl, h4, hs4⟩
    have S4 := hid h4
    have B4 := hid (B3.out.trans (hs4.below B3.out.size (fun k hk => Nat.lt_of_lt_of_le hk HB1.out.size)))
    clear h4 hs4 c8'
    generalize (M.sync nm).2 = M1 at *
    have HF2 := hid (S4.out.places HSYN.out.got)
    generalize hF2 : F.sync = F2 at *
    have HFF := hid hF2
    clear hF2
    have hl1 : (⟨nm.toArray⟩ : ByteArray).data.toList = nm := by simp
    have hsz := size_sees S4.out ⟨nm.toArray⟩ HNL.out
    rw [hl1, size_is HSYN.out.got] at hsz
    have HSZ := hid hsz
    have hby := bytes_sees S4.out ⟨nm.toArray⟩ HNL.out
    have hbs : M1.bytes (⟨nm.toArray⟩ : ByteArray).data.toList = F2.bytes := by rw [hl1]; unfold Mod.bytes; rw [HSYN.out.got]
    rw [hbs] at hby
    have HBY := hid hby
    have HL1 := hid hl1
    clear hsz hby hbs hl1
    go_wp2_with fail
    refine HSZ.out.mono ?_
    rintro e w' ⟨rfl, rfl⟩
    go_wp2_with fail
    refine HBY.out.mono ?_
    rintro e w5 ⟨rfl, hb5⟩
    obtain ⟨w6, hmk, hrow, hb6⟩ := make_bools w5 F2.ps.length (by have := HF2.out.1; omega)
    have S6 := ((S4.out.kept hb5).more hb6)
    have hlt6 := (hrow.lt w5.heap.size rfl).2
    have HL0 : Hid (L1 w w1.heap.size w5.heap.size nm F2 M1 0 w6) := hid ⟨HSYN.out, S6.fewer (fun k hk => by
      rcases hk with hk | rfl
      · exact Or.inl hk
      · exact Or.inr ⟨Nat.le_refl _, hlt6⟩), (B4.out.trans (hb5.mono B4.out.size)).trans (hb6.mono (Nat.le_trans B4.out.size hb5.size)), by rw [tornL_zero]; exact hrow⟩
    have hbT : w.heap.size ≤ w5.heap.size := Nat.le_trans B4.out.size hb5.size
    have HBT := hid hbT
    have hq := HF2.out.1
    have HMK := hid hmk
    clear hrow hb6 S6 hlt6 hb5 hbT hmk
    generalize w5.heap.size = bT at *
    have hmk := HMK.out
    go_wp2_with fail
    clear hmk
    go_loopw [13] (fun i wr => ∃ (k : Nat) (Mk : Mod), k ≤ F2.ps.length ∧ i = .int .i64 k ∧ L1 w w1.heap.size bT nm F2 Mk k wr) (fun i _ => F2.ps.length - (intOf i).toNat)
    case atStart => exact ⟨0, M1, Nat.zero_le _, rfl, HL0.out⟩
    case round =>
      obtain ⟨k, Mk, hk, rfl, hL⟩ := hrel
      have HL := hid hL
      clear hL
      by_cases hlt : k < F2.ps.length
      · obtain ⟨r1, r2, r3⟩ := HL.out.syn.read HN.out hlt
        have hl1 : (⟨nm.toArray⟩ : ByteArray).data.toList = nm := by simp
        have hrd := read_sees HL.out.sees ⟨nm.toArray⟩ HNL.out k (by omega)
        rw [hl1, r1, r2] at hrd
        have HRD := hid hrd
        have HSY2 := hid r3
        have hset := tornL_set F2 k hlt
        generalize (Mk.read nm k).2.2 = Mn at *
        clear r1 r2 r3 hrd hl1
        cases ho : F2.ps[k].now with
        | none =>
          rw [ho] at HRD hset
          have HRD2 := HRD.out
          simp only [readNow] at HRD2
          have HSET := hid hset
          have HO := hid ho
          clear hset ho HRD
          go_wp2_with fail
          with_reducible refine HRD2.mono ?_
          rintro e w7 ⟨rfl, h7, hs7⟩
          have r7 := row_stays hs7 HL.out.row (fun g hg => Or.inr (by cases hg; rfl))
          have hlen : k < (tornL F2 k).length := by unfold tornL; rw [List.length_append, List.length_map, List.length_take, List.length_replicate]; omega
          have ct : w7.cell? ⟨bT, k, none⟩ = some (tornL F2 k)[k] := (World.ownsRow.cellAt r7 k (by omega)).trans (List.getElem?_eq_getElem hlen)
          have zt : w7.frozen? ⟨bT, k, none⟩ = false := World.ownsRow.frozenAt r7 k
          have S7 := h7.set (b := bT) (i := k) (Or.inr rfl) (.bool true)
          have B7 := (HL.out.below.trans (hs7.below HL.out.below.size (fun j hj => Or.inl (Nat.lt_of_lt_of_le hj HB1.out.size)))).setCell (p := ⟨bT, k, none⟩) HBT.out (.bool true)
          have row := (World.ownsRow.stored r7 k (.bool true)).1
          have HN1 : Hid (L1 w w1.heap.size bT nm F2 Mn (k + 1) (w7.setCell ⟨bT, k, none⟩ (.bool true))) := hid ⟨HSY2.out, S7, B7, by rw [← HSET.out]; exact row⟩
          clear r7 S7 B7 row h7 hs7 HRD2
          generalize (tornL F2 k)[k] = old at ct
          clear hlen
          go_wp2
          go_roundw
          case rel => exact ⟨k + 1, Mn, by omega, by go_num, HN1.out⟩
          case measure => simp [intOf]; omega
        | some s =>
          rw [ho] at HRD hset
          have HRD2 := HRD.out
          simp only [readNow] at HRD2
          have HSET := hid hset
          have HO := hid ho
          clear hset ho HRD
          go_wp2_with fail
          with_reducible refine HRD2.mono ?_
          rintro e w7 ⟨rfl, h7, hs7⟩
          have r7 := row_stays hs7 HL.out.row (fun g hg => Or.inr (by cases hg; rfl))
          have hlen : k < (tornL F2 k).length := by unfold tornL; rw [List.length_append, List.length_map, List.length_take, List.length_replicate]; omega
          have ct : w7.cell? ⟨bT, k, none⟩ = some (tornL F2 k)[k] := (World.ownsRow.cellAt r7 k (by omega)).trans (List.getElem?_eq_getElem hlen)
          have zt : w7.frozen? ⟨bT, k, none⟩ = false := World.ownsRow.frozenAt r7 k
          have S7 := h7.set (b := bT) (i := k) (Or.inr rfl) (.bool false)
          have B7 := (HL.out.below.trans (hs7.below HL.out.below.size (fun j hj => Or.inl (Nat.lt_of_lt_of_le hj HB1.out.size)))).setCell (p := ⟨bT, k, none⟩) HBT.out (.bool false)
          have row := (World.ownsRow.stored r7 k (.bool false)).1
          have HN1 : Hid (L1 w w1.heap.size bT nm F2 Mn (k + 1) (w7.setCell ⟨bT, k, none⟩ (.bool false))) := hid ⟨HSY2.out, S7, B7, by rw [← HSET.out]; exact row⟩
          clear r7 S7 B7 row h7 hs7 HRD2
          generalize (tornL F2 k)[k] = old at ct
          clear hlen
          go_wp2
          go_roundw
          case rel => exact ⟨k + 1, Mn, by omega, by go_num, HN1.out⟩
          case measure => simp [intOf]; omega
      · obtain rfl : k = F2.ps.length := by omega
        obtain ⟨w7, hw7⟩ : ∃ x, x = wr := ⟨_, rfl⟩
        subst hw7
        obtain ⟨w8, hmk, hrow, hb8⟩ := make_strs w7 F2.ps.length (by omega)
        have hlt8 := (hrow.lt w7.heap.size rfl).2
        have hbT := (HL.out.row.lt bT rfl).2
        have HL0 : Hid (L2 w w1.heap.size bT w7.heap.size nm F2 (List.replicate F2.ps.length []) Mk w8) := hid ⟨by
            have h := HL.out.syn
            rw [← HFF.out] at h ⊢
            rw [sync_len]
            exact wri_start h, by simp, (HL.out.sees.more hb8).fewer (fun k hk => by
            rcases hk with hk | rfl
            · exact Or.inl hk
            · exact Or.inr ⟨Nat.le_refl _, hlt8⟩), HL.out.below.trans (hb8.mono HL.out.below.size), row_kept HL.out.row (Chg.of_below hb8) (F := fun _ => False) (fun _ _ h => h), by rw [List.map_replicate]; exact hrow⟩
        have HBN : Hid (w.heap.size ≤ w7.heap.size ∧ bT ≠ w7.heap.size) := hid ⟨HL.out.below.size, by omega⟩
        have HMK2 := hid hmk
        clear hrow hb8 hlt8 hbT hmk
        generalize w7.heap.size = bN at *
        have hmk := HMK2.out
        go_wp2_with fail
        clear hmk
        go_loopw [17] (fun i wr => ∃ (k : Nat) (Mq : Mod) (R : List (List UInt8)), k ≤ lw.length ∧ k ≤ 80 ∧ i = .int .i64 k ∧ L2 w w1.heap.size bT bN nm F2 R Mq wr) (fun i _ => lw.length - (intOf i).toNat)
        case atStart => exact ⟨0, Mk, _, Nat.zero_le _, by omega, rfl, HL0.out⟩
        case round =>
          obtain ⟨k, Mq, R, hk, hk80, rfl, hL2⟩ := hrel
          have HL2 := hid hL2
          clear hL2
          by_cases hgo : k < lw.length ∧ k < 80 ∧ 0 < F2.ps.length
          · obtain ⟨g1, g2, g3⟩ := hgo
            obtain ⟨b, o, e1, hbw, hcell⟩ := HCW.out k g1
            subst e1
            have q2 : wr.cell? ⟨b, o + k * 6 + 2, none⟩ = some (.int .i64 lw[k].n) := (HL2.out.below.cell (p := ⟨b, o + k * 6 + 2, none⟩) hbw).trans (hcell 2 (by decide))
            have q3 : wr.cell? ⟨b, o + k * 6 + 3, none⟩ = some (.int .u8 (lw[k].fill.toNat : Int)) := (HL2.out.below.cell (p := ⟨b, o + k * 6 + 3, none⟩) hbw).trans (hcell 3 (by decide))
            clear hcell
            generalize lw[k] = x at *
            obtain ⟨y, hy⟩ := u64_cases x.n
            have gi : 0 < (F2.ps.length : Int) := by omega
            go_wp2_with fail
            rw [mod_in y F2.ps.length (by omega) g3]
            have hqlt := Nat.mod_lt y g3
            generalize y % F2.ps.length = q at hqlt ⊢
            refine (pgb_any x.fill _).mono ?_
            rintro e w9 ⟨rfl, hb9⟩
            have hl2 : (⟨nm.toArray⟩ : ByteArray).data.toList = nm := by simp
            obtain ⟨hw0, hw1⟩ := HL2.out.wri.write HN.out hqlt (pageL_len x.fill)
            have hwr := write_sees (HL2.out.sees.kept hb9) ⟨nm.toArray⟩ HNL.out q (pgb x.fill) (pgb_size _)
            rw [hl2, pgb_list, hw0] at hwr
            have HWR := hid hwr
            have HW1 := hid hw1
            have HB9 := hid hb9
            have HQ := hid hqlt
            have hq1 : (q : Int) ≤ (F2.ps.length : Int) := by omega
            have hq2 : q < F2.ps.length := hqlt
            clear hwr hw1 hw0 hl2 hb9 hqlt q2 q3
            go_wp2_with fail
            refine HWR.out.mono ?_
            rintro e w10 ⟨rfl, h10, hs10⟩
            have rT := row_stays hs10 (row_kept HL2.out.rowT (Chg.of_below HB9.out) (F := fun _ => False) (fun _ _ h => h)) (fun g hg => Or.inl (Or.inr (by cases hg; rfl)))
            have rN := row_stays hs10 (row_kept HL2.out.rowN (Chg.of_below HB9.out) (F := fun _ => False) (fun _ _ h => h)) (fun g hg => Or.inr (by cases hg; rfl))
            have hRl : q < (R.map fun s => Value.string ⟨s.toArray⟩).length := by rw [List.length_map, HL2.out.rlen]; exact HQ.out
            have ct : w10.cell? ⟨bN, q, none⟩ = some (R.map fun s => Value.string ⟨s.toArray⟩)[q] := (World.ownsRow.cellAt rN q (by omega)).trans (List.getElem?_eq_getElem hRl)
            have zt : w10.frozen? ⟨bN, q, none⟩ = false := World.ownsRow.frozenAt rN q
            have S11 := h10.set (b := bN) (i := q) (Or.inr rfl) (.string (pgb x.fill))
            have B10 : Below w.heap.size w w10 := (HL2.out.below.trans (HB9.out.mono HL2.out.below.size)).trans (hs10.below (Nat.le_trans HL2.out.below.size HB9.out.size) (fun j hj => Or.inl (Or.inl (Nat.lt_of_lt_of_le hj HB1.out.size))))
            have B11 := B10.setCell (p := ⟨bN, q, none⟩) HBN.out.1 (.string (pgb x.fill))
            have rN2 := (World.ownsRow.stored rN q (.string (pgb x.fill))).1
            have rT2 := row_kept rT (F := fun j => j = bN) (Chg.setCell (F := fun j => j = bN) (Chg.refl _ w10) (p := ⟨bN, q, none⟩) (Or.inr rfl) (.string (pgb x.fill))) (fun g hg e => HBN.out.2 (by cases hg; exact e))
            have HN2 : Hid (L2 w w1.heap.size bT bN nm F2 (R.set q (pageL x.fill)) (Mq.write nm q (pageL x.fill)).2 (w10.setCell ⟨bN, q, none⟩ (.string (pgb x.fill)))) := hid ⟨HW1.out, by rw [List.length_set]; exact HL2.out.rlen, S11, B11, rT2, by rw [List.map_set]; exact rN2⟩
            clear rT rN S11 B10 B11 rN2 rT2 h10 hs10
            generalize (R.map fun s => Value.string ⟨s.toArray⟩)[q] = old at ct
            clear hRl
            go_wp2
            go_roundw
            case rel => exact ⟨k + 1, _, _, by omega, by omega, by go_num, HN2.out⟩
            case measure => simp [intOf]; omega
          · have hc : lw.length ≤ k ∨ (k < lw.length ∧ k = 80) ∨ (k < lw.length ∧ k < 80 ∧ F2.ps.length = 0) := by omega
            clear hgo
            refine diskRefused.or3 hc (fun g1 => ?caseA) (fun g1 => ?caseB) (fun g1 => ?caseC)
            case' caseA =>
              clear hc
              have g4 : ¬ ((k : Int) < (lw.length : Int)) := by omega
              go_wp2_with fail
              clear g1 g4
            case' caseB =>
              clear hc
              obtain ⟨g1, g2⟩ := g1
              subst g2
              go_wp2_with fail
              clear g1
            case' caseC =>
              clear hc
              obtain ⟨g1, g2, g3⟩ := g1
              have g5 : ¬ (0 < (F2.ps.length : Int)) := by omega
              clear g3
              go_wp2_with fail
              clear g1 g2 g5
            all_goals
              refine (off_sees HL2.out.sees).mono ?_
              rintro e w11 ⟨rfl, h11, hs11⟩
              have B11 : Below w.heap.size w w11 := HL2.out.below.trans (hs11.below HL2.out.below.size (fun j hj => Or.inl (Or.inl (Nat.lt_of_lt_of_le hj HB1.out.size))))
              have HON := hid (on_sees h11 v2 fl (HI.out.onOld B11 HOLD.out) HFL.out (fun b o n cap e hn => Or.inl (Or.inl (Nat.lt_of_lt_of_le (HOLD.out b o n cap e hn) HB1.out.size))))
              have HS11 := hid hs11
              have HB11 := hid B11
              clear h11 hs11 B11
              go_wp2_with fail
              refine HON.out.mono ?_
              rintro e w12 ⟨rfl, h12, hs12⟩
              have HBK := hid (HL2.out.wri.back fl)
              have RT := hid (row_stays hs12 (row_stays HS11.out HL2.out.rowT (fun g hg => Or.inl (Or.inr (by cases hg; rfl)))) (fun g hg => Or.inl (Or.inr (by cases hg; rfl))))
              have RN := hid (row_stays hs12 (row_stays HS11.out HL2.out.rowN (fun g hg => Or.inr (by cases hg; rfl))) (fun g hg => Or.inr (by cases hg; rfl)))
              have HB12 := hid (HB11.out.trans (hs12.below HB11.out.size (fun j hj => Or.inl (Or.inl (Nat.lt_of_lt_of_le hj HB1.out.size)))))
              have hl3 : (⟨nm.toArray⟩ : ByteArray).data.toList = nm := by simp
              have hsz := size_sees h12 ⟨nm.toArray⟩ HNL.out
              rw [hl3, HBK.out.size] at hsz
              have HSZ2 := hid hsz
              have S12 := hid h12
              have HRL := hid HL2.out.rlen
              clear hsz hl3 h12 hs12
              generalize Mq.off.on fl = M4 at *
              go_wp2_with fail
              refine HSZ2.out.mono ?_
              rintro e w' ⟨rfl, rfl⟩
              go_wp2_with fail
              go_loopw [20] (fun i wr => ∃ (k : Nat) (M5 : Mod), k ≤ F2.ps.length ∧ i = .int .i64 k ∧ Bck nm F2 R M5 ∧ Sees (fun j => (j < w1.heap.size ∨ j = bT) ∨ j = bN) (w1.heap.size + 1) w1.heap.size M5 wr ∧ Stays (fun j => (j < w1.heap.size ∨ j = bT) ∨ j = bN) w12 wr) (fun i _ => F2.ps.length - (intOf i).toNat)
              case atStart => exact ⟨0, M4, Nat.zero_le _, rfl, HBK.out, S12.out, Stays.refl _ _⟩
              case round =>
                obtain ⟨k, M5, hk, rfl, hb5, hS5, hSt5⟩ := hrel
                have H5 := hid hb5
                have HS5 := hid hS5
                have HT5 := hid hSt5
                clear hb5 hS5 hSt5
                by_cases hlt : k < F2.ps.length
                · obtain ⟨o, r1, r2, r3, hcase⟩ := H5.out.read HN.out hlt
                  have hl4 : (⟨nm.toArray⟩ : ByteArray).data.toList = nm := by simp
                  have hrd := read_sees HS5.out ⟨nm.toArray⟩ HNL.out k (by omega)
                  rw [hl4, r1, r2] at hrd
                  have HRD := hid hrd
                  have HR3 := hid r3
                  clear hrd hl4 r1 r2 r3
                  generalize (M5.read nm k).2.2 = M6 at *
                  have rT := row_stays HT5.out RT.out (fun g hg => Or.inl (Or.inr (by cases hg; rfl)))
                  have rN := row_stays HT5.out RN.out (fun g hg => Or.inr (by cases hg; rfl))
                  have hRk : k < R.length := by rw [HRL.out]; exact hlt
                  have bTl := (rT.lt bT rfl).2
                  have bNl := (rN.lt bN rfl).2
                  have CT := hid (fun (wx : World) (hx : Stays (fun j => (j < w1.heap.size ∨ j = bT) ∨ j = bN) wr wx) => (Chg.cell hx bTl (fun hn => hn (Or.inl (Or.inr rfl))) : wx.cell? ⟨bT, k, none⟩ = wr.cell? ⟨bT, k, none⟩).trans ((World.ownsRow.cellAt rT k (by omega)).trans (tornL_at F2 hlt)))
                  have CN := hid (fun (wx : World) (hx : Stays (fun j => (j < w1.heap.size ∨ j = bT) ∨ j = bN) wr wx) => (Chg.cell hx bNl (fun hn => hn (Or.inr rfl)) : wx.cell? ⟨bN, k, none⟩ = wr.cell? ⟨bN, k, none⟩).trans ((World.ownsRow.cellAt rN k (by omega)).trans (by rw [List.getElem?_map, List.getElem?_eq_getElem hRk]; rfl : (R.map fun s => Value.string ⟨s.toArray⟩)[k]? = some (.string ⟨R[k].toArray⟩))))
                  have hsl := slice_at F2 HF2.out.2 hlt
                  have hbl := bytes_len F2 HF2.out.2
                  have HSL := hid hsl
                  have HBL := hid hbl
                  have hcase2 : o = F2.ps[k].now ∨ R[k] ≠ [] ∧ (o = some R[k] ∨ o = none) := by
                    rcases hcase with h | ⟨_, h⟩
                    · exact Or.inl h
                    · exact Or.inr h
                  clear hcase rT rN bTl bNl hsl hbl
                  generalize R[k] = Rk at *
                  generalize F2.ps[k].now = old at *
                  clear hRk
                  have hb1 : ((k : Int) + 1) * 256 ≤ (((⟨F2.bytes.toArray⟩ : ByteArray).size : Nat) : Int) := by rw [HBL.out]; omega
                  have hb2 : 0 ≤ (k : Int) * 256 := by omega
                  have hb3 : (k : Int) * 256 ≤ ((k : Int) + 1) * 256 := by omega
                  have HC2 := hid hcase2
                  clear hcase2
                  obtain hc2 := HC2.out
                  clear HC2
                  by_cases hold2 : old = none
                  · subst hold2
                    have hc3 : o = none ∨ Rk ≠ [] ∧ o = some Rk := by
                      rcases hc2 with h | ⟨h1, h | h⟩
                      · exact Or.inl h
                      · exact Or.inr ⟨h1, h⟩
                      · exact Or.inl h
                    clear hc2
                    have HC3 := hid hc3
                    clear hc3
                    simp only [Option.isNone_none] at CT
                    rcases HC3.out with h | ⟨hne, h⟩
                    · subst h
                      have HRD2 := HRD.out
                      simp only [readNow] at HRD2
                      clear HRD HC3
                      go_wp2_with fail
                      with_reducible refine HRD2.mono ?_
                      rintro e w13 ⟨rfl, h13, hs13⟩
                      have ct := CT.out w13 hs13
                      have cn := CN.out w13 hs13
                      have HN3 : Hid (Bck nm F2 R M6 ∧ Sees (fun j => (j < w1.heap.size ∨ j = bT) ∨ j = bN) (w1.heap.size + 1) w1.heap.size M6 w13 ∧ Stays (fun j => (j < w1.heap.size ∨ j = bT) ∨ j = bN) w12 w13) := hid ⟨HR3.out, h13, HT5.out.trans hs13⟩
                      have hsl := HSL.out
                      clear h13 hs13 HRD2 CT CN
                      go_wp2
                      go_roundw
                      case rel => exact ⟨k + 1, M6, by omega, by go_num, HN3.out.1, HN3.out.2.1, HN3.out.2.2⟩
                      case measure => simp [intOf]; omega
                    · subst h
                      have HRD2 := HRD.out
                      simp only [readNow] at HRD2
                      clear HRD HC3
                      have hX := not_empty hne
                      generalize (⟨Rk.toArray⟩ : ByteArray) = X at HRD2 CN hX
                      have hX2 : X.toList.isEmpty = false := by simpa using hX
                      clear hne
                      go_wp2_with fail
                      with_reducible refine HRD2.mono ?_
                      rintro e w13 ⟨rfl, h13, hs13⟩
                      have ct := CT.out w13 hs13
                      have cn := CN.out w13 hs13
                      have HN3 : Hid (Bck nm F2 R M6 ∧ Sees (fun j => (j < w1.heap.size ∨ j = bT) ∨ j = bN) (w1.heap.size + 1) w1.heap.size M6 w13 ∧ Stays (fun j => (j < w1.heap.size ∨ j = bT) ∨ j = bN) w12 w13) := hid ⟨HR3.out, h13, HT5.out.trans hs13⟩
                      have hsl := HSL.out
                      clear h13 hs13 HRD2 CT CN
                      go_wp2
                      go_roundw
                      case rel => exact ⟨k + 1, M6, by omega, by go_num, HN3.out.1, HN3.out.2.1, HN3.out.2.2⟩
                      case measure => simp [intOf]; omega
                  · obtain ⟨s, rfl⟩ : ∃ s, old = some s := Option.ne_none_iff_exists'.1 hold2
                    clear hold2
                    have HC3 := hid hc2
                    clear hc2
                    simp only [Option.isNone_some] at CT
                    simp only [Option.getD_some] at HSL
                    rcases HC3.out with h | ⟨hne, h | h⟩
                    · subst h
                      have HRD2 := HRD.out
                      simp only [readNow] at HRD2
                      clear HRD HC3
                      generalize (⟨s.toArray⟩ : ByteArray) = Tx at HRD2 HSL
                      go_wp2_with fail
                      with_reducible refine HRD2.mono ?_
                      rintro e w13 ⟨rfl, h13, hs13⟩
                      have ct := CT.out w13 hs13
                      have cn := CN.out w13 hs13
                      have HN3 : Hid (Bck nm F2 R M6 ∧ Sees (fun j => (j < w1.heap.size ∨ j = bT) ∨ j = bN) (w1.heap.size + 1) w1.heap.size M6 w13 ∧ Stays (fun j => (j < w1.heap.size ∨ j = bT) ∨ j = bN) w12 w13) := hid ⟨HR3.out, h13, HT5.out.trans hs13⟩
                      have hsl := HSL.out
                      clear h13 hs13 HRD2 CT CN
                      go_wp2
                      go_roundw
                      case rel => exact ⟨k + 1, M6, by omega, by go_num, HN3.out.1, HN3.out.2.1, HN3.out.2.2⟩
                      case measure => simp [intOf]; omega
                    · subst h
                      have HRD2 := HRD.out
                      simp only [readNow] at HRD2
                      clear HRD HC3
                      have hX := not_empty hne
                      generalize (⟨Rk.toArray⟩ : ByteArray) = X at HRD2 CN hX
                      have hX2 : X.toList.isEmpty = false := by simpa using hX
                      clear hne
                      generalize (⟨s.toArray⟩ : ByteArray) = Tx at HSL
                      by_cases hXT : X = Tx
                      · subst hXT
                        go_wp2_with fail
                        with_reducible refine HRD2.mono ?_
                        rintro e w13 ⟨rfl, h13, hs13⟩
                        have ct := CT.out w13 hs13
                        have cn := CN.out w13 hs13
                        have HN3 : Hid (Bck nm F2 R M6 ∧ Sees (fun j => (j < w1.heap.size ∨ j = bT) ∨ j = bN) (w1.heap.size + 1) w1.heap.size M6 w13 ∧ Stays (fun j => (j < w1.heap.size ∨ j = bT) ∨ j = bN) w12 w13) := hid ⟨HR3.out, h13, HT5.out.trans hs13⟩
                        have hsl := HSL.out
                        clear h13 hs13 HRD2 CT CN
                        go_wp2
                        go_roundw
                        case rel => exact ⟨k + 1, M6, by omega, by go_num, HN3.out.1, HN3.out.2.1, HN3.out.2.2⟩
                        case measure => simp [intOf]; omega
                      · have hXT2 : (X.toList == Tx.toList) = false := by
                          have hne2 : ¬ X.toList = Tx.toList := fun h => by
                            rw [ByteArray.toList_eq, ByteArray.toList_eq] at h
                            exact hXT (ByteArray.ext (Array.ext' h))
                          simpa using hne2
                        clear hXT
                        go_wp2_with fail
                        with_reducible refine HRD2.mono ?_
                        rintro e w13 ⟨rfl, h13, hs13⟩
                        have ct := CT.out w13 hs13
                        have cn := CN.out w13 hs13
                        have HN3 : Hid (Bck nm F2 R M6 ∧ Sees (fun j => (j < w1.heap.size ∨ j = bT) ∨ j = bN) (w1.heap.size + 1) w1.heap.size M6 w13 ∧ Stays (fun j => (j < w1.heap.size ∨ j = bT) ∨ j = bN) w12 w13) := hid ⟨HR3.out, h13, HT5.out.trans hs13⟩
                        have hsl := HSL.out
                        clear h13 hs13 HRD2 CT CN
                        go_wp2
                        go_roundw
                        case rel => exact ⟨k + 1, M6, by omega, by go_num, HN3.out.1, HN3.out.2.1, HN3.out.2.2⟩
                        case measure => simp [intOf]; omega
                    · subst h
                      have HRD2 := HRD.out
                      simp only [readNow] at HRD2
                      clear HRD HC3
                      have hX := not_empty hne
                      generalize (⟨Rk.toArray⟩ : ByteArray) = X at CN hX
                      have hX2 : X.toList.isEmpty = false := by simpa using hX
                      clear hne
                      go_wp2_with fail
                      with_reducible refine HRD2.mono ?_
                      rintro e w13 ⟨rfl, h13, hs13⟩
                      have ct := CT.out w13 hs13
                      have cn := CN.out w13 hs13
                      have HN3 : Hid (Bck nm F2 R M6 ∧ Sees (fun j => (j < w1.heap.size ∨ j = bT) ∨ j = bN) (w1.heap.size + 1) w1.heap.size M6 w13 ∧ Stays (fun j => (j < w1.heap.size ∨ j = bT) ∨ j = bN) w12 w13) := hid ⟨HR3.out, h13, HT5.out.trans hs13⟩
                      have hsl := HSL.out
                      clear h13 hs13 HRD2 CT CN
                      go_wp2
                      go_roundw
                      case rel => exact ⟨k + 1, M6, by omega, by go_num, HN3.out.1, HN3.out.2.1, HN3.out.2.2⟩
                      case measure => simp [intOf]; omega
                · obtain rfl : k = F2.ps.length := by omega
                  go_wp2
                  go_ret
                  exact ⟨rfl, HB12.out.trans (HT5.out.below HB12.out.size (fun j hj => Or.inl (Or.inl (Nat.lt_of_lt_of_le hj HB1.out.size))))⟩

end diskSafe
end Go.Proofs.Ytfgaoopgnpigjaa
