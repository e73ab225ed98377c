/-
  Contract of the project's disk: Load.
-/
import Derived.Test.YtgmbiiocjhkpdaaGreatDiskBytes
import Derived.Deep.RegionLaw
namespace Go.Proofs.YtgmbiiocjhkpdaaGreat
open Go.RowKit
namespace Disk
open Num (hid bcells)

/-- 'append' as one step of a region that draws its order, where its run is known by an equation. -/
theorem step_append_run {P : Program} {ops : Array Oper} {o : Oper} {a : Act} {w : World} {K : Act → World → Prop} {Q : Exit → Act → World → Prop} {E : Prop} (hgd : o.guard = none) (d s : Operand) (t t' : TypeId)
    (ho : o.op = .call { callee := .builtin .append, args := #[d, s], argTypes := #[t, t'] }) (v u : Value) (hd : a.eval d = v) (hs : a.eval s = u) {v' : Value} {w' : World}
    (hr : (Builtin.append_ #[t, t'] o.type #[v, u]).run P w = .ok v' w') (h : K (a.put o.dst v') w') : if Region.wanted o (yielded ops a.tmps) = true then Oper.wp P o a w K Q else E := by
  have hw : Region.wanted o (yielded ops a.tmps) = true := by simp [Region.wanted, hgd]
  rw [if_pos hw]
  unfold Oper.wp execOp
  simp only [ho, resolve, invoke, builtin, Sem.run_bind, Sem.run_pure, Result.andThen_ok, List.map_toArray, List.map_cons, List.map_nil, hd, hs, hr]
  exact h

set_option maxRecDepth 100000 in
theorem holds_blk (a b : Nat) (x y z : Value) (w : World) (h : w.heap[a]? = some (.cells #[x, y, z] tPlace (0, 0))) :
    Calls Tryz.prog 113 #[ptr a, ptr b] w fun e w' => e = .returned (.tuple #[]) ∧ w'.heap[a]? = some (.cells #[ptr b, ptr b, .bool false] tPlace (0, 0)) ∧ Chg (· = a) w w' := by
  have c0 : w.cell? ⟨a, 0, none⟩ = some x := blk_cell h 0
  have c1 : w.cell? ⟨a, 0 + 1, none⟩ = some y := blk_cell h 1
  have c2 : w.cell? ⟨a, 0 + 2, none⟩ = some z := blk_cell h 2
  refine (holds_any a 0 b x y z w c0 c1 c2 (blk_free h _) (blk_free h _) (blk_free h _)).mono ?_
  rintro e w' ⟨rfl, rfl⟩
  exact ⟨rfl, blk_set (blk_set (blk_set h 0 (ptr b)) 1 (ptr b)) 2 (.bool false), (((Chg.refl _ w).root 0 _).root 1 _).root 2 _⟩

/-- The first k sectors are there. -/
def LoadAt (tag : Nat → Tag) (w : World) (n : Nam) (l : List UInt8) (k : Nat) (wr : World) : Prop :=
  ∃ tag' v Q, FileAt tag' wr n w.heap.size ⟨(loadedF l).ps.take k, true⟩ v Q ∧ (∀ i, i < w.heap.size → tag' i = tag i) ∧ Below w.heap.size w wr ∧ ∀ g, v.ownBlock = some g → w.heap.size ≤ g
theorem loaded_len (l : List UInt8) : (loadedF l).ps.length = (l.length + 255) / 256 := by simp [loadedF]
theorem loaded_get (l : List UInt8) (k : Nat) (hk : k < (loadedF l).ps.length) : (loadedF l).ps[k] = ⟨some (fitted (l.drop (k * 256))), some (some (fitted (l.drop (k * 256)))), false⟩ := by simp [loadedF]

/-- A round, behind its last store. -/
theorem load_step {tag : Nat → Tag} {w wr w5 w6 : World} {n : Nam} {l : List UInt8} {k : Nat} {tag' : Nat → Tag} {v : Value} {Q : Pls} (h : FileAt tag' wr n w.heap.size ⟨(loadedF l).ps.take k, true⟩ v Q) (ht : ∀ i, i < w.heap.size → tag' i = tag i) (hb : Below w.heap.size w wr) (hrg : ∀ g, v.ownBlock = some g → w.heap.size ≤ g)
    (hk : k < (loadedF l).ps.length) (hl : (loadedF l).ps.length ≤ 16384) {b : Nat} (hbw : wr.heap.size ≤ b)
    (hsec : w5.heap[b]? = some (.cells (secCells (some (fitted (l.drop (k * 256))))) tSector (0, 0))) (hc5 : Chg (fun _ => False) wr w5) {v' : Value}
    (hrow : w6.ownsRow 0 tPlace 3 v' (Q.length + 1) (Pls.cells Q ++ [ptr b, ptr b, .bool false])) (hg : w5.grownBy w6 v.ownBlock) (hw : ∀ g, v'.ownBlock = some g → v.ownBlock = some g ∨ w5.heap.size ≤ g) :
    LoadAt tag w n l (k + 1) (w6.setCell ⟨w.heap.size, 0, none⟩ v') := by
  have hf := lt_of_block h.blk
  have hb5 := lt_of_block hsec
  have hvf : v.ownBlock ≠ some w.heap.size := fun e => by have h1 := h.tagb; rw [h.tagr _ e] at h1; cases h1
  have hvr : ∀ g, v.ownBlock = some g → g < wr.heap.size := fun g e => (h.row.lt g e).2
  have hs5 := hc5.size
  have hs6 := hg.size
  have hgr6 : ∀ g, v'.ownBlock = some g → g < w6.heap.size := fun g e => (hrow.lt g e).2
  let T : Nat → Tag := fun i => if i = b then .sec else if v'.ownBlock = some i then .row n else tag' i
  have hTb : T b = .sec := by simp [T]
  have hbv : ∀ g, v'.ownBlock = some g → g ≠ b := by
    rintro g e rfl
    rcases hw g e with e2 | e2
    · have := hvr g e2; omega
    · omega
  have hTr : ∀ g, v'.ownBlock = some g → T g = .row n := by
    intro g e
    simp only [T, if_neg (hbv g e), if_pos e]
  have hTo : ∀ i, i < wr.heap.size → T i = tag' i := by
    intro i hi
    have h1 : i ≠ b := by omega
    by_cases e : v'.ownBlock = some i
    · rw [hTr i e]
      rcases hw i e with e2 | e2
      · exact (h.tagr i e2).symm
      · omega
    · simp only [T, if_neg h1, if_neg e]
  have hF : ∀ i, (v.ownBlock = some i ∨ i = w.heap.size) → tag' i ≠ .sec := by
    rintro i (e | rfl) e2
    · rw [h.tagr i e] at e2; cases e2
    · rw [h.tagb] at e2; cases e2
  have hc6 : Chg (fun i => v.ownBlock = some i ∨ i = w.heap.size) wr (w6.setCell ⟨w.heap.size, 0, none⟩ v') :=
    Chg.setCell (F := fun i => v.ownBlock = some i ∨ i = w.heap.size) ((hc5.mono (fun _ _ h => h.elim)).grown hg (fun j hj => Or.inr (Or.inl hj))) (p := ⟨w.heap.size, 0, none⟩) (Or.inr (Or.inr rfl)) v'
  have hblk6 : w6.heap[w.heap.size]? = some (.cells #[v, .bool true] tFile (0, 0)) := (hg.block _ (by omega) (fun e => hvf e.symm)).trans (hc5.at h.blk (fun h => h))
  have hvne : v'.ownBlock ≠ some w.heap.size := by
    intro e
    rcases hw _ e with e2 | e2
    · exact hvf e2
    · omega
  have hsec6 : (w6.setCell ⟨w.heap.size, 0, none⟩ v').heap[b]? = some (.cells (secCells (some (fitted (l.drop (k * 256))))) tSector (0, 0)) :=
    blk_other (p := ⟨w.heap.size, 0, none⟩) ((hg.block b hb5 (fun e => by have := hvr b e.symm; omega)).trans hsec) (show b ≠ w.heap.size by omega) _
  have hS : SecAt T (w6.setCell ⟨w.heap.size, 0, none⟩ v') b (some (fitted (l.drop (k * 256)))) := ⟨hTb, fitted_len _, hsec6⟩
  have hQl : Q.length = k := by
    have := congrArg List.length h.ps
    simp only [List.length_take, List.length_map] at this
    omega
  refine ⟨T, v', Q ++ [(⟨b, some b, false⟩, ⟨some (fitted (l.drop (k * 256))), some (some (fitted (l.drop (k * 256)))), false⟩)], ⟨blk_set hblk6 0 v', ?_, ?_, hTr, ?_, ?_, ?_⟩, fun i hi => (hTo i (by omega)).trans (ht i hi), ?_, ?_⟩
  · rw [hTo _ hf]; exact h.tagb
  · rw [List.length_append, Pls.cells_append]
    exact ownsRow_setCell_other hrow hvne _
  · intro x hx
    rcases List.mem_append.1 hx with hx | hx
    · exact (h.pls x hx).kept hc6 hTo hF
    · rw [List.mem_singleton.1 hx]
      exact ⟨hS, hS, rfl⟩
  · show (loadedF l).ps.take (k + 1) = _
    rw [List.take_succ_eq_append_getElem hk, List.map_append, loaded_get l k hk]
    have := h.ps
    simp only at this
    rw [this]; rfl
  · rw [List.length_append, hQl]; show k + 1 ≤ 16384; omega
  · refine ⟨hc6.os.trans hb.os, hc6.tape.trans hb.tape, hc6.output.trans hb.output, Nat.le_trans hb.size hc6.size, fun i hi => (hc6.block i (Nat.lt_of_lt_of_le hi hb.size) ?_).trans (hb.block i hi)⟩
    rintro (e | rfl)
    · have := hrg i e
      omega
    · omega

  · intro g e
    rcases hw g e with e2 | e2
    · exact hrg g e2
    · omega

theorem extract_drop (s : ByteArray) (a : Nat) : (s.extract a s.size).data.toList = s.data.toList.drop a := by
  have h : s.size = s.data.toList.length := rfl
  rw [ByteArray.data_extract, Array.toList_extract, List.extract_eq_take_drop, List.take_of_length_le (by rw [List.length_drop]; omega)]

/-- What a round has before its region. -/
theorem load_ready {tag : Nat → Tag} {w wr w2 : World} {n : Nam} {l : List UInt8} {k : Nat} {tag' : Nat → Tag} {v : Value} {Q : Pls} (h : FileAt tag' wr n w.heap.size ⟨(loadedF l).ps.take k, true⟩ v Q) (ht : ∀ i, i < w.heap.size → tag' i = tag i) (hb : Below w.heap.size w wr)
    (hrg : ∀ g, v.ownBlock = some g → w.heap.size ≤ g) (hk : k < (loadedF l).ps.length) (hl : (loadedF l).ps.length ≤ 16384)
    (hblk : w2.heap[wr.heap.size]? = some (.cells #[ptr (wr.heap.size + 1), ptr (wr.heap.size + 1), .bool false] tPlace (0, 0)))
    (hc : Chg (· = wr.heap.size) ((wr.alloc (.cells #[.pointer none, .pointer none, .bool false] tPlace)).alloc (.cells (secCells (some (fitted (l.drop (k * 256))))) tSector)) w2) :
    ∃ (g nn cap : Nat) (w6 : World), (Builtin.append_ #[tPlaces, tPlaces] tPlaces #[v, .slice (some ⟨w2.heap.size, 0, none⟩) 1 1]).run Tryz.prog (w2.drew.alloc (.cells #[ptr (wr.heap.size + 1), ptr (wr.heap.size + 1), .bool false] tPlace)) = .ok (.slice (some ⟨g, 0, none⟩) nn cap) w6 ∧
      w.heap.size < w2.heap.size ∧ wr.heap.size < w2.heap.size ∧ w2.cell? ⟨w.heap.size, 0, none⟩ = some v ∧ w6.cell? ⟨w.heap.size, 0, none⟩ = some v ∧ w6.frozen? ⟨w.heap.size, 0, none⟩ = false ∧
      w2.cell? ⟨wr.heap.size, 0, none⟩ = some (ptr (wr.heap.size + 1)) ∧ w2.cell? ⟨wr.heap.size, 1, none⟩ = some (ptr (wr.heap.size + 1)) ∧ w2.cell? ⟨wr.heap.size, 2, none⟩ = some (.bool false) ∧
      LoadAt tag w n l (k + 1) (w6.setCell ⟨w.heap.size, 0, none⟩ (.slice (some ⟨g, 0, none⟩) nn cap)) := by
  have hf := lt_of_block h.blk
  have e1 : (wr.alloc (.cells #[.pointer none, .pointer none, .bool false] tPlace)).heap.size = wr.heap.size + 1 := by simp
  have hc0 : Chg (fun i => i = wr.heap.size) wr w2 := (((Chg.refl _ wr).alloc _).alloc _).trans hc
  have hcF : Chg (fun _ => False) wr w2 := ⟨hc0.os, hc0.tape, hc0.output, hc0.size, fun i hi _ => hc0.block i hi (by omega)⟩
  have hsec0 := blk_new (wr.alloc (.cells #[.pointer none, .pointer none, .bool false] tPlace)) (.cells (secCells (some (fitted (l.drop (k * 256))))) tSector)
  rw [e1] at hsec0
  have hsec : w2.heap[wr.heap.size + 1]? = _ := hc.at hsec0 (by omega)
  have hb2 : w2.heap[w.heap.size]? = _ := hcF.at h.blk (fun h => h)
  have hrow2 : w2.ownsRow 0 tPlace 3 v Q.length (Pls.cells Q) := row_kept h.row hcF (fun _ _ h => h)
  have hq := h.len
  obtain ⟨v', w6, hr, hrow, hg, hw⟩ := append_place (w := w2.drew.alloc (.cells #[ptr (wr.heap.size + 1), ptr (wr.heap.size + 1), .bool false] tPlace)) (World.ownsRow.alloc (w := w2.drew) hrow2 _) (blk_new w2.drew _) rfl rfl rfl (by omega)
  obtain ⟨g, cap, rfl, -⟩ := row_some hrow (by omega)
  have hc5 : Chg (fun _ => False) wr (w2.drew.alloc (.cells #[ptr (wr.heap.size + 1), ptr (wr.heap.size + 1), .bool false] tPlace)) := hcF.drew.alloc _
  have hsec5 := blk_alloc (w := w2.drew) hsec (.cells #[ptr (wr.heap.size + 1), ptr (wr.heap.size + 1), .bool false] tPlace)
  have hvf : v.ownBlock ≠ some w.heap.size := fun e => by have h1 := h.tagb; rw [h.tagr _ e] at h1; cases h1
  have hb6 : w6.heap[w.heap.size]? = some (.cells #[v, .bool true] tFile (0, 0)) := (hg.block _ (by have := hc5.size; omega) (fun e => hvf e.symm)).trans (hc5.at h.blk (fun h => h))
  exact ⟨g, _, cap, w6, hr, lt_of_block hb2, lt_of_block hblk, blk_cell hb2 0, blk_cell hb6 0, blk_free hb6 0, blk_cell hblk 0, blk_cell hblk 1, blk_cell hblk 2, load_step h ht hb hrg hk hl (b := wr.heap.size + 1) (by omega) hsec5 hc5 hrow hg hw⟩

set_option maxRecDepth 100000 in
set_option maxHeartbeats 2000000 in
theorem loaded_any (tag : Nat → Tag) (w : World) (n : Nam) (s : ByteArray) (hs : s.size ≤ 1048576) :
    Calls Tryz.prog 86 #[.string s] w fun e w' => e = .returned (ptr w.heap.size) ∧ LoadAt tag w n s.data.toList (loadedF s.data.toList).ps.length w' := by
  have hl := loaded_len s.data.toList
  have hsz : s.size = s.data.toList.length := rfl
  have hmax : (loadedF s.data.toList).ps.length ≤ 16384 := by omega
  have H0 : LoadAt tag w n s.data.toList 0 (w.alloc (.cells #[.slice none 0 0, .bool true] tFile)) := by
    refine ⟨upd tag w.heap.size (.file n), .slice none 0 0, [], ⟨blk_new _ _, upd_same _ _ _, World.ownsRow_nil _ _ _ _, (fun g hg => by cases hg), (fun x hx => by cases hx), rfl, Nat.zero_le _⟩, fun i hi => upd_ne _ _ (by omega), (Below.refl _ w).alloc (Nat.le_refl _) _, fun g hg => by cases hg⟩
  have HH := hid H0
  have HL := hid hl
  have HZ := hid hsz
  have HM := hid hmax
  generalize hK : (loadedF s.data.toList).ps.length = K at *
  have HK := hid hK
  clear hl hsz hmax H0 hK
  go_enter Tryz.func86, Tryz.ntmps86
  go_wp2
  go_loopw [4] (fun i wr => ∃ k : Nat, k ≤ K ∧ i = .int .i64 (k * 256 : Nat) ∧ LoadAt tag w n s.data.toList k wr) (fun i _ => K * 256 - (intOf i).toNat)
  case atStart => exact ⟨0, Nat.zero_le _, rfl, HH.out⟩
  case round =>
    obtain ⟨k, hk, rfl, hLd⟩ := hrel
    by_cases hlt : k < K
    · have hlt2 : k * 256 < s.size := by have := HL.out; have := HZ.out; omega
      obtain ⟨tag', v, Q, hf, ht, hb, hrg⟩ := hLd
      have HRD := hid (fun w2 hblk hc => load_ready (w2 := w2) hf ht hb hrg (by rw [HK.out]; exact hlt) (by rw [HK.out]; exact HM.out) hblk hc)
      clear hf ht hb hrg
      go_wp2_with fail
      refine (newSector_any (s.extract (k * 256) s.size) _).mono ?_
      rintro e w' ⟨rfl, rfl⟩
      rw [extract_drop s (k * 256)]
      have hb0 := blk_alloc (blk_new wr (.cells #[.pointer none, .pointer none, .bool false] tPlace)) (.cells (secCells (some (fitted (s.data.toList.drop (k * 256))))) tSector)
      have HB0 := hid hb0
      clear hb0
      go_wp2_with fail
      refine (holds_blk wr.heap.size (wr.heap.size + 1) _ _ _ _ HB0.out).mono ?_
      rintro e w2 ⟨rfl, hblk, hc⟩
      obtain ⟨g, nn, cap, w6, hr, hlt3, hlt4, x0, y0, z0, p0, p1, p2, hL⟩ := HRD.out w2 hblk hc
      have HLN := hid hL
      clear hblk hc hL
      go_wp2
      go_region_law (refine step_append_run rfl (.tmp 23) (.tmp 25) tPlaces tPlaces rfl _ _ (by simp [Act.eval]) (by simp [Act.eval]) hr ?_)
      all_goals
        go_wp2
        go_roundw
        case rel => exact ⟨k + 1, by omega, congrArg (Value.int .i64) (by omega), HLN.out⟩
        case measure => simp [intOf]; omega
    · obtain rfl : k = K := by omega
      have hge : ¬ k * 256 < s.size := by have := HL.out; have := HZ.out; omega
      have HLd := hid hLd
      clear hLd
      go_wp2
      go_ret
      exact ⟨rfl, HLd.out⟩

/-- A file is loaded over whatever was there. -/
theorem load_out {tag tag' : Nat → Tag} {w w1 w2 : World} {d m : Nat} {c : Ctl} {L : Ents} (D : DiskAt tag w d m c L) {n : Nam} {b : Nat} {F : Fil} (hf : ∃ v Q, FileAt tag' w1 n b F v Q) (ht : ∀ i, i < w.heap.size → tag' i = tag i) (hb : Below w.heap.size w w1)
    (ho : Owns w2 m (ins L n (b, F))) (hmt : w1.mapTurned w2 m) (hl : (ins L n (b, F)).length ≤ 8) : Out tag d m ⟨c, ins (dirOf L) n F⟩ w w2 := by
  have D1 : DiskAt tag' w1 d m c L := D.kept (F := fun _ => False) (Chg.of_below hb) ht (fun _ h => h.elim)
  obtain ⟨D2, hc⟩ := D1.putted hf ho hmt hl
  refine ⟨tag', _, D2, dirOf_ins L n b F, ht, Chg.then (Chg.of_below (F := Mine tag) hb) hc ?_⟩
  rintro i hi rfl
  refine Or.inr ?_
  unfold Mine; rw [D.root.tagm]; simp

theorem ins_len {L : Ents} {tag : Nat → Tag} {w : World} {d m : Nat} {c : Ctl} (D : DiskAt tag w d m c L) {n : Nam} (x : Nat × Fil) (h : canB L n = true) : (ins L n x).length ≤ 8 := by
  cases hg : get? L n with
  | none =>
    unfold canB at h
    rw [hg] at h
    have h2 : L.length < 8 := by simpa using h
    unfold ins
    rw [insB_len, del_self (get?_none hg)]
    omega
  | some y =>
    rw [ins_there x D.owns.rises hg, List.length_map]
    exact D.few

set_option maxRecDepth 100000 in
set_option maxHeartbeats 2000000 in
theorem load_any (tag : Nat → Tag) (w : World) (d m : Nat) (c : Ctl) (L : Ents) (D : DiskAt tag w d m c L) (s : ByteArray) (hs : s.size ≤ maxLen) (l : ByteArray) (hl : l.size ≤ maxLen) :
    Calls Tryz.prog 43 #[ptr d, .string s, .string l] w fun e w' => e = .returned (.int .i64 (Mod.load ⟨c, dirOf L⟩ s.data.toList l.data.toList).1) ∧ Out tag d m (Mod.load ⟨c, dirOf L⟩ s.data.toList l.data.toList).2 w w' := by
  obtain ⟨c0, -, -, -, -, -, -, -⟩ := root_cells D.root.blk
  have hls : l.size = l.data.toList.length := rfl
  replace hl : l.size ≤ 9223372036854775807 := by unfold maxLen at hl; omega
  have HD := hid D
  have hsame : Out tag d m ⟨c, dirOf L⟩ w w := Out.same D (Chg.refl _ _)
  have HSAME := hid hsame
  clear hsame
  cases hn : nameOk s with
  | false =>
    have e : Mod.load ⟨c, dirOf L⟩ s.data.toList l.data.toList = (1, ⟨c, dirOf L⟩) := by unfold Mod.load; rw [if_pos (Or.inl (by rw [← nameOk_fit]; exact hn))]
    have HE := hid e
    have HN := hid hn
    clear e hn D hls
    go_enter Tryz.func43, Tryz.ntmps43
    go_wp2_with fail
    refine (isName_any s hs _).mono ?_
    rintro e w' ⟨rfl, rfl⟩
    rw [HN.out]
    go_wp2
    go_ret
    rw [HE.out]
    exact ⟨rfl, HSAME.out⟩
  | true =>
    have HN := hid hn
    by_cases hbig : 1048576 < l.size
    · have e : Mod.load ⟨c, dirOf L⟩ s.data.toList l.data.toList = (1, ⟨c, dirOf L⟩) := by unfold Mod.load; rw [if_pos (Or.inr (by omega))]
      have HE := hid e
      clear e hn D hls
      go_enter Tryz.func43, Tryz.ntmps43
      go_wp2_with fail
      refine (isName_any s hs _).mono ?_
      rintro e w' ⟨rfl, rfl⟩
      rw [HN.out]
      go_wp2
      go_ret
      rw [HE.out]
      exact ⟨rfl, HSAME.out⟩
    · have hnot : ¬ (nameFit s.data.toList = false ∨ 1048576 < l.data.toList.length) := by
        rintro (h | h)
        · rw [← nameOk_fit, hn] at h; cases h
        · omega
      cases hcan : canB L s.data.toList with
      | false =>
        have e : Mod.load ⟨c, dirOf L⟩ s.data.toList l.data.toList = (12, ⟨c, dirOf L⟩) := by unfold Mod.load; rw [if_neg hnot, if_pos (by rw [dirOf_can]; exact hcan)]
        have HE := hid e
        have HCAN := hid hcan
        clear e hn D hls hnot hcan
        go_enter Tryz.func43, Tryz.ntmps43
        go_wp2_with fail
        refine (isName_any s hs _).mono ?_
        rintro e w' ⟨rfl, rfl⟩
        rw [HN.out]
        go_wp2_with fail
        refine (canHold_any tag _ d m c L HD.out s hs).mono ?_
        rintro e w' ⟨rfl, rfl⟩
        rw [HCAN.out]
        go_wp2
        go_ret
        rw [HE.out]
        exact ⟨rfl, HSAME.out⟩
      | true =>
        have e : Mod.load ⟨c, dirOf L⟩ s.data.toList l.data.toList = (0, ⟨c, ins (dirOf L) s.data.toList (loadedF l.data.toList)⟩) := by unfold Mod.load; rw [if_neg hnot, if_neg (by rw [dirOf_can, hcan]; simp)]
        have HE := hid e
        have HCAN := hid hcan
        have ld := lt_of_block D.root.blk
        have hown : Owns w m L := D.owns
        have hnext : ∀ wd w1 : World, LoadAt tag wd s.data.toList l.data.toList (loadedF l.data.toList).ps.length w1 → wd = w.drew → ∃ w2, (Instr.mapUpdate tMap (.map (some m)) (.string s) (ptr w.heap.size)).run Tryz.prog w1 = .ok () w2 ∧ w1.cell? ⟨d, 0, none⟩ = some (.map (some m)) ∧
            Out tag d m ⟨c, ins (dirOf L) s.data.toList (loadedF l.data.toList)⟩ w w2 := by
          rintro wd w1 ⟨tag', v, Q, hf, ht, hb, -⟩ rfl
          have hb' : Below w.heap.size w w1 := ((Below.refl _ w).drew).trans hb
          have hF : (⟨(loadedF l.data.toList).ps.take (loadedF l.data.toList).ps.length, true⟩ : Fil) = loadedF l.data.toList := by rw [List.take_length]; rfl
          rw [hF] at hf
          obtain ⟨w2, hrun, ho2, hmt⟩ := Owns.put (hown.kept (F := fun _ => False) (Chg.of_below hb') (fun h => h)) s hs (by have := D.few; unfold maxLen; omega) w.heap.size (loadedF l.data.toList)
          exact ⟨w2, hrun, (hb'.cell (p := ⟨d, 0, none⟩) ld).trans c0, load_out D ⟨v, Q, hf⟩ ht hb' ho2 hmt (ins_len D _ hcan)⟩
        have HNEXT := hid hnext
        clear e hn D hls hnot hcan hnext
        go_enter Tryz.func43, Tryz.ntmps43
        go_wp2_with fail
        refine (isName_any s hs _).mono ?_
        rintro e w' ⟨rfl, rfl⟩
        rw [HN.out]
        go_wp2_with fail
        refine (canHold_any tag _ d m c L HD.out s hs).mono ?_
        rintro e w' ⟨rfl, rfl⟩
        rw [HCAN.out]
        go_wp2
        go_region_with ((go_at_call 86; refine (loaded_any tag _ s.data.toList l (by omega)).mono ?_; rintro e w1 ⟨rfl, hLd⟩; obtain ⟨w2, hrun, q0, hOut⟩ := HNEXT.out _ w1 hLd rfl))
        all_goals
          have HO := hid hOut
          clear hOut
          go_wp2
          go_ret
          rw [HE.out]
          exact ⟨rfl, HO.out⟩

end Disk
end Go.Proofs.YtgmbiiocjhkpdaaGreat
