/-
  Put together: RefPut, RefSync, RefGone, RefDrop.
-/
import Derived.Test.YtgmbiiocjhkpdaaGreatGrpJRa
/-
  A file of the reference's is put in its place.
-/
namespace Go.Proofs.YtgmbiiocjhkpdaaGreat
open Go.RowKit
namespace Ref
open Disk
open Num (hid bcells)

section
variable {R : Nat → Prop} {w : World} {r : Nat} {v : Value} {E : Ens} {c : Ctl} {a k m : Int}
theorem DiskR.drew (h : DiskR R w r v E c a k m) : DiskR R w.drew r v E c a k m := h.kept (F := fun _ => False) (Chg.refl _ w).drew (fun h => h) (fun _ _ h => h) (Apart.none w)
/-- The five stores of a file to its place. -/
def putW (w : World) (g j : Nat) (f : FR) : World :=
  ((((w.setCell ⟨g, j * 5, none⟩ (.string f.name)).setCell ⟨g, j * 5 + 1, none⟩ f.now).setCell ⟨g, j * 5 + 2, none⟩ f.safe).setCell ⟨g, j * 5 + 3, none⟩ f.wait).setCell ⟨g, j * 5 + 4, none⟩ (.bool f.sure)
theorem putW_chg (w : World) (g j : Nat) (f : FR) : Chg (· = g) w (putW w g j f) := (((((Chg.refl _ w).root _ _).root _ _).root _ _).root _ _).root _ _
theorem DiskR.put {g cap : Nat} (h : DiskR R w r (.slice (some ⟨g, 0, none⟩) E.length cap) E c a k m) {j : Nat} (hj : j < E.length) {f : FR} {n : Nam} {F : Fil} (hf : FileR R w f n F) :
    DiskR R (putW w g j f) r (.slice (some ⟨g, 0, none⟩) E.length cap) (E.set j (f, (n, F))) c a k m := by
  have hc := putW_chg w g j f
  obtain ⟨cur, hg⟩ := row_type h.row.1 (g := g) rfl
  have hne : ¬ r = g := by
    rintro rfl
    rw [h.blk] at hg
    simp only [Option.some.injEq, Obj.cells.injEq] at hg
    exact absurd hg.2.1 (by decide)
  have hA : Apart (· = g) w := Apart.one hg (by decide)
  refine ⟨h.own, hc.at h.blk hne, ⟨?_, h.row.2⟩, ?_, h.ctl⟩
  · rw [List.length_set, ← Ens.cells_set E j hj f (n, F)]
    exact ((((h.row.1.stored _ _).1.stored _ _).1.stored _ _).1.stored _ _).1.stored _ _ |>.1
  · intro x hx
    rcases List.mem_or_eq_of_mem_set hx with hx | rfl
    · exact (h.files x hx).kept hc hA
    · exact hf.kept hc hA
theorem dir_set (E : Ens) (j : Nat) (f : FR) (e : Nam × Fil) : Ens.dir (E.set j (f, e)) = (Ens.dir E).set j e := by unfold Ens.dir; rw [List.map_set]
/-- A file that is there, in its place: as ins has it. -/
theorem set_ins {fs : Dir} (hr : fs.Pairwise fun p q => bytesBefore p.1 q.1 = true) {j : Nat} (hj : j < fs.length) {n : Nam} (hn : fs[j].1 = n) (F : Fil) : fs.set j (n, F) = ins fs n F := by
  have hg : get? fs n = some fs[j].2 := by
    have := get?_of_mem hr (List.getElem_mem hj)
    rw [hn] at this
    exact this
  rw [ins_there F hr hg]
  refine List.ext_getElem (by simp) fun i h1 h2 => ?_
  have hi : i < fs.length := by simpa using h1
  rw [List.getElem_set, List.getElem_map]
  by_cases hij : j = i
  · subst hij
    simp [hn]
  · have hne : fs[i].1 ≠ n := by
      rw [List.pairwise_iff_getElem] at hr
      intro e
      rcases Nat.lt_or_gt_of_ne hij with h | h
      · have := hr j i hj hi h
        rw [hn, e, bytesBefore_irrefl] at this
        cases this
      · have := hr i j hi hj h
        rw [hn, e, bytesBefore_irrefl] at this
        cases this
    simp [hij, hne]

/-! ### a file that is synced -/
theorem sync_now (F : Fil) : nowsC F.sync.ps = nowsC F.ps := by
  unfold Fil.sync nowsC
  rw [List.flatMap_map]
theorem sync_safe (F : Fil) : safesC F.sync.ps = nowsC F.ps := by
  unfold Fil.sync nowsC safesC
  rw [List.flatMap_map]
  rfl
theorem sync_wait (F : Fil) : waitsC F.sync.ps = List.replicate F.ps.length (.bool false) := by
  unfold Fil.sync waitsC
  rw [List.map_map, List.eq_replicate_iff]
  refine ⟨by simp, fun x hx => ?_⟩
  obtain ⟨p, _, rfl⟩ := List.mem_map.1 hx
  rfl
theorem sync_len (F : Fil) : F.sync.ps.length = F.ps.length := by unfold Fil.sync; rw [List.length_map]
theorem make_bools (w : World) (n : Nat) (hn : n ≤ 100000) : ∃ w', (Instr.makeSlice tBs (.int .i64 (n : Int)) (.int .i64 (n : Int))).run Tryz.prog w = .ok (.slice (some ⟨w.heap.size, 0, none⟩) n n) w' ∧
    w'.ownsRow w.heap.size tB 1 (.slice (some ⟨w.heap.size, 0, none⟩) n n) n (List.replicate n (.bool false)) ∧ Below w.heap.size w w' := by
  obtain ⟨i, hi, h0, h1, h2⟩ := boolInfo
  obtain ⟨w', hr, ho, hg⟩ := run_make_full (P := Tryz.prog) w w.heap.size tBs tB i _ 1 Tryz.underlying107 hi h0 h1 .i64 .i64 n (by rw [h2]; omega) (by unfold maxLen; omega) (Nat.le_refl _)
  rw [Nat.mul_one] at ho
  have e : (madeCells (Value.bool false).cells n).toList = List.replicate n (.bool false) := toList_madeCells_one _ _
  rw [e] at ho
  exact ⟨w', hr, ho, (Below.refl _ w).grown hg (Nat.le_refl _) (fun k hk => by cases hk)⟩
theorem row_low {w : World} {base : Nat} {e : TypeId} {k : Nat} {v : Value} {n : Nat} {xs : List Value} (h : w.ownsRow base e k v n xs) : w.ownsRow 0 e k v n xs :=
  ⟨h.1, h.2.imp id (fun ⟨g, cap, cur, hv, _, r⟩ => ⟨g, cap, cur, hv, Nat.zero_le _, r⟩)⟩

/-- A file's five cells in a block of the call's own. -/
def FBox (b : Nat) (f : FR) (w : World) : Prop := w.heap[b]? = some (.cells #[.string f.name, f.now, f.safe, f.wait, .bool f.sure] tF (0, 0))
theorem FBox.cells {b : Nat} {f : FR} {w : World} (h : FBox b f w) : w.cell? ⟨b, 0, none⟩ = some (.string f.name) ∧ w.cell? ⟨b, 1, none⟩ = some f.now ∧ w.cell? ⟨b, 2, none⟩ = some f.safe ∧ w.cell? ⟨b, 3, none⟩ = some f.wait ∧ w.cell? ⟨b, 4, none⟩ = some (.bool f.sure) :=
  ⟨blk_cell h 0, blk_cell h 1, blk_cell h 2, blk_cell h 3, blk_cell h 4⟩
theorem FBox.frees {b : Nat} {f : FR} {w : World} (h : FBox b f w) : w.frozen? ⟨b, 0, none⟩ = false ∧ w.frozen? ⟨b, 1, none⟩ = false ∧ w.frozen? ⟨b, 2, none⟩ = false ∧ w.frozen? ⟨b, 3, none⟩ = false ∧ w.frozen? ⟨b, 4, none⟩ = false :=
  ⟨blk_free h 0, blk_free h 1, blk_free h 2, blk_free h 3, blk_free h 4⟩
theorem FBox.on {b : Nat} {f : FR} {w1 w2 : World} (h : FBox b f w1) (hb : Below w1.heap.size w1 w2) : FBox b f w2 := (hb.block _ (lt_of_block h)).trans h
theorem FBox.now {b : Nat} {f : FR} {w : World} (h : FBox b f w) (u : Value) : FBox b { f with now := u } (w.setCell ⟨b, 1, none⟩ u) := blk_set h 1 u
theorem FBox.safe {b : Nat} {f : FR} {w : World} (h : FBox b f w) (u : Value) : FBox b { f with safe := u } (w.setCell ⟨b, 2, none⟩ u) := blk_set h 2 u
theorem FBox.wait {b : Nat} {f : FR} {w : World} (h : FBox b f w) (u : Value) : FBox b { f with wait := u } (w.setCell ⟨b, 3, none⟩ u) := blk_set h 3 u
theorem FBox.sure {b : Nat} {f : FR} {w : World} (h : FBox b f w) (u : Bool) : FBox b { f with sure := u } (w.setCell ⟨b, 4, none⟩ (.bool u)) := blk_set h 4 (.bool u)

set_option maxRecDepth 100000 in
set_option maxHeartbeats 2000000 in
theorem settle_any {g cap : Nat} (h : DiskR R w r (.slice (some ⟨g, 0, none⟩) E.length cap) E c a k m) (hR : ∀ b, w.heap.size ≤ b → R b) {j : Nat} (hj : j < E.length) (hl : E[j].2.2.ps.length ≤ 20000) :
    Calls Tryz.prog 88 #[ptr r, .int .i64 j] w fun e w' => e = .returned (.tuple #[]) ∧ (∃ f, DiskR R w' r (.slice (some ⟨g, 0, none⟩) E.length cap) (E.set j (f, (E[j].2.1, E[j].2.2.sync))) c a k m) ∧ Chg R w w' := by
  obtain ⟨q0, -⟩ := h.roots
  obtain ⟨aN, cN, aS, cS, aW, cW, eN, eS, eW, x0, x1, x2, x3, x4⟩ := h.file hj
  have hf := h.files E[j] (List.getElem_mem hj)
  have hg := (h.row.1.lt g rfl).2
  have hr := lt_of_block h.blk
  generalize hX : E[j].1 = X at *
  obtain ⟨xn, xv, xs, xw, xu⟩ := X
  simp only at eN eS eW x0 x4
  subst eN eS eW
  have B1 : FBox w.heap.size ⟨xn, .slice aN E[j].2.2.ps.length cN, .slice aS E[j].2.2.ps.length cS, .slice aW E[j].2.2.ps.length cW, xu⟩ (w.alloc (.cells #[.string xn, .slice aN E[j].2.2.ps.length cN, .slice aS E[j].2.2.ps.length cS, .slice aW E[j].2.2.ps.length cW, .bool xu] tF)) := blk_new w _
  generalize hw1 : w.alloc (.cells #[.string xn, .slice aN E[j].2.2.ps.length cN, .slice aS E[j].2.2.ps.length cS, .slice aW E[j].2.2.ps.length cW, .bool xu] tF) = w1 at *
  have hb1 : Below w.heap.size w w1 := by rw [← hw1]; exact (Below.refl _ _).alloc (Nat.le_refl _) _
  have hs1 : w1.heap.size = w.heap.size + 1 := by rw [← hw1]; simp
  have hnow1 : w1.ownsRow 0 tC 3 (.slice aN E[j].2.2.ps.length cN) E[j].2.2.ps.length (nowsC E[j].2.2.ps) := row_kept hf.now.1 (F := fun _ => False) (Chg.of_below hb1) (fun _ _ h => h)
  obtain ⟨v2, w2, hr2, ho2, hb2, hw2⟩ := copy_cells hnow1 (nows_one _) (by omega)
  obtain ⟨a2, c2, hv2, -⟩ := row_shape ho2
  have B2 := B1.on hb2
  have B3 := B2.safe v2
  have hsz3 : (w2.setCell ⟨w.heap.size, 2, none⟩ v2).heap.size = w2.heap.size := set_size ..
  obtain ⟨w3, hmk, ho3, hb3⟩ := make_bools (w2.setCell ⟨w.heap.size, 2, none⟩ v2) E[j].2.2.ps.length (by omega)
  have B4 := B3.on hb3
  have hsz4 : w2.heap.size ≤ w3.heap.size := by have := hb3.size; rw [hsz3] at this; exact this
  have B5 := (B4.wait (.slice (some ⟨w2.heap.size, 0, none⟩) E[j].2.2.ps.length E[j].2.2.ps.length)).sure true
  rw [hs1] at hr2 hw2
  rw [hsz3] at hmk ho3
  have hlo : w.heap.size + 1 ≤ w2.heap.size := by have := hb2.size; omega
  have BB2 : Below w.heap.size w w2 := hb1.trans (hb2.mono (by omega))
  have BB3 : Below w.heap.size w w3 := (BB2.setCell (p := ⟨w.heap.size, 2, none⟩) (Nat.le_refl _) v2).trans (hb3.mono (by rw [hsz3]; omega))
  have BB5 : Below w.heap.size w ((w3.setCell ⟨w.heap.size, 3, none⟩ (.slice (some ⟨w2.heap.size, 0, none⟩) E[j].2.2.ps.length E[j].2.2.ps.length)).setCell ⟨w.heap.size, 4, none⟩ (.bool true)) := (BB3.setCell (p := ⟨w.heap.size, 3, none⟩) (Nat.le_refl _) _).setCell (p := ⟨w.heap.size, 4, none⟩) (Nat.le_refl _) _
  have D5 := h.kept (F := fun _ => False) (Chg.of_below BB5) (fun h => h) (fun _ _ h => h) (Apart.none w)
  have C35 : Chg (· = w.heap.size) w3 ((w3.setCell ⟨w.heap.size, 3, none⟩ (.slice (some ⟨w2.heap.size, 0, none⟩) E[j].2.2.ps.length E[j].2.2.ps.length)).setCell ⟨w.heap.size, 4, none⟩ (.bool true)) := ((Chg.refl _ _).root _ _).root _ _
  have C25 : Chg (· = w.heap.size) w2 ((w3.setCell ⟨w.heap.size, 3, none⟩ (.slice (some ⟨w2.heap.size, 0, none⟩) E[j].2.2.ps.length E[j].2.2.ps.length)).setCell ⟨w.heap.size, 4, none⟩ (.bool true)) := (((Chg.refl _ w2).root 2 v2).trans (Chg.of_below hb3)).trans C35
  have N5 : FileR R ((w3.setCell ⟨w.heap.size, 3, none⟩ (.slice (some ⟨w2.heap.size, 0, none⟩) E[j].2.2.ps.length E[j].2.2.ps.length)).setCell ⟨w.heap.size, 4, none⟩ (.bool true)) ⟨xn, .slice aN E[j].2.2.ps.length cN, v2, .slice (some ⟨w2.heap.size, 0, none⟩) E[j].2.2.ps.length E[j].2.2.ps.length, true⟩ E[j].2.1 E[j].2.2.sync := by
    refine ⟨hf.name, rfl, ?_, ?_, ?_⟩
    · rw [sync_len, sync_now]
      exact hf.now.kept (F := fun _ => False) (Chg.of_below BB5) (fun _ _ h => h)
    · rw [sync_len, sync_safe]
      exact ⟨row_kept ho2 C25 (fun k hk e => by have := hw2 k hk; omega), fun k hk => hR k (by have := hw2 k hk; omega)⟩
    · rw [sync_len, sync_wait]
      exact ⟨row_kept (row_low ho3) C35 (fun k hk e => by simp [Value.ownBlock] at hk; omega), fun k hk => hR k (by simp [Value.ownBlock] at hk; omega)⟩
  have HP := hid (D5.put hj N5)
  have HC := hid (((Chg.of_below BB5 : Chg R w _).trans (((putW_chg _ g j ⟨xn, .slice aN E[j].2.2.ps.length cN, v2, .slice (some ⟨w2.heap.size, 0, none⟩) E[j].2.2.ps.length E[j].2.2.ps.length, true⟩)).mono (fun k _ e => by rw [e]; exact h.row.2 g rfl))))
  have r3 := (BB3.cell (p := ⟨r, 0, none⟩) hr).trans q0
  subst hv2
  obtain ⟨y0, y1, y2, y3, y4⟩ := B1.cells
  obtain ⟨z0, z1, z2, z3, z4⟩ := B2.frees
  obtain ⟨t0, t1, t2, t3, t4⟩ := B2.cells
  obtain ⟨s0, s1, s2, s3, s4⟩ := B4.cells
  obtain ⟨f0, f1, f2, f3, f4⟩ := B4.frees
  have HR2 := hid hr2
  have zg := fun i => World.ownsRow.frozenAt D5.row.1 i
  have zg2 : ∀ i, w3.frozen? ⟨g, i, none⟩ = false := fun i => by
    have := zg i
    rw [set_frozen_other (by show g ≠ w.heap.size; omega), set_frozen_other (by show g ≠ w.heap.size; omega)] at this
    exact this
  have zg0 := zg2 (j * 5)
  have zg1 := zg2 (j * 5 + 1)
  have zg3 := zg2 (j * 5 + 2)
  have zg4 := zg2 (j * 5 + 3)
  have zg5 := zg2 (j * 5 + 4)
  have p0 := (BB3.cell (p := ⟨g, j * 5, none⟩) hg).trans x0
  have p1 := (BB3.cell (p := ⟨g, j * 5 + 1, none⟩) hg).trans x1
  have p2 := (BB3.cell (p := ⟨g, j * 5 + 2, none⟩) hg).trans x2
  have p3 := (BB3.cell (p := ⟨g, j * 5 + 3, none⟩) hg).trans x3
  have p4 := (BB3.cell (p := ⟨g, j * 5 + 4, none⟩) hg).trans x4
  clear hr2 ho2 hw2 hb2 hb3 ho3 BB2 BB3 BB5 D5 C35 C25 N5 h hf hnow1 B1 B2 B3 B4 zg zg2
  go_enter Tryz.func88, Tryz.ntmps88
  go_wp2_with (at_builtin; refine wpList_append_run rfl (.tmp 12) (.tmp 14) tCs tCs rfl _ _ (by simp [Act.eval]) (by simp [Act.eval]) HR2.out ?_)
  go_region
  go_wp2
  go_end0
  exact ⟨rfl, ⟨_, HP.out.drew⟩, HC.out.drew⟩
end
end Ref
end Go.Proofs.YtgmbiiocjhkpdaaGreat

/-
  Contracts of the reference's Sync and Drop.
-/
namespace Go.Proofs.YtgmbiiocjhkpdaaGreat
open Go.RowKit
namespace Ref
open Disk
open Num (hid bcells)

/-- What is asked of a disk's files. -/
structure Good (M : Mod) : Prop where
  ok : M.c.Ok
  few : M.fs.length ≤ 8
  lens : ∀ e ∈ M.fs, e.2.ps.length ≤ 16384
  secs : ∀ e ∈ M.fs, ∀ p ∈ e.2.ps, (p.now.getD zeros).length = 256
  rise : M.fs.Pairwise fun p q => bytesBefore p.1 q.1 = true

section
variable {R : Nat → Prop} {w : World} {r : Nat} {v : Value} {E : Ens} {c : Ctl} {a k m : Int}
theorem dir_len (E : Ens) : (Ens.dir E).length = E.length := List.length_map _
theorem dir_at (E : Ens) (j : Nat) (h : j < E.length) : (Ens.dir E)[j]'(by rw [dir_len]; exact h) = E[j].2 := by unfold Ens.dir; rw [List.getElem_map]
theorem Good.at {M : Mod} (hG : Good M) (hE : Ens.dir E = M.fs) {j : Nat} (h : j < E.length) : E[j].2.2.ps.length ≤ 16384 := by
  refine hG.lens E[j].2 ?_
  rw [← hE]
  exact List.mem_map_of_mem (List.getElem_mem h)
theorem Good.len {M : Mod} (hG : Good M) (hE : Ens.dir E = M.fs) : E.length ≤ 8 := by have := hG.few; rw [← hE, dir_len] at this; exact this
/-- How an operation's plain answer reads. -/
theorem run_bad {M : Mod} {fit : Bool} {f : Dir → Int × Dir} (h : ¬ M.c.refusal fit = 0) : M.run fit f = (M.c.refusal fit, ⟨M.c.begun fit, M.fs⟩) := by unfold Mod.run; rw [if_pos h]
theorem run_good {M : Mod} {fit : Bool} {f : Dir → Int × Dir} (h : M.c.refusal fit = 0) : M.run fit f = ((f M.fs).1, ⟨M.c.begun fit, (f M.fs).2⟩) := by unfold Mod.run; rw [if_neg (by simpa using h)]
/-- Behind a call of the reference's. -/
def RefOut (R : Nat → Prop) (w : World) (r : Nat) (M : Mod) (w' : World) : Prop := Refs R r M w' ∧ Chg R w w'
theorem Begun.out {w' : World} {c' : Ctl} {M : Mod} (h : Begun R w r v E c' w') (hE : Ens.dir E = M.fs) (hR : R r) (hc : c' = M.c) : RefOut R w r M w' := by
  obtain ⟨a, k, m, D, hb⟩ := h
  subst hc
  exact ⟨⟨v, E, a, k, m, D, hE⟩, hb.mono (fun k _ e => by rw [e]; exact hR)⟩

set_option maxRecDepth 100000 in
set_option maxHeartbeats 1000000 in
theorem rsync_any {M : Mod} (hG : Good M) (h : Refs R r M w) (hR : ∀ b, w.heap.size ≤ b → R b) (s : ByteArray) (hs : s.size ≤ maxLen) :
    Calls Tryz.prog 66 #[ptr r, .string s] w fun e w' => e = .returned (.int .i64 (M.sync s.data.toList).1) ∧ RefOut R w r (M.sync s.data.toList).2 w' := by
  obtain ⟨v, E, a, k, m, D, hE⟩ := h
  have hRr := D.own
  have hb := begin_any D hG.ok s hs false (nameFit s.data.toList) (by simp)
  have HBG := hid hb
  have h8 := hG.len hE
  clear hb D
  by_cases hr : M.c.refusal (nameFit s.data.toList) = 0
  · have e1 : M.sync s.data.toList = ((syncD s.data.toList M.fs).1, ⟨M.c.begun (nameFit s.data.toList), (syncD s.data.toList M.fs).2⟩) := run_good hr
    have HE1 := hid e1
    have HRF := hid hr
    clear e1 hr
    go_enter Tryz.func66, Tryz.ntmps66
    go_wp2_with fail
    refine HBG.out.mono ?_
    rintro e w1 ⟨rfl, hbeg⟩
    have HB := hid hbeg
    obtain ⟨a', k', m', D1, hc1⟩ := hbeg
    rw [HRF.out]
    have H := hid D1
    have HC1 := hid hc1
    clear D1 HBG hc1
    go_wp2_with fail
    refine (place_any H.out (by omega) s).mono ?_
    rintro e w2 ⟨⟨j, rfl, hp⟩, rfl⟩
    rcases place_get hp with ⟨j, hj, rfl, hget, hn⟩ | ⟨rfl, hget⟩
    · rw [hE] at hget
      have hsd : Hid (syncD s.data.toList M.fs = (0, ins M.fs s.data.toList E[j].2.2.sync)) := hid (by unfold syncD onD; rw [hget])
      have hst : Hid (Ens.dir (E.set j (E[j].1, (E[j].2.1, E[j].2.2.sync))) = ins M.fs s.data.toList E[j].2.2.sync) := hid (by
        rw [dir_set, hn, hE]
        exact set_ins hG.rise (by rw [← hE, dir_len]; exact hj) (by have := dir_at E j hj; simp only [hE] at this; rw [this]; exact hn) _)
      obtain ⟨ao, cap, hv, hao⟩ := row_shape H.out.row.1
      obtain ⟨g, hg, -⟩ := hao (by omega)
      subst hg
      subst hv
      have hR1 : Hid (∀ b, w1.heap.size ≤ b → R b) := hid (fun b hb => hR b (Nat.le_trans HC1.out.size hb))
      have hlj := hG.at hE hj
      clear hget hp hn hao
      go_wp2_with fail
      refine (settle_any H.out hR1.out hj (by omega)).mono ?_
      rintro e w3 ⟨rfl, ⟨f, D3⟩, hc3⟩
      have HD3 := hid D3
      have HC3 := hid hc3
      clear D3 hc3
      go_wp2
      go_ret
      refine ⟨ret_i (by rw [HE1.out, hsd.out]), ⟨_, _, _, _, _, by rw [HE1.out]; exact HD3.out, ?_⟩, (HC1.out.mono (fun k _ e => by rw [e]; exact hRr)).trans HC3.out⟩
      rw [HE1.out, hsd.out]
      show Ens.dir _ = ins M.fs s.data.toList E[j].2.2.sync
      rw [← hst.out, dir_set, dir_set]
    · rw [hE] at hget
      have hsd : Hid (syncD s.data.toList M.fs = (14, M.fs)) := hid (by unfold syncD onD; rw [hget])
      clear hget hp
      go_wp2
      go_ret
      exact ⟨ret_i (by rw [HE1.out, hsd.out]), HB.out.out (by rw [HE1.out, hsd.out]; exact hE) hRr (by rw [HE1.out])⟩
  · have e1 : M.sync s.data.toList = (M.c.refusal (nameFit s.data.toList), ⟨M.c.begun (nameFit s.data.toList), M.fs⟩) := run_bad hr
    have HE1 := hid e1
    generalize hq : M.c.refusal (nameFit s.data.toList) = q at *
    have hq0 : (q != 0) = true := by simpa using hr
    clear e1 hr hq
    go_enter Tryz.func66, Tryz.ntmps66
    go_wp2_with fail
    refine HBG.out.mono ?_
    rintro e w1 ⟨rfl, hbeg⟩
    have HB := hid hbeg
    clear hbeg HBG
    go_wp2
    go_ret
    exact ⟨ret_i (by rw [HE1.out]), HB.out.out (by rw [HE1.out]; exact hE) hRr (by rw [HE1.out])⟩
end
end Ref
end Go.Proofs.YtgmbiiocjhkpdaaGreat

/-
  Rows of files that grow; contracts of the reference's gone and Drop.
-/
namespace Go.Proofs.YtgmbiiocjhkpdaaGreat
open Go.RowKit
namespace Ref
open Disk
open Num (hid bcells)

/-- A file's cells are one cell each. -/
def FR.One (f : FR) : Prop := f.now.oneCell' = true ∧ f.safe.oneCell' = true ∧ f.wait.oneCell' = true
theorem FR.One.all {f : FR} (h : f.One) : ∀ u ∈ f.cells, u.oneCell' = true := by
  intro u hu
  simp only [FR.cells, List.mem_cons, List.not_mem_nil, or_false] at hu
  rcases hu with rfl | rfl | rfl | rfl | rfl
  · rfl
  · exact h.1
  · exact h.2.1
  · exact h.2.2
  · rfl
theorem row_one {w : World} {e : TypeId} {k : Nat} {v : Value} {n : Nat} {xs : List Value} (h : w.ownsRow 0 e k v n xs) : v.oneCell' = true := by
  obtain ⟨ao, cap, rfl, -⟩ := row_shape h
  rfl
theorem FileR.one {R : Nat → Prop} {w : World} {f : FR} {n : Nam} {F : Fil} (h : FileR R w f n F) : f.One := ⟨row_one h.now.1, row_one h.safe.1, row_one h.wait.1⟩
theorem cells_one {E : Ens} (h : ∀ x ∈ E, x.1.One) : ∀ u ∈ Ens.cells E, u.oneCell' = true := by
  intro u hu
  unfold Ens.cells at hu
  obtain ⟨x, hx, hu⟩ := List.mem_flatMap.1 hu
  exact (h x hx).all u hu
/-- One file more. -/
theorem push_file {w : World} {v : Value} {n : Nat} {xs : List Value} (hown : w.ownsRow 0 tF 5 v n xs) (f : FR) (hf : f.One) (hn : n ≤ 1000) :
    ∃ v' w', (Builtin.append_ #[tFs, tFs] tFs #[v, .slice (some ⟨w.heap.size, 0, none⟩) 1 1]).run Tryz.prog (w.alloc (.cells #[.string f.name, f.now, f.safe, f.wait, .bool f.sure] tF)) = .ok v' w' ∧ w'.ownsRow 0 tF 5 v' (n + 1) (xs ++ f.cells) ∧ Chg (fun k => v.ownBlock = some k) w w' ∧ (∀ k, v'.ownBlock = some k → v.ownBlock = some k ∨ w.heap.size ≤ k) := by
  obtain ⟨i, hi, h0, h1, h2⟩ := fileInfo
  obtain ⟨v', w', hr, ho, hc, hw⟩ := append_from tFs tF i _ 5 96 Tryz.underlying75 hi h0 h1 h2 rfl (by decide) (by decide) (hown.alloc (.cells #[.string f.name, f.now, f.safe, f.wait, .bool f.sure] tF)) (b := w.heap.size) (o := 0) (m := 1) (c := 1) (ys := f.cells) rfl (by
    intro j hj
    rw [Nat.zero_add, blk_cell (blk_new w _) j]
    rw [List.getElem?_toArray]
    exact List.getElem?_eq_getElem hj) hf.all (by omega)
  refine ⟨v', w', hr, ho, ((Chg.refl _ w).alloc _).trans hc, fun k hk => ?_⟩
  rcases hw k hk with h | h
  · exact Or.inl h
  · right; simp at h; omega
/-- Files of a row more, from one place on. -/
theorem push_files {w : World} {v : Value} {n : Nat} {xs : List Value} (hown : w.ownsRow 0 tF 5 v n xs) {g cap : Nat} {E : Ens} (hrow : w.ownsRow 0 tF 5 (.slice (some ⟨g, 0, none⟩) E.length cap) E.length (Ens.cells E)) (h1 : ∀ x ∈ E, x.1.One) {o m c : Nat} (hom : o + m ≤ E.length) (hn : n + m ≤ 1000) :
    ∃ v' w', (Builtin.append_ #[tFs, tFs] tFs #[v, .slice (some ⟨g, o * 5, none⟩) m c]).run Tryz.prog w = .ok v' w' ∧ w'.ownsRow 0 tF 5 v' (n + m) (xs ++ Ens.cells ((E.drop o).take m)) ∧ Chg (fun k => v.ownBlock = some k) w w' ∧ (∀ k, v'.ownBlock = some k → v.ownBlock = some k ∨ w.heap.size ≤ k) := by
  obtain ⟨i, hi, h0, hi1, h2⟩ := fileInfo
  have hlen : (Ens.cells ((E.drop o).take m)).length = m * 5 := by rw [Ens.cells_len, List.length_take, List.length_drop, Nat.min_eq_left (by omega)]
  refine append_from tFs tF i _ 5 96 Tryz.underlying75 hi h0 hi1 h2 rfl (by decide) (by decide) hown hlen (fun j hj => ?_) (cells_one (fun x hx => h1 x (List.mem_of_mem_drop (List.mem_of_mem_take hx)))) (by omega)
  rw [hlen] at hj
  have hsplit : Ens.cells E = Ens.cells (E.take o) ++ (Ens.cells ((E.drop o).take m) ++ Ens.cells ((E.drop o).drop m)) := by
    rw [← Ens.cells_append, ← Ens.cells_append, List.take_append_drop, List.take_append_drop]
  have hto : (Ens.cells (E.take o)).length = o * 5 := by rw [Ens.cells_len, List.length_take, Nat.min_eq_left (by omega)]
  rw [hrow.cellAt (o * 5 + j) (by omega), hsplit, List.getElem?_append_right (by omega), hto, show o * 5 + j - o * 5 = j by omega, List.getElem?_append_left (by omega), List.getElem?_eq_getElem (by omega)]

section
variable {R : Nat → Prop} {w : World} {r : Nat} {v : Value} {E : Ens} {c : Ctl} {a k m : Int}
theorem DiskR.ones (h : DiskR R w r v E c a k m) : ∀ x ∈ E, x.1.One := fun x hx => (h.files x hx).one
/-- The struct's row is another one. -/
theorem DiskR.rowed (h : DiskR R w r v E c a k m) {v' : Value} {E' : Ens} (hrow : Row R w tF 5 v' E'.length (Ens.cells E')) (hf : ∀ x ∈ E', FileR R w x.1 x.2.1 x.2.2) :
    DiskR R (w.setCell ⟨r, 0, none⟩ v') r v' E' c a k m ∧ Chg (· = r) w (w.setCell ⟨r, 0, none⟩ v') := by
  have hc : Chg (· = r) w (w.setCell ⟨r, 0, none⟩ v') := (Chg.refl _ w).root _ _
  refine ⟨⟨h.own, blk_set h.blk 0 v', hrow.kept hc ?_, fun x hx => (hf x hx).kept hc (Apart.one h.blk (by decide)), h.ctl⟩, hc⟩
  rintro g hg rfl
  obtain ⟨cur, hh⟩ := row_type hrow.1 hg
  rw [h.blk] at hh
  simp only [Option.some.injEq, Obj.cells.injEq] at hh
  exact absurd hh.2.1 (by decide)

set_option maxRecDepth 100000 in
set_option maxHeartbeats 1000000 in
theorem gone_any {g cap : Nat} (h : DiskR R w r (.slice (some ⟨g, 0, none⟩) E.length cap) E c a k m) (hR : ∀ b, w.heap.size ≤ b → R b) (hE : E.length ≤ 100) {j : Nat} (hj : j < E.length) :
    Calls Tryz.prog 91 #[ptr r, .int .i64 j] w fun e w' => e = .returned (.tuple #[]) ∧ (∃ v', DiskR R w' r v' (E.take j ++ E.drop (j + 1)) c a k m) ∧ Chg R w w' := by
  obtain ⟨q0, -⟩ := h.roots
  have hr := lt_of_block h.blk
  have hg := (h.row.1.lt g rfl).2
  have hcap : E.length ≤ cap := by
    rcases h.row.1.2 with ⟨hv, _⟩ | ⟨g', cap', cur, hv, _, _, h1, _⟩
    · cases hv
    · cases hv; exact h1
  obtain ⟨v2, w2, hr2, ho2, hc2, hw2⟩ := push_files (w := w.alloc (.cells #[] tF)) (World.ownsRow_made w #[] 0 (Nat.zero_le _) (by decide) rfl) (h.row.1.alloc _) h.ones (o := 0) (m := j) (c := cap) (by omega) (by omega)
  have hb2 : Below w.heap.size w w2 := ((Below.refl w.heap.size w).alloc (Nat.le_refl _) (.cells #[] tF)).trans (hc2.below (by simp) (fun k hk e => by simp [Value.ownBlock] at e; omega))
  obtain ⟨v3, w3, hr3, ho3, hc3, hw3⟩ : ∃ v3 w3, (Builtin.append_ #[tFs, tFs] tFs #[v2, .slice (some ⟨g, (if cap = j + 1 then 0 else (j + 1) * 5), none⟩) (E.length - (j + 1)) (cap - (j + 1))]).run Tryz.prog w2 = .ok v3 w3 ∧ w3.ownsRow 0 tF 5 v3 (0 + j + (E.length - (j + 1))) (([] ++ Ens.cells ((E.drop 0).take j)) ++ Ens.cells ((E.drop (j + 1)).take (E.length - (j + 1)))) ∧
      Chg (fun k => v2.ownBlock = some k) w2 w3 ∧ (∀ k, v3.ownBlock = some k → v2.ownBlock = some k ∨ w2.heap.size ≤ k) := by
    by_cases hcj : cap = j + 1
    · have em : E.length - (j + 1) = 0 := by omega
      rw [if_pos hcj, em, List.take_zero]
      have := push_files ho2 (row_kept h.row.1 (F := fun _ => False) (Chg.of_below hb2) (fun _ _ h => h)) h.ones (o := 0) (m := 0) (c := cap - (j + 1)) (by omega) (by omega)
      rw [List.take_zero, Nat.zero_mul] at this
      exact this
    · rw [if_neg hcj]
      exact push_files ho2 (row_kept h.row.1 (F := fun _ => False) (Chg.of_below hb2) (fun _ _ h => h)) h.ones (o := j + 1) (m := E.length - (j + 1)) (c := cap - (j + 1)) (by omega) (by omega)
  have hlow2 : ∀ k, v2.ownBlock = some k → w.heap.size ≤ k := fun k hk => by
    rcases hw2 k hk with h | h
    · simp [Value.ownBlock] at h; omega
    · simp at h; omega
  have hlow3 : ∀ k, v3.ownBlock = some k → w.heap.size ≤ k := fun k hk => by
    rcases hw3 k hk with h | h
    · exact hlow2 k h
    · have := hb2.size; omega
  have hb3 : Below w.heap.size w w3 := hb2.trans (hc3.below hb2.size (fun k hk e => by have := hlow2 k e; omega))
  have e3 : ([] ++ Ens.cells ((E.drop 0).take j)) ++ Ens.cells ((E.drop (j + 1)).take (E.length - (j + 1))) = Ens.cells (E.take j ++ E.drop (j + 1)) := by
    have e4 : (E.drop (j + 1)).take (E.length - (j + 1)) = E.drop (j + 1) := List.take_of_length_le (by rw [List.length_drop]; exact Nat.le_refl _)
    rw [List.nil_append, List.drop_zero, Ens.cells_append, e4]
  rw [e3] at ho3
  have hl3 : 0 + j + (E.length - (j + 1)) = (E.take j ++ E.drop (j + 1)).length := by rw [List.length_append, List.length_take, List.length_drop, Nat.min_eq_left (by omega)]; omega
  rw [hl3] at ho3
  have D3 := h.kept (F := fun _ => False) (Chg.of_below hb3) (fun h => h) (fun _ _ h => h) (Apart.none w)
  have hrow3 : Row R w3 tF 5 v3 (E.take j ++ E.drop (j + 1)).length (Ens.cells (E.take j ++ E.drop (j + 1))) := ⟨ho3, fun k hk => hR k (hlow3 k hk)⟩
  obtain ⟨D4, C4⟩ := D3.rowed hrow3 (fun x hx => D3.files x (by
    rcases List.mem_append.1 hx with h | h
    · exact List.mem_of_mem_take h
    · exact List.mem_of_mem_drop h))
  have HD4 := hid D4
  have HC4 := hid ((Chg.of_below hb3 : Chg R w w3).trans (C4.mono (fun k _ e => by rw [e]; exact h.own)))
  obtain ⟨a2, c2, hv2, -⟩ := row_shape ho2
  obtain ⟨a3, c3, hv3, -⟩ := row_shape ho3
  obtain ⟨N, hN⟩ : ∃ N, N = (E.take j ++ E.drop (j + 1)).length := ⟨_, rfl⟩
  rw [← hN] at hv3
  clear hN
  have r2 := (hb2.cell (p := ⟨r, 0, none⟩) hr).trans q0
  have r3 := (hb3.cell (p := ⟨r, 0, none⟩) hr).trans q0
  have z3 := blk_free D3.blk 0
  have hr2' : (Builtin.append_ #[tFs, tFs] tFs #[.slice (some ⟨w.heap.size, 0, none⟩) 0 0, .slice (some ⟨g, 0, none⟩) j cap]).run Tryz.prog (w.alloc (.cells #[] tF)) = .ok v2 w2 := by rw [← hr2, Nat.zero_mul]
  subst hv2
  subst hv3
  have HR2 := hid hr2'
  have HC3 := hid hr3
  clear hr2 hr2' hr3 ho2 hc2 hw2 hb2 ho3 hc3 hw3 hlow2 hlow3 hb3 e3 hl3 D3 hrow3 D4 C4 h
  by_cases hcj : cap = j + 1
  · have HR3 := HC3.out
    have em : E.length - (j + 1) = 0 := by omega
    rw [if_pos hcj, em] at HR3
    have HR3 := hid HR3
    have HEM := hid em
    clear em
    subst hcj
    go_enter Tryz.func91, Tryz.ntmps91
    go_wp2_with (at_builtin; first | refine wpList_append_run rfl (.tmp 6) (.tmp 12) tFs tFs rfl _ _ (by simp [Act.eval]) (by simp [Act.eval]) HR2.out ?_ | refine wpList_append_run rfl (.tmp 14) (.tmp 21) tFs tFs rfl _ _ (by simp [Act.eval]) (by simp [Act.eval]) HR3.out ?_)
    go_end0
    exact ⟨rfl, ⟨_, HD4.out⟩, HC4.out⟩
  · have HR3 := HC3.out
    rw [if_neg hcj] at HR3
    have HR3 := hid HR3
    go_enter Tryz.func91, Tryz.ntmps91
    go_wp2_with (at_builtin; first | refine wpList_append_run rfl (.tmp 6) (.tmp 12) tFs tFs rfl _ _ (by simp [Act.eval]) (by simp [Act.eval]) HR2.out ?_ | refine wpList_append_run rfl (.tmp 14) (.tmp 21) tFs tFs rfl _ _ (by simp [Act.eval]) (by simp [Act.eval]) HR3.out ?_)
    go_end0
    exact ⟨rfl, ⟨_, HD4.out⟩, HC4.out⟩
end
end Ref
end Go.Proofs.YtgmbiiocjhkpdaaGreat

/-
  Contract of the reference's Drop.
-/
namespace Go.Proofs.YtgmbiiocjhkpdaaGreat
open Go.RowKit
namespace Ref
open Disk
open Num (hid bcells)

/-- A file that is there, left out: as del has it. -/
theorem del_at {fs : Dir} (hr : fs.Pairwise fun p q => bytesBefore p.1 q.1 = true) {j : Nat} (hj : j < fs.length) {n : Nam} (hn : fs[j].1 = n) : fs.take j ++ fs.drop (j + 1) = del fs n := by
  have hne : ∀ i (hi : i < fs.length), i ≠ j → fs[i].1 ≠ n := by
    intro i hi hij e
    rw [List.pairwise_iff_getElem] at hr
    rcases Nat.lt_or_gt_of_ne hij with h | h
    · have := hr i j hi hj h
      rw [hn, e, bytesBefore_irrefl] at this
      cases this
    · have := hr j i hj hi h
      rw [hn, e, bytesBefore_irrefl] at this
      cases this
  have hsp : fs = fs.take j ++ fs[j] :: fs.drop (j + 1) := by rw [← List.drop_eq_getElem_cons hj, List.take_append_drop]
  have h1 : del (fs.take j) n = fs.take j := del_self (fun e he => by
    obtain ⟨i, hi, rfl⟩ := List.getElem_of_mem he
    rw [List.getElem_take]
    rw [List.length_take] at hi
    exact hne i (by omega) (by omega))
  have h2 : del (fs.drop (j + 1)) n = fs.drop (j + 1) := del_self (fun e he => by
    obtain ⟨i, hi, rfl⟩ := List.getElem_of_mem he
    rw [List.getElem_drop]
    rw [List.length_drop] at hi
    exact hne (j + 1 + i) (by omega) (by omega))
  conv => rhs; rw [hsp]
  unfold del at h1 h2 ⊢
  rw [List.filter_append, h1, List.filter_cons_of_neg (by simp [hn]), h2]

section
variable {R : Nat → Prop} {w : World} {r : Nat} {v : Value} {E : Ens} {c : Ctl} {a k m : Int}
set_option maxRecDepth 100000 in
set_option maxHeartbeats 1000000 in
theorem rdrop_any {M : Mod} (hG : Good M) (h : Refs R r M w) (hR : ∀ b, w.heap.size ≤ b → R b) (s : ByteArray) (hs : s.size ≤ maxLen) :
    Calls Tryz.prog 54 #[ptr r, .string s] w fun e w' => e = .returned (.int .i64 (M.drop s.data.toList).1) ∧ RefOut R w r (M.drop s.data.toList).2 w' := by
  obtain ⟨v, E, a, k, m, D, hE⟩ := h
  have hRr := D.own
  have hb := begin_any D hG.ok s hs false (nameFit s.data.toList) (by simp)
  have HBG := hid hb
  have h8 := hG.len hE
  clear hb D
  by_cases hr : M.c.refusal (nameFit s.data.toList) = 0
  · have e1 : M.drop s.data.toList = ((dropD s.data.toList M.fs).1, ⟨M.c.begun (nameFit s.data.toList), (dropD s.data.toList M.fs).2⟩) := run_good hr
    have HE1 := hid e1
    have HRF := hid hr
    clear e1 hr
    go_enter Tryz.func54, Tryz.ntmps54
    go_wp2_with fail
    refine HBG.out.mono ?_
    rintro e w1 ⟨rfl, hbeg⟩
    have HB := hid hbeg
    obtain ⟨a', k', m', D1, hc1⟩ := hbeg
    rw [HRF.out]
    have H := hid D1
    have HC1 := hid hc1
    clear D1 HBG hc1
    go_wp2_with fail
    refine (place_any H.out (by omega) s).mono ?_
    rintro e w2 ⟨⟨j, rfl, hp⟩, rfl⟩
    rcases place_get hp with ⟨j, hj, rfl, hget, hn⟩ | ⟨rfl, hget⟩
    · rw [hE] at hget
      have hsd : Hid (dropD s.data.toList M.fs = (0, del M.fs s.data.toList)) := hid (by unfold dropD onD; rw [hget])
      have hst : Hid (Ens.dir (E.take j ++ E.drop (j + 1)) = del M.fs s.data.toList) := hid (by
        rw [← del_at hG.rise (j := j) (by rw [← hE, dir_len]; exact hj) (by have := dir_at E j hj; simp only [hE] at this; rw [this]; exact hn), ← hE]
        unfold Ens.dir
        rw [List.map_append, List.map_take, List.map_drop])
      obtain ⟨ao, cap, hv, hao⟩ := row_shape H.out.row.1
      obtain ⟨g, hg, -⟩ := hao (by omega)
      subst hg
      subst hv
      have hR1 : Hid (∀ b, w1.heap.size ≤ b → R b) := hid (fun b hb => hR b (Nat.le_trans HC1.out.size hb))
      clear hget hp hn hao
      go_wp2_with fail
      refine (gone_any H.out hR1.out (by omega) hj).mono ?_
      rintro e w3 ⟨rfl, ⟨v3, D3⟩, hc3⟩
      have HD3 := hid D3
      have HC3 := hid hc3
      clear D3 hc3
      go_wp2
      go_ret
      refine ⟨ret_i (by rw [HE1.out, hsd.out]), ⟨_, _, _, _, _, by rw [HE1.out]; exact HD3.out, ?_⟩, (HC1.out.mono (fun k _ e => by rw [e]; exact hRr)).trans HC3.out⟩
      rw [HE1.out, hsd.out]
      exact hst.out
    · rw [hE] at hget
      have hsd : Hid (dropD s.data.toList M.fs = (14, M.fs)) := hid (by unfold dropD onD; rw [hget])
      clear hget hp
      go_wp2
      go_ret
      exact ⟨ret_i (by rw [HE1.out, hsd.out]), HB.out.out (by rw [HE1.out, hsd.out]; exact hE) hRr (by rw [HE1.out])⟩
  · have e1 : M.drop s.data.toList = (M.c.refusal (nameFit s.data.toList), ⟨M.c.begun (nameFit s.data.toList), M.fs⟩) := run_bad hr
    have HE1 := hid e1
    generalize hq : M.c.refusal (nameFit s.data.toList) = q at *
    have hq0 : (q != 0) = true := by simpa using hr
    clear e1 hr hq
    go_enter Tryz.func54, Tryz.ntmps54
    go_wp2_with fail
    refine HBG.out.mono ?_
    rintro e w1 ⟨rfl, hbeg⟩
    have HB := hid hbeg
    clear hbeg HBG
    go_wp2
    go_ret
    exact ⟨ret_i (by rw [HE1.out]), HB.out.out (by rw [HE1.out]; exact hE) hRr (by rw [HE1.out])⟩
end
end Ref
end Go.Proofs.YtgmbiiocjhkpdaaGreat
