/-
  Put together: RefPart, RefRaw, RefLoadM.
-/
import Derived.Test.YtgmbiiocjhkpdaaGreatGrpJNum
import Derived.Laws.MakeOwn
import Derived.Deep.QuietTactic
import Derived.BigQuiet
import Derived.Test.YtgmbiiocjhkpdaaGreatGrpJRb
import Derived.Test.YtgmbiiocjhkpdaaGreatGrpJRc
/-
  A row of noughts, made and as a text; a region that draws its order and makes memory alone.
-/
namespace Go.Proofs.YtgmbiiocjhkpdaaGreat
open Go.RowKit
namespace Part
open Num (hid bcells)
theorem made_zero {w : World} {base g wd : Nat} {e : TypeId} (h : w.ownsRow base e 1 (.slice (some ⟨g, 0, none⟩) wd wd) wd (madeCells #[Value.int .u8 0] wd).toList) :
    w.ownsRow base e 1 (.slice (some ⟨g, 0, none⟩) wd wd) wd (bcells (List.replicate wd 0)) := by
  rw [toList_madeCells_one] at h
  simpa [bcells] using h
/-- A region that draws its order and whose calls make memory alone: one walk of the text's order, every operation quiet in the class C. -/
theorem wp_region_quiet_in {P : Program} {id : Nat} {Q : Exit → Act → World → Prop} {a : Act} {w : World} {l : List Oper} (C : World → Prop) (hm : P.follows .mixedOrders = true) (hB : Region.lexB .any l.toArray = true) (hC : C w.drew)
    (h : wpQuiet P l.toArray C (fun a' => ∀ w', C w' → Q .normal a' w') l a) : (Code.region id l.toArray true).wp P Q a w :=
  wp_region_quiet (C := C) hm hB hC (by simpa using h)
def zerosL (n : Nat) : List UInt8 := List.replicate n 0
def zerosS (n : Nat) : ByteArray := ⟨(zerosL n).toArray⟩
theorem zerosS_size (n : Nat) : (zerosS n).size = n := by show (zerosL n).toArray.size = n; simp [zerosL]
/-- A made row of noughts. -/
theorem make_row (w : World) (n : Nat) (hn : n ≤ 1000000) : ∃ w', (Instr.makeSlice 99 (.int .i64 (n : Int)) (.int .i64 (n : Int))).run Tryz.prog w = .ok (.slice (some ⟨w.heap.size, 0, none⟩) n n) w' ∧
    w'.ownsRow w.heap.size 5 1 (.slice (some ⟨w.heap.size, 0, none⟩) n n) n (bcells (zerosL n)) ∧ Below w.heap.size w w' := by
  obtain ⟨i, hi, h0, h1, h2⟩ := info_parts Num.Tryz.info5
  obtain ⟨w', hr, ho, hg⟩ := run_make_full (P := Tryz.prog) w w.heap.size 99 5 i _ 1 Tryz.underlying99 hi h0 h1 .i64 .i64 n (by rw [h2]; omega) (by unfold maxLen; omega) (Nat.le_refl _)
  rw [Nat.mul_one] at ho
  exact ⟨w', hr, made_zero ho, (Below.refl _ w).grown hg (Nat.le_refl _) (fun k hk => by cases hk)⟩
end Part
end Go.Proofs.YtgmbiiocjhkpdaaGreat

/-
  settle, of a file of which only what is now is laid.
-/
namespace Go.Proofs.YtgmbiiocjhkpdaaGreat
open Go.RowKit
namespace Ref
open Disk
open Num (hid bcells)

/-- The disk, but file j's rows. -/
structure DiskJ (R : Nat → Prop) (w : World) (r : Nat) (v : Value) (E : Ens) (c : Ctl) (a k m : Int) (j : Nat) : Prop where
  own : R r
  blk : w.heap[r]? = some (.cells (rootC v c a k m) tD (0, 0))
  row : Row R w tF 5 v E.length (Ens.cells E)
  files : ∀ i (h : i < E.length), i ≠ j → FileR R w E[i].1 E[i].2.1 E[i].2.2
  ctl : CtlR c a k m

section
variable {R : Nat → Prop} {w : World} {r : Nat} {v : Value} {E : Ens} {c : Ctl} {a k m : Int}
theorem DiskJ.kept {F : Nat → Prop} {w' : World} {j : Nat} (h : DiskJ R w r v E c a k m j) (hc : Chg F w w') (hr : ¬ F r) (hv : ∀ g, v.ownBlock = some g → ¬ F g) (hA : Apart F w) : DiskJ R w' r v E c a k m j :=
  ⟨h.own, hc.at h.blk hr, h.row.kept hc hv, fun i hi hn => (h.files i hi hn).kept hc hA, h.ctl⟩
theorem DiskJ.drew {j : Nat} (h : DiskJ R w r v E c a k m j) : DiskJ R w.drew r v E c a k m j := h.kept (F := fun _ => False) (Chg.refl _ w).drew (fun h => h) (fun _ _ h => h) (Apart.none w)
theorem DiskJ.at {g cap j : Nat} (h : DiskJ R w r (.slice (some ⟨g, 0, none⟩) E.length cap) E c a k m j) {i : Nat} (hi : i < E.length) :
    w.cell? ⟨g, i * 5, none⟩ = some (.string E[i].1.name) ∧ w.cell? ⟨g, i * 5 + 1, none⟩ = some E[i].1.now ∧ w.cell? ⟨g, i * 5 + 2, none⟩ = some E[i].1.safe ∧ w.cell? ⟨g, i * 5 + 3, none⟩ = some E[i].1.wait ∧ w.cell? ⟨g, i * 5 + 4, none⟩ = some (.bool E[i].1.sure) := by
  obtain ⟨h1, h2, h3, h4, h5⟩ := Ens.cells_at E i hi
  have q := h.row.1
  exact ⟨(q.cellAt _ (by omega)).trans h1, (q.cellAt _ (by omega)).trans h2, (q.cellAt _ (by omega)).trans h3, (q.cellAt _ (by omega)).trans h4, (q.cellAt _ (by omega)).trans h5⟩
theorem root_apart {g : Nat} {cur : Array Value} (hb : w.heap[r]? = some (.cells (rootC v c a k m) tD (0, 0))) (hg : w.heap[g]? = some (.cells cur tF (0, 0))) : ¬ r = g := by
  rintro rfl
  rw [hb] at hg
  simp only [Option.some.injEq, Obj.cells.injEq] at hg
  exact absurd hg.2.1 (by decide)
/-- Any file in the place of one. -/
theorem DiskR.raw {g cap : Nat} (h : DiskR R w r (.slice (some ⟨g, 0, none⟩) E.length cap) E c a k m) {j : Nat} (hj : j < E.length) (f : FR) (e : Nam × Fil) :
    DiskJ R (putW w g j f) r (.slice (some ⟨g, 0, none⟩) E.length cap) (E.set j (f, e)) c a k m j := by
  have hc := putW_chg w g j f
  obtain ⟨cur, hg⟩ := row_type h.row.1 (g := g) rfl
  have hA : Apart (· = g) w := Apart.one hg (by decide)
  refine ⟨h.own, hc.at h.blk (root_apart h.blk hg), ⟨?_, h.row.2⟩, ?_, h.ctl⟩
  · rw [List.length_set, ← Ens.cells_set E j hj f e]
    exact ((((h.row.1.stored _ _).1.stored _ _).1.stored _ _).1.stored _ _).1.stored _ _ |>.1
  · intro i hi hn
    have hi' : i < E.length := by simpa using hi
    rw [List.getElem_set_ne (fun e => hn e.symm)]
    exact (h.files _ (List.getElem_mem hi')).kept hc hA
theorem DiskJ.put {g cap j : Nat} (h : DiskJ R w r (.slice (some ⟨g, 0, none⟩) E.length cap) E c a k m j) (hj : j < E.length) {f : FR} {n : Nam} {F : Fil} (hf : FileR R w f n F) :
    DiskR R (putW w g j f) r (.slice (some ⟨g, 0, none⟩) E.length cap) (E.set j (f, (n, F))) c a k m := by
  have hc := putW_chg w g j f
  obtain ⟨cur, hg⟩ := row_type h.row.1 (g := g) rfl
  have hA : Apart (· = g) w := Apart.one hg (by decide)
  refine ⟨h.own, hc.at h.blk (root_apart h.blk hg), ⟨?_, h.row.2⟩, ?_, h.ctl⟩
  · rw [List.length_set, ← Ens.cells_set E j hj f (n, F)]
    exact ((((h.row.1.stored _ _).1.stored _ _).1.stored _ _).1.stored _ _).1.stored _ _ |>.1
  · intro x hx
    obtain ⟨i, hi, rfl⟩ := List.getElem_of_mem hx
    have hi' : i < E.length := by simpa using hi
    by_cases hij : i = j
    · subst hij
      rw [List.getElem_set_self]
      exact hf.kept hc hA
    · rw [List.getElem_set_ne (fun e => hij e.symm)]
      exact (h.files i hi' hij).kept hc hA

set_option maxRecDepth 100000 in
set_option maxHeartbeats 2000000 in
theorem settle_raw {g cap j : Nat} (h : DiskJ R w r (.slice (some ⟨g, 0, none⟩) E.length cap) E c a k m j) (hR : ∀ b, w.heap.size ≤ b → R b) (hj : j < E.length) {n : Nam} {F : Fil} (hname : E[j].1.name.data.toList = n) (hnow : Row R w tC 3 E[j].1.now F.ps.length (nowsC F.ps))
    {aS aW : Option Addr} {lS cS lW cW : Nat} (eS : E[j].1.safe = .slice aS lS cS) (eW : E[j].1.wait = .slice aW lW cW) (hl : F.ps.length ≤ 20000) :
    Calls Tryz.prog 88 #[ptr r, .int .i64 j] w fun e w' => e = .returned (.tuple #[]) ∧ (∃ f, DiskR R w' r (.slice (some ⟨g, 0, none⟩) E.length cap) (E.set j (f, (n, F.sync))) c a k m) ∧ Chg R w w' := by
  have q0 : w.cell? ⟨r, 0, none⟩ = some (.slice (some ⟨g, 0, none⟩) E.length cap) := blk_cell h.blk 0
  obtain ⟨aN, cN, eN, -⟩ := row_shape hnow.1
  obtain ⟨x0, x1, x2, x3, x4⟩ := h.at hj
  rw [eN] at x1
  rw [eS] at x2
  rw [eW] at x3
  have hg := (h.row.1.lt g rfl).2
  have hr := lt_of_block h.blk
  generalize hX : E[j].1 = X at *
  obtain ⟨xn, xv, xs, xw, xu⟩ := X
  simp only at eN eS eW x0 x4 hname hnow
  subst eN eS eW
  have B1 : FBox w.heap.size ⟨xn, .slice aN F.ps.length cN, .slice aS lS cS, .slice aW lW cW, xu⟩ (w.alloc (.cells #[.string xn, .slice aN F.ps.length cN, .slice aS lS cS, .slice aW lW cW, .bool xu] tF)) := blk_new w _
  generalize hw1 : w.alloc (.cells #[.string xn, .slice aN F.ps.length cN, .slice aS lS cS, .slice aW lW cW, .bool xu] tF) = w1 at *
  have hb1 : Below w.heap.size w w1 := by rw [← hw1]; exact (Below.refl _ _).alloc (Nat.le_refl _) _
  have hs1 : w1.heap.size = w.heap.size + 1 := by rw [← hw1]; simp
  have hnow1 : w1.ownsRow 0 tC 3 (.slice aN F.ps.length cN) F.ps.length (nowsC F.ps) := row_kept hnow.1 (F := fun _ => False) (Chg.of_below hb1) (fun _ _ h => h)
  obtain ⟨v2, w2, hr2, ho2, hb2, hw2⟩ := copy_cells hnow1 (nows_one _) (by omega)
  obtain ⟨a2, c2, hv2, -⟩ := row_shape ho2
  have B2 := B1.on hb2
  have B3 := B2.safe v2
  have hsz3 : (w2.setCell ⟨w.heap.size, 2, none⟩ v2).heap.size = w2.heap.size := set_size ..
  obtain ⟨w3, hmk, ho3, hb3⟩ := make_bools (w2.setCell ⟨w.heap.size, 2, none⟩ v2) F.ps.length (by omega)
  have B4 := B3.on hb3
  have hsz4 : w2.heap.size ≤ w3.heap.size := by have := hb3.size; rw [hsz3] at this; exact this
  have B5 := (B4.wait (.slice (some ⟨w2.heap.size, 0, none⟩) F.ps.length F.ps.length)).sure true
  rw [hs1] at hr2 hw2
  rw [hsz3] at hmk ho3
  have hlo : w.heap.size + 1 ≤ w2.heap.size := by have := hb2.size; omega
  have BB2 : Below w.heap.size w w2 := hb1.trans (hb2.mono (by omega))
  have BB3 : Below w.heap.size w w3 := (BB2.setCell (p := ⟨w.heap.size, 2, none⟩) (Nat.le_refl _) v2).trans (hb3.mono (by rw [hsz3]; omega))
  have BB5 : Below w.heap.size w ((w3.setCell ⟨w.heap.size, 3, none⟩ (.slice (some ⟨w2.heap.size, 0, none⟩) F.ps.length F.ps.length)).setCell ⟨w.heap.size, 4, none⟩ (.bool true)) := (BB3.setCell (p := ⟨w.heap.size, 3, none⟩) (Nat.le_refl _) _).setCell (p := ⟨w.heap.size, 4, none⟩) (Nat.le_refl _) _
  have D5 := h.kept (F := fun _ => False) (Chg.of_below BB5) (fun h => h) (fun _ _ h => h) (Apart.none w)
  have C35 : Chg (· = w.heap.size) w3 ((w3.setCell ⟨w.heap.size, 3, none⟩ (.slice (some ⟨w2.heap.size, 0, none⟩) F.ps.length F.ps.length)).setCell ⟨w.heap.size, 4, none⟩ (.bool true)) := ((Chg.refl _ _).root _ _).root _ _
  have C25 : Chg (· = w.heap.size) w2 ((w3.setCell ⟨w.heap.size, 3, none⟩ (.slice (some ⟨w2.heap.size, 0, none⟩) F.ps.length F.ps.length)).setCell ⟨w.heap.size, 4, none⟩ (.bool true)) := (((Chg.refl _ w2).root 2 v2).trans (Chg.of_below hb3)).trans C35
  have N5 : FileR R ((w3.setCell ⟨w.heap.size, 3, none⟩ (.slice (some ⟨w2.heap.size, 0, none⟩) F.ps.length F.ps.length)).setCell ⟨w.heap.size, 4, none⟩ (.bool true)) ⟨xn, .slice aN F.ps.length cN, v2, .slice (some ⟨w2.heap.size, 0, none⟩) F.ps.length F.ps.length, true⟩ n F.sync := by
    refine ⟨hname, rfl, ?_, ?_, ?_⟩
    · rw [sync_len, sync_now]
      exact hnow.kept (F := fun _ => False) (Chg.of_below BB5) (fun _ _ h => h)
    · rw [sync_len, sync_safe]
      exact ⟨row_kept ho2 C25 (fun k hk e => by have := hw2 k hk; omega), fun k hk => hR k (by have := hw2 k hk; omega)⟩
    · rw [sync_len, sync_wait]
      exact ⟨row_kept (row_low ho3) C35 (fun k hk e => by simp [Value.ownBlock] at hk; omega), fun k hk => hR k (by simp [Value.ownBlock] at hk; omega)⟩
  have HP := hid (D5.put hj N5)
  have HC := hid (((Chg.of_below BB5 : Chg R w _).trans (((putW_chg _ g j ⟨xn, .slice aN F.ps.length cN, v2, .slice (some ⟨w2.heap.size, 0, none⟩) F.ps.length F.ps.length, true⟩)).mono (fun k _ e => by rw [e]; exact h.row.2 g rfl))))
  have r3 := (BB3.cell (p := ⟨r, 0, none⟩) hr).trans q0
  subst hv2
  obtain ⟨y0, y1, y2, y3, y4⟩ := B1.cells
  obtain ⟨z0, z1, z2, z3, z4⟩ := B2.frees
  obtain ⟨t0, t1, t2, t3, t4⟩ := B2.cells
  obtain ⟨s0, s1, s2, s3, s4⟩ := B4.cells
  obtain ⟨f0, f1, f2, f3, f4⟩ := B4.frees
  have HR2 := hid hr2
  have zg := fun i => World.ownsRow.frozenAt D5.row.1 i
  have zg2 : ∀ i, w3.frozen? ⟨g, i, none⟩ = false := fun i => by
    have := zg i
    rw [set_frozen_other (by show g ≠ w.heap.size; omega), set_frozen_other (by show g ≠ w.heap.size; omega)] at this
    exact this
  have zg0 := zg2 (j * 5)
  have zg1 := zg2 (j * 5 + 1)
  have zg3 := zg2 (j * 5 + 2)
  have zg4 := zg2 (j * 5 + 3)
  have zg5 := zg2 (j * 5 + 4)
  have p0 := (BB3.cell (p := ⟨g, j * 5, none⟩) hg).trans x0
  have p1 := (BB3.cell (p := ⟨g, j * 5 + 1, none⟩) hg).trans x1
  have p2 := (BB3.cell (p := ⟨g, j * 5 + 2, none⟩) hg).trans x2
  have p3 := (BB3.cell (p := ⟨g, j * 5 + 3, none⟩) hg).trans x3
  have p4 := (BB3.cell (p := ⟨g, j * 5 + 4, none⟩) hg).trans x4
  clear hr2 ho2 hw2 hb2 hb3 ho3 BB2 BB3 BB5 D5 C35 C25 N5 h hnow hnow1 B1 B2 B3 B4 zg zg2
  go_enter Tryz.func88, Tryz.ntmps88
  go_wp2_with (at_builtin; refine wpList_append_run rfl (.tmp 12) (.tmp 14) tCs tCs rfl _ _ (by simp [Act.eval]) (by simp [Act.eval]) HR2.out ?_)
  go_region
  go_wp2
  go_end0
  exact ⟨rfl, ⟨_, HP.out.drew⟩, HC.out.drew⟩
end
end Ref
end Go.Proofs.YtgmbiiocjhkpdaaGreat

/-
  The reference's Load.
-/
namespace Go.Proofs.YtgmbiiocjhkpdaaGreat
open Go.RowKit
namespace Ref
open Disk
open Num (hid bcells)

/-- string(make([]byte, n)) in two steps, n = 0 too. -/
theorem make_conv (w : World) (n : Nat) (hn : n ≤ 1000000) : ∃ w', (Instr.makeSlice 99 (.int .i64 (n : Int)) (.int .i64 (n : Int))).run Tryz.prog w = .ok (.slice (some ⟨w.heap.size, 0, none⟩) n n) w' ∧
    (convert 99 9 (.slice (some ⟨w.heap.size, 0, none⟩) n n)).run Tryz.prog w' = .ok (.string (Part.zerosS n)) w' ∧ Below w.heap.size w w' := by
  obtain ⟨w', hr, ho, hb⟩ := Part.make_row w n hn
  have hl : (Part.zerosL n).length = n := by simp [Part.zerosL]
  have := run_convert_bytes_back (P := Tryz.prog) w' 99 9 5 ⟨w.heap.size, 0, none⟩ n (Part.zerosL n) Tryz.underlying99 Tryz.underlying5 Tryz.underlying9 (fun j hj => by
    have := ho.cells (g := w.heap.size) rfl j (.int .u8 ((Part.zerosL n)[j].toNat : Int)) (by simp [bcells, hj])
    exact this)
  rw [hl] at this
  exact ⟨w', hr, this, hb⟩

/-- The first k sectors are there: the file at the block behind w. -/
def LoadR (w : World) (s : ByteArray) (l : List UInt8) (k : Nat) (wr : World) : Prop :=
  ∃ v, wr.heap[w.heap.size]? = some (.cells #[.string s, v, .slice none 0 0, .slice none 0 0, .bool false] tF (0, 0)) ∧ wr.ownsRow 0 tC 3 v k (nowsC ((loadedF l).ps.take k)) ∧ Below w.heap.size w wr ∧ ∀ g, v.ownBlock = some g → w.heap.size ≤ g
theorem load_none (w : World) (s : ByteArray) (l : List UInt8) : LoadR w s l 0 (w.alloc (.cells #[.string s, .slice none 0 0, .slice none 0 0, .slice none 0 0, .bool false] tF)) :=
  ⟨_, blk_new _ _, World.ownsRow_nil _ _ _ _, (Below.refl _ w).alloc (Nat.le_refl _) _, fun g hg => by cases hg⟩
theorem bytes_of {p : ByteArray} {l : List UInt8} (h : p.data.toList = l) : p = ⟨l.toArray⟩ := by
  cases p
  simp only at h
  subst h
  simp
theorem load_ready {w wr w1 : World} {s : ByteArray} {l : List UInt8} {k : Nat} (h : LoadR w s l k wr) (hk : k < (loadedF l).ps.length) (hl : (loadedF l).ps.length ≤ 16384) (hb1 : Below wr.heap.size wr w1) (p : ByteArray) (hp : p.data.toList = fitted (l.drop (k * 256))) :
    ∃ ao cap a2 c2 w6, (Builtin.append_ #[tCs, tCs] tCs #[.slice ao k cap, .slice (some ⟨w1.heap.size, 0, none⟩) 1 1]).run Tryz.prog (w1.alloc (.cells #[.bool true, .string p, .bool false] tC)) = .ok (.slice a2 (k + 1) c2) w6 ∧
      w.heap.size < w1.heap.size ∧ w1.cell? ⟨w.heap.size, 1, none⟩ = some (.slice ao k cap) ∧ w6.cell? ⟨w.heap.size, 1, none⟩ = some (.slice ao k cap) ∧ w6.frozen? ⟨w.heap.size, 1, none⟩ = false ∧
      LoadR w s l (k + 1) (w6.setCell ⟨w.heap.size, 1, none⟩ (.slice a2 (k + 1) c2)) := by
  obtain ⟨v, hblk, hown, hb, hlow⟩ := h
  have hb1' : Chg (fun _ => False) wr w1 := Chg.of_below hb1
  have hblk1 := hb1'.at hblk (fun h => h)
  have hown1 : w1.ownsRow 0 tC 3 v k (nowsC ((loadedF l).ps.take k)) := row_kept hown hb1' (fun _ _ h => h)
  have hne : ¬ v.ownBlock = some w.heap.size := by
    intro e
    obtain ⟨cur, hg⟩ := row_type hown1 e
    rw [hblk1] at hg
    simp only [Option.some.injEq, Obj.cells.injEq] at hg
    exact absurd hg.2.1 (by decide)
  obtain ⟨v', w6, hr, hrow, hc, hw⟩ := push_cell hown1 (x := .bool true) (y := .string p) (z := .bool false) rfl rfl rfl (by omega)
  obtain ⟨ao, cap, rfl, -⟩ := row_shape hown1
  obtain ⟨a2, c2, rfl, -⟩ := row_shape hrow
  have hblk6 := hc.at hblk1 (fun e => hne e)
  have hvne : ¬ (Value.slice a2 (k + 1) c2).ownBlock = some w.heap.size := by
    intro e
    rcases hw _ e with e2 | e2
    · exact hne e2
    · have := lt_of_block hblk1; omega
  refine ⟨ao, cap, a2, c2, w6, hr, lt_of_block hblk1, blk_cell hblk1 1, blk_cell hblk6 1, blk_free hblk6 1, _, blk_set hblk6 1 _, ?_, ?_, ?_⟩
  · have e : nowsC ((loadedF l).ps.take (k + 1)) = nowsC ((loadedF l).ps.take k) ++ [.bool true, .string p, .bool false] := by
      rw [List.take_succ_eq_append_getElem hk, nows_append, loaded_get l k hk, bytes_of hp]
      rfl
    rw [e]
    exact ownsRow_setCell_other hrow hvne _
  · have h6 : Chg (fun k => (Value.slice ao k cap).ownBlock = some k ∨ True) w1 w6 := hc.mono (fun _ _ _ => Or.inr trivial)
    have b6 : Below w.heap.size w w6 := by
      have b1 := hb.trans (hb1.mono hb.size)
      refine ⟨hc.os.trans b1.os, hc.tape.trans b1.tape, hc.output.trans b1.output, Nat.le_trans b1.size hc.size, fun i hi => (hc.block i (Nat.lt_of_lt_of_le hi b1.size) (fun e => ?_)).trans (b1.block i hi)⟩
      have := hlow i e
      omega
    exact b6.setCell (p := ⟨w.heap.size, 1, none⟩) (Nat.le_refl _) _
  · intro g e
    rcases hw g e with e2 | e2
    · exact hlow g e2
    · have := lt_of_block hblk1; omega
theorem part_short (l : ByteArray) (k : Nat) (h : ¬ 256 < l.size - k * 256) : (l.extract (k * 256) l.size ++ Part.zerosS (256 - (l.size - k * 256))).data.toList = fitted (l.data.toList.drop (k * 256)) := by
  have hl : l.size = l.data.toList.length := rfl
  rw [ByteArray.data_append, Array.toList_append, extract_drop]
  unfold fitted Part.zerosS Part.zerosL
  rw [List.take_of_length_le (by rw [List.length_drop]; omega), List.length_drop, ← hl]
theorem part_full (l : ByteArray) (k : Nat) (h : 256 < l.size - k * 256) : ((l.extract (k * 256) l.size).extract 0 256 ++ Part.zerosS 0).data.toList = fitted (l.data.toList.drop (k * 256)) := by
  have hl : l.size = l.data.toList.length := rfl
  rw [ByteArray.data_append, Array.toList_append, ByteArray.data_extract, Array.toList_extract, List.extract_eq_take_drop, extract_drop, List.drop_zero]
  unfold fitted Part.zerosS Part.zerosL
  rw [List.length_drop, ← hl, show 256 - (l.size - k * 256) = 0 by omega]
theorem sync_loaded (l : List UInt8) : (loadedF l).sync = loadedF l := by
  unfold Fil.sync loadedF
  simp
end Ref
end Go.Proofs.YtgmbiiocjhkpdaaGreat
