/-
  A shelf in memory; contracts of its calls.
-/
import Derived.Test.YtkoglikaaehhjaaGreatDoorShelfGive
import Derived.Test.YtkoglikaaehhjaaGreatDoorQuietTail
import Derived.Deep.RegionHeld3
import Derived.BigQuiet
namespace Go.Proofs.YtkoglikaaehhjaaGreatDoor
open Go.RowKit
namespace Sh
open Sp
open Num (hid)
open Mem (Bs bs IAt tI tS tIs tSs Chg Row ptr blk_cell blk_free blk_new blk_set blk_other blk_alloc row_kept row_shape row_type)
abbrev tSh : TypeId := 73
abbrev shC (lim : Int) (h : Hd) (d : Nat) (arm : Int) : Array Value := #[.int .i64 lim, .int .i64 h.mode, .int .i64 h.pages, .int .i64 h.trunk, .int .i64 h.spare, .int .i64 h.root, .int .u64 (h.change : Nat), .map (some d), .int .i64 arm]
/-- The shelf's box. -/
abbrev ShBlk (s d : Nat) (lim : Int) (h : Hd) (arm : Int) (w : World) : Prop := w.heap[s]? = some (.cells (shC lim h d arm) tSh (0, 0))
structure ShAt (s d : Nat) (lim : Int) (h : Hd) (arm : Int) (S : St) (w : World) : Prop where
  blk : ShBlk s d lim h arm w
  pages : DeskR (· = d) w d 0 S
variable {s d : Nat} {lim : Int} {h : Hd} {arm : Int} {S : St} {w w' : World}
theorem ShAt.ne (A : ShAt s d lim h arm S w) : s ≠ d := by
  rintro rfl
  obtain ⟨D, ⟨es, clock, hb, -⟩, -⟩ := A.pages.map
  have := A.blk.symm.trans hb
  cases this
theorem ShBlk.cells (b : ShBlk s d lim h arm w) : w.cell? ⟨s, 0, none⟩ = some (.int .i64 lim) ∧ w.cell? ⟨s, 1, none⟩ = some (.int .i64 h.mode) ∧ w.cell? ⟨s, 2, none⟩ = some (.int .i64 h.pages) ∧ w.cell? ⟨s, 3, none⟩ = some (.int .i64 h.trunk) ∧ w.cell? ⟨s, 4, none⟩ = some (.int .i64 h.spare) ∧ w.cell? ⟨s, 5, none⟩ = some (.int .i64 h.root) ∧ w.cell? ⟨s, 6, none⟩ = some (.int .u64 (h.change : Nat)) ∧ w.cell? ⟨s, 7, none⟩ = some (.map (some d)) ∧ w.cell? ⟨s, 8, none⟩ = some (.int .i64 arm) :=
  ⟨blk_cell b 0, blk_cell b 1, blk_cell b 2, blk_cell b 3, blk_cell b 4, blk_cell b 5, blk_cell b 6, blk_cell b 7, blk_cell b 8⟩
theorem ShBlk.free (b : ShBlk s d lim h arm w) : w.frozen? ⟨s, 1, none⟩ = false ∧ w.frozen? ⟨s, 2, none⟩ = false ∧ w.frozen? ⟨s, 3, none⟩ = false ∧ w.frozen? ⟨s, 4, none⟩ = false ∧ w.frozen? ⟨s, 5, none⟩ = false ∧ w.frozen? ⟨s, 6, none⟩ = false ∧ w.frozen? ⟨s, 8, none⟩ = false :=
  ⟨blk_free b 1, blk_free b 2, blk_free b 3, blk_free b 4, blk_free b 5, blk_free b 6, blk_free b 8⟩
abbrev putH (w : World) (s : Nat) (g : Hd) : World := (((((w.setCell ⟨s, 1, none⟩ (.int .i64 g.mode)).setCell ⟨s, 2, none⟩ (.int .i64 g.pages)).setCell ⟨s, 3, none⟩ (.int .i64 g.trunk)).setCell ⟨s, 4, none⟩ (.int .i64 g.spare)).setCell ⟨s, 5, none⟩ (.int .i64 g.root)).setCell ⟨s, 6, none⟩ (.int .u64 (g.change : Nat))
theorem ShBlk.put (b : ShBlk s d lim h arm w) (g : Hd) : ShBlk s d lim g arm (putH w s g) :=
  blk_set (blk_set (blk_set (blk_set (blk_set (blk_set b 1 (.int .i64 g.mode)) 2 (.int .i64 g.pages)) 3 (.int .i64 g.trunk)) 4 (.int .i64 g.spare)) 5 (.int .i64 g.root)) 6 (.int .u64 (g.change : Nat))
abbrev Two (s d : Nat) : Nat → Prop := fun k => k = s ∨ k = d
theorem ShAt.apart {F : Nat → Prop} (A : ShAt s d lim h arm S w) (hc : Chg F w w') (h1 : ¬ F s) (h2 : ¬ F d) : ShAt s d lim h arm S w' :=
  ⟨hc.at A.blk h1, A.pages.apart hc (fun _ hk e => h2 (e ▸ hk))⟩
theorem ShAt.on (A : ShAt s d lim h arm S w) (hb : Below w.heap.size w w') : ShAt s d lim h arm S w' := A.apart (F := fun _ => False) (Chg.of_below hb) id id
theorem ShAt.lt (A : ShAt s d lim h arm S w) : s < w.heap.size ∧ d < w.heap.size := ⟨lt_of_block A.blk, A.pages.lt⟩
/-! ### Take and Give over the shelf's map -/
theorem take_map (D : DeskR (· = d) w d 0 S) {c : Nat} (hS : Small c S) (hc : c ≤ 30000) (hd : Hd) (hf : Fit hd) :
    Calls Tryz.prog 42 #[hV hd, dkV d] w fun e w' => e = .returned (takeV (takeM hd S).1) ∧ DeskR (· = d) w' d 0 (takeM hd S).2 ∧ Chg (· = d) w w' := by
  have D1 : DeskR (fun k => k = d ∨ w.heap.size ≤ k) w d 0 S := ⟨Or.inl rfl, D.len, D.map⟩
  refine (take_any D1 (fun k hk => Or.inr hk) hS (by omega) hd hf).mono ?_
  rintro e w' ⟨rfl, D2, C2⟩
  exact ⟨rfl, ⟨rfl, D2.len, D2.map⟩, C2.mono (fun k hk e => by omega)⟩
theorem give_map (D : DeskR (· = d) w d 0 S) {c : Nat} (hS : Small c S) (hc : c ≤ 30000) (hd : Hd) (hf : Fit hd) (n : Int) :
    Calls Tryz.prog 152 #[hV hd, dkV d, .int .i64 n] w fun e w' => e = .returned (giveV (giveM hd S n).1) ∧ DeskR (· = d) w' d 0 (giveM hd S n).2 ∧ Chg (· = d) w w' := by
  have D1 : DeskR (fun k => k = d ∨ w.heap.size ≤ k) w d 0 S := ⟨Or.inl rfl, D.len, D.map⟩
  refine (give_any D1 (fun k hk => Or.inr hk) hS (by omega) hd hf n).mono ?_
  rintro e w' ⟨rfl, D2, C2⟩
  exact ⟨rfl, ⟨rfl, D2.len, D2.map⟩, C2.mono (fun k hk e => by omega)⟩
/-! ### call -/
theorem call_ok (b : ShBlk s d lim h arm w) (ha : arm < 1) : Calls Tryz.prog 39 #[ptr s] w fun e w' => e = .returned (.int .i64 0) ∧ w = w' := by
  obtain ⟨-, -, -, -, -, -, -, -, c8⟩ := b.cells
  have h1 : (arm == 1) = false := by simp; omega
  have h2 : ¬ 1 < arm := by omega
  clear b ha
  go_enter Tryz.func39, Tryz.ntmps39
  go_wp2
  go_ret
  exact ⟨rfl, rfl⟩
theorem call_io (b : ShBlk s d lim h 1 w) : Calls Tryz.prog 39 #[ptr s] w fun e w' => e = .returned (.int .i64 11) ∧ w = w' := by
  obtain ⟨-, -, -, -, -, -, -, -, c8⟩ := b.cells
  clear b
  go_enter Tryz.func39, Tryz.ntmps39
  go_wp2
  go_ret
  exact ⟨rfl, rfl⟩
theorem call_nil (w : World) : Calls Tryz.prog 39 #[.pointer none] w fun e w' => e = .returned (.int .i64 2) ∧ w = w' := by
  go_enter Tryz.func39, Tryz.ntmps39
  go_wp2
  go_ret
  exact ⟨rfl, rfl⟩
/-! ### Get, Put -/
set_option maxRecDepth 100000 in
theorem get_ok (A : ShAt s d lim h arm S w) (ha : arm < 1) {n : Int} (hn : Wf n) :
    Calls Tryz.prog 20 #[ptr s, .int .i64 n] w fun e w' => e = .returned (.tuple #[.string (bs (S.get n).1.1), .int .i64 (S.get n).1.2]) ∧ Below w.heap.size w w' := by
  obtain ⟨-, -, -, -, -, -, -, c7, -⟩ := A.blk.cells
  have HC := hid (call_ok A.blk ha)
  have HG := hid (pget_any A.pages hn)
  generalize (S.get n).1 = x at *
  clear A ha hn
  go_enter Tryz.func20, Tryz.ntmps20
  go_wp2_with fail
  refine HC.out.mono ?_
  rintro e w1 ⟨rfl, rfl⟩
  go_wp2_with fail
  refine HG.out.mono ?_
  rintro e w2 ⟨rfl, hb⟩
  have HB := hid hb
  clear hb c7
  go_wp2
  go_ret2
  exact ⟨rfl, HB.out⟩
set_option maxRecDepth 100000 in
theorem get_io (b : ShBlk s d lim h 1 w) (n : Int) :
    Calls Tryz.prog 20 #[ptr s, .int .i64 n] w fun e w' => e = .returned (.tuple #[.string ⟨#[]⟩, .int .i64 11]) ∧ w = w' := by
  have HC := hid (call_io b)
  clear b
  go_enter Tryz.func20, Tryz.ntmps20
  go_wp2_with fail
  refine HC.out.mono ?_
  rintro e w1 ⟨rfl, rfl⟩
  go_wp2
  go_ret2
  exact ⟨rfl, rfl⟩
set_option maxRecDepth 100000 in
theorem put_ok (A : ShAt s d lim h arm S w) (ha : arm < 1) {c : Nat} (hS : Small c S) (hc : c ≤ 50000) {n : Int} (hn : Wf n) (x : Bs) :
    Calls Tryz.prog 26 #[ptr s, .int .i64 n, .string (bs x)] w fun e w' => e = .returned (.int .i64 (S.put n x).1) ∧ ShAt s d lim h arm (S.put n x).2 w' ∧ Chg (Two s d) w w' := by
  obtain ⟨-, -, -, -, -, -, -, c7, -⟩ := A.blk.cells
  have HC := hid (call_ok A.blk ha)
  have HP := hid (dput_any A.pages hS hc n hn x)
  have HA := hid A
  generalize S.put n x = y at *
  clear A ha hn hS hc
  go_enter Tryz.func26, Tryz.ntmps26
  go_wp2_with fail
  refine HC.out.mono ?_
  rintro e w1 ⟨rfl, rfl⟩
  go_wp2_with fail
  refine HP.out.mono ?_
  rintro e w2 ⟨rfl, hd, hc⟩
  have HF : Hid (ShAt s d lim h arm y.2 w2 ∧ Chg (Two s d) w w2) := hid ⟨⟨hc.at HA.out.blk HA.out.ne, hd⟩, hc.mono (fun _ _ e => Or.inr e)⟩
  clear hd hc c7
  go_wp2
  go_ret
  exact ⟨rfl, HF.out.1, HF.out.2⟩
set_option maxRecDepth 100000 in
theorem put_io (b : ShBlk s d lim h 1 w) (n : Int) (x : ByteArray) :
    Calls Tryz.prog 26 #[ptr s, .int .i64 n, .string x] w fun e w' => e = .returned (.int .i64 11) ∧ w = w' := by
  have HC := hid (call_io b)
  clear b
  go_enter Tryz.func26, Tryz.ntmps26
  go_wp2_with fail
  refine HC.out.mono ?_
  rintro e w1 ⟨rfl, rfl⟩
  go_wp2
  go_ret
  exact ⟨rfl, rfl⟩
set_option maxRecDepth 100000 in
theorem put_nil (w : World) (n : Int) (x : ByteArray) :
    Calls Tryz.prog 26 #[.pointer none, .int .i64 n, .string x] w fun e w' => e = .returned (.int .i64 2) ∧ w = w' := by
  have HC := hid (call_nil w)
  go_enter Tryz.func26, Tryz.ntmps26
  go_wp2_with fail
  refine HC.out.mono ?_
  rintro e w1 ⟨rfl, rfl⟩
  go_wp2
  go_ret
  exact ⟨rfl, rfl⟩
/-! ### Head, Arm -/
set_option maxRecDepth 100000 in
theorem head_ok (b : ShBlk s d lim h arm w) : Calls Tryz.prog 18 #[ptr s] w fun e w' => e = .returned (hV h) ∧ Below w.heap.size w w' := by
  have hlt := lt_of_block b
  have b2 : ShBlk s d lim h arm (w.alloc zObj) := blk_alloc b _
  obtain ⟨-, c1, c2, c3, c4, c5, c6, -, -⟩ := b2.cells
  have HB := hid ((Below.refl w.heap.size w).alloc (Nat.le_refl _) (hObj h))
  clear b b2
  go_enter Tryz.func18, Tryz.ntmps18
  go_wp2
  refine @bodyPost_ret Tryz.prog Tryz.f18 (fun e w' => e = .returned (hV h) ∧ Below w.heap.size w w') _ _ (hV h) ?_ ?_ ?_
  · simp [results, hV, go_sem]
  · rfl
  · exact ⟨rfl, HB.out⟩
set_option maxRecDepth 100000 in
theorem head_nil (w : World) : Calls Tryz.prog 18 #[.pointer none] w fun e w' => e = .returned (hV hd0) ∧ Below w.heap.size w w' := by
  have HB := hid ((Below.refl w.heap.size w).alloc (Nat.le_refl _) (hObj hd0))
  go_enter Tryz.func18, Tryz.ntmps18
  go_wp2
  refine @bodyPost_ret Tryz.prog Tryz.f18 (fun e w' => e = .returned (hV hd0) ∧ Below w.heap.size w w') _ _ (hV hd0) ?_ ?_ ?_
  · simp [results, hV, hd0, go_sem]
  · rfl
  · exact ⟨rfl, HB.out⟩
set_option maxRecDepth 100000 in
theorem arm_any (A : ShAt s d lim h arm S w) (n : Int) : Calls Tryz.prog 23 #[ptr s, .int .i64 n] w fun e w' => e = .returned (.tuple #[]) ∧ ShAt s d lim h n S w' ∧ Chg (Two s d) w w' := by
  obtain ⟨-, -, -, -, -, -, -, -, c8⟩ := A.blk.cells
  obtain ⟨-, -, -, -, -, -, f8⟩ := A.blk.free
  have hlt := A.lt.1
  have HC : Hid (Chg (· = s) w (w.setCell ⟨s, 8, none⟩ (.int .i64 n))) := hid ((Chg.refl _ w).root 8 _)
  have HA : Hid (ShAt s d lim h n S (w.setCell ⟨s, 8, none⟩ (.int .i64 n))) := hid ⟨blk_set A.blk 8 _, A.pages.apart HC.out (fun k hk e => A.ne (hk.symm.trans e))⟩
  clear A
  go_enter Tryz.func23, Tryz.ntmps23
  go_wp2
  refine bodyPost_end (results_none rfl _ _ _) rfl ?_
  exact ⟨rfl, HA.out, HC.out.mono (fun _ _ e => Or.inl e)⟩
end Sh
end Go.Proofs.YtkoglikaaehhjaaGreatDoor
