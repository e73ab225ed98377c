/-
  Put together: DiskFits, DiskDoesS, RefMem, RefCtl, RefBegin, RefLook, RefRow.
-/
import Derived.Test.YtgmbiiocjhkpdaaGreatGrpJDke
import Derived.Laws.Strings
/-
  The names of a disk, plainly: they fit; how many there are; what is behind acts.
-/
namespace Go.Proofs.YtgmbiiocjhkpdaaGreat
open Go.RowKit
namespace Disk

/-- All names fit. -/
def Fits (fs : Dir) : Prop := ∀ e ∈ fs, nameFit e.1 = true
theorem Fits.ins {fs : Dir} (h : Fits fs) {n : Nam} (hn : nameFit n = true) (F : Fil) : Fits (ins fs n F) := fun e he => by
  rcases mem_ins he with rfl | ⟨he, _⟩
  · exact hn
  · exact h e he
theorem Fits.del {fs : Dir} (h : Fits fs) (n : Nam) : Fits (del fs n) := fun e he => h e (mem_del he).1
theorem wakes_mem (l : List Int) : ∀ (fs : Dir) (k : Nat) {e : Nam × Fil}, e ∈ wakes l k fs → ∃ F, (e.1, F) ∈ fs
  | [], _, e, h => by simp [wakes] at h
  | x :: r, k, e, h => by
    unfold wakes at h
    rw [List.mem_append] at h
    rcases h with h | h
    · split at h
      · rw [List.mem_singleton] at h; subst h; exact ⟨x.2, List.mem_cons_self ..⟩
      · cases h
    · obtain ⟨F, hF⟩ := wakes_mem l r _ h
      exact ⟨F, List.mem_cons_of_mem _ hF⟩
theorem Fits.wakes {fs : Dir} (h : Fits fs) (l : List Int) (k : Nat) : Fits (wakes l k fs) := fun e he => by
  obtain ⟨F, hF⟩ := wakes_mem l fs k he
  exact h (e.1, F) hF
theorem refusal_fit {c : Ctl} {fit : Bool} (h : ¬ c.refusal fit ≠ 0) : fit = true := by
  cases fit with
  | true => rfl
  | false => exact absurd (by simp [Ctl.refusal]) h
theorem Fits.run {M : Mod} (h : Fits M.fs) {fit : Bool} {n : Nam} (hfit : fit = true → nameFit n = true) {f : Dir → Int × Dir} (hf : nameFit n = true → Fits (f M.fs).2) : Fits (M.run fit f).2.fs := by
  unfold Mod.run
  split
  · exact h
  · rename_i hr
    exact hf (hfit (refusal_fit hr))
theorem Fits.write {M : Mod} (h : Fits M.fs) (n : Nam) (i : Int) (l : List UInt8) : Fits (M.write n i l).2.fs := by
  refine Fits.run h (n := n) (fun e => by simp only [Bool.and_eq_true] at e; exact e.1.1) fun hn => ?_
  unfold writeD
  simp only []
  repeat' split
  · exact h
  · exact h
  · exact h.ins hn _
theorem Fits.onD {fs : Dir} (h : Fits fs) (n : Nam) {f : Fil → Int × Dir} (hf : ∀ F, Fits (f F).2) : Fits (onD n f fs).2 := by
  unfold Disk.onD
  split
  · exact h
  · exact hf _
theorem Fits.sync {M : Mod} (h : Fits M.fs) (n : Nam) : Fits (M.sync n).2.fs := Fits.run h (n := n) (fun e => e) fun hn => h.onD n fun _ => h.ins hn _
theorem Fits.cut {M : Mod} (h : Fits M.fs) (n : Nam) (i : Int) : Fits (M.cut n i).2.fs := by
  refine Fits.run h (n := n) (fun e => by simp only [Bool.and_eq_true] at e; exact e.2) fun hn => h.onD n fun _ => ?_
  split
  · exact h
  · exact h.ins hn _
theorem Fits.drop {M : Mod} (h : Fits M.fs) (n : Nam) : Fits (M.drop n).2.fs := Fits.run h (n := n) (fun e => e) fun _ => h.onD n fun _ => h.del n
theorem Fits.read {M : Mod} (h : Fits M.fs) (n : Nam) (i : Int) : Fits (M.read n i).2.2.fs := by
  unfold Mod.read
  split <;> exact h
theorem Fits.on {M : Mod} (h : Fits M.fs) (l : List Int) : Fits (M.on l).fs := by
  unfold Mod.on
  split
  · exact h.wakes l 0
  · exact h
theorem Fits.load {M : Mod} (h : Fits M.fs) (n : Nam) (l : List UInt8) : Fits (M.load n l).2.fs := by
  unfold Mod.load
  split
  · exact h
  · rename_i hn
    split
    · exact h
    · refine h.ins ?_ _
      cases e : nameFit n
      · exact absurd (Or.inl e) hn
      · rfl
theorem Fits.does {M : Mod} (h : Fits M.fs) (x : ActM) : Fits (M.does x).2.2.fs := by
  unfold Mod.does
  repeat' split
  · exact h.read _ _
  · exact h.write _ _ _
  · exact h.sync _
  · exact h.cut _ _
  · exact h.drop _
  · exact h
  · exact h
  · exact h
  · exact h.on _
  · exact h.load _ _
  · exact h
theorem Fits.play : ∀ (l : List ActM) {M : Mod}, Fits M.fs → Fits (playM l M).fs
  | [], _, h => h
  | x :: r, _, h => Fits.play r (h.does x)
theorem Fits.new (room : Int) : Fits (Mod.new room).fs := fun e he => by cases he
theorem Fits.filled (l : List ActM) : Fits (filledM l).fs := (Fits.on (Fits.play _ (Fits.new _)) [])
theorem filled_up (l : List ActM) : (filledM l).c.down = false := by
  show (((playM (l.take 80) (Mod.new 16384)).on []).arm 0 0 0).c.down = false
  unfold Mod.arm Ctl.armed
  rw [if_pos (by decide)]
  show ((playM (l.take 80) (Mod.new 16384)).on []).c.down = false
  unfold Mod.on
  split
  · rfl
  · rename_i h; simpa using h
theorem name_small {fs : Dir} (h : Fits fs) {n : Nam} (hn : n ∈ fs.map (·.1)) : n.length ≤ 16 := by
  obtain ⟨e, he, rfl⟩ := List.mem_map.1 hn
  have := h e he
  unfold nameFit at this
  have := of_decide_eq_true this
  omega

end Disk
end Go.Proofs.YtgmbiiocjhkpdaaGreat

/-
  An act, whatever it is, on a disk beside other memory.
-/
namespace Go.Proofs.YtgmbiiocjhkpdaaGreat
open Go.RowKit
namespace Disk
open Num (hid bcells)

def DoesOutS (O : Nat → Prop) (d m : Nat) (M : Mod) (x : ActM) (w : World) (e : Ending) (w' : World) : Prop :=
  e = .returned (.tuple #[.string ⟨(M.does x).1.toArray⟩, .int .i64 (M.does x).2.1]) ∧ Sees O d m (M.does x).2.2 w' ∧ Stays O w w'
/-- What an act that came in is. -/
structure ActOkS (O : Nat → Prop) (w : World) (x : ActM) : Prop where
  name : x.name.size ≤ maxLen
  n : x.n ≤ 9223372036854775807
  len : x.len ≤ 9223372036854775807
  ints : IntsAt w x.fv x.fates
  few : x.fates.length ≤ maxLen
  old : ∀ b o n cap, x.fv = .slice (some ⟨b, o, none⟩) n cap → n ≠ 0 → O b
theorem ActM.shapeS {O : Nat → Prop} {w : World} {x : ActM} (h : ActOkS O w x) : ∃ ao nn cap, x.fv = .slice ao nn cap := by
  rcases h.ints with ⟨ao, cap, hv, _⟩ | ⟨b, o, cap, hv, _⟩
  · exact ⟨ao, _, cap, hv⟩
  · exact ⟨_, _, cap, hv⟩
end Disk
end Go.Proofs.YtgmbiiocjhkpdaaGreat

/-
  How a disk of the reference lies in memory: the struct, the row of files, each file's rows; what a call may turn. What it is, plainly, is the same Mod as the project's.
-/
namespace Go.Proofs.YtgmbiiocjhkpdaaGreat
open Go.RowKit
namespace Ref
open Disk
open Num (hid bcells)

abbrev tC : TypeId := 117
abbrev tF : TypeId := 109
abbrev tD : TypeId := 77
abbrev tCs : TypeId := 106
abbrev tBs : TypeId := 107
abbrev tB : TypeId := 4
abbrev tFs : TypeId := 75

/-- A sector's cells: what is now, what is safe. -/
def nowC (s : Sec) : List Value := [.bool true, .string ⟨(s.getD []).toArray⟩, .bool s.isNone]
def safeC : Option Sec → List Value
  | none => [.bool false, .string ⟨#[]⟩, .bool false]
  | some s => nowC s
def nowsC (ps : List Plc) : List Value := ps.flatMap fun p => nowC p.now
def safesC (ps : List Plc) : List Value := ps.flatMap fun p => safeC p.safe
def waitsC (ps : List Plc) : List Value := ps.map fun p => Value.bool p.waits

/-- A file's five cells. -/
structure FR where
  name : ByteArray
  now : Value
  safe : Value
  wait : Value
  sure : Bool
def FR.cells (f : FR) : List Value := [.string f.name, f.now, f.safe, f.wait, .bool f.sure]

/-- A row of the reference's: its block is one of R. -/
def Row (R : Nat → Prop) (w : World) (t : TypeId) (k : Nat) (v : Value) (n : Nat) (xs : List Value) : Prop := w.ownsRow 0 t k v n xs ∧ ∀ g, v.ownBlock = some g → R g
theorem Row.kept {R F : Nat → Prop} {w w' : World} {t : TypeId} {k : Nat} {v : Value} {n : Nat} {xs : List Value} (h : Row R w t k v n xs) (hc : Chg F w w') (hF : ∀ g, v.ownBlock = some g → ¬ F g) : Row R w' t k v n xs := ⟨row_kept h.1 hc hF, h.2⟩
theorem Row.mono {R R' : Nat → Prop} {w : World} {t : TypeId} {k : Nat} {v : Value} {n : Nat} {xs : List Value} (h : Row R w t k v n xs) (hR : ∀ g, g < w.heap.size → R g → R' g) : Row R' w t k v n xs := ⟨h.1, fun g hg => hR g (h.1.lt g hg).2 (h.2 g hg)⟩
theorem row_type {w : World} {base : Nat} {e : TypeId} {k : Nat} {v : Value} {n g : Nat} {xs : List Value} (h : w.ownsRow base e k v n xs) (hg : v.ownBlock = some g) : ∃ cur, w.heap[g]? = some (.cells cur e (0, 0)) := by
  rcases h.2 with ⟨rfl, _⟩ | ⟨g', cap, cur, rfl, _, hh, _⟩
  · cases hg
  · have : g' = g := by simpa [Value.ownBlock] using hg
    subst this
    exact ⟨cur, hh⟩
/-- What is turned is no row of sectors. -/
def Apart (F : Nat → Prop) (w : World) : Prop := ∀ k, F k → ∀ cur t fz, w.heap[k]? = some (.cells cur t fz) → t ≠ tC ∧ t ≠ tB
theorem Apart.none (w : World) : Apart (fun _ => False) w := fun _ h => h.elim
theorem Apart.one {w : World} {b : Nat} {c : Array Value} {t : TypeId} {fz : Nat × Nat} (h : w.heap[b]? = some (.cells c t fz)) (ht : t ≠ tC ∧ t ≠ tB) : Apart (· = b) w := by
  rintro k rfl cur t' fz' h'
  rw [h] at h'
  simp only [Option.some.injEq, Obj.cells.injEq] at h'
  rw [← h'.2.1]
  exact ht
theorem Apart.new {w : World} : Apart (fun k => w.heap.size ≤ k) w := by
  intro k hk cur t fz h
  have := lt_of_block h
  omega

structure FileR (R : Nat → Prop) (w : World) (f : FR) (n : Nam) (F : Fil) : Prop where
  name : f.name.data.toList = n
  sure : f.sure = F.sure
  now : Row R w tC 3 f.now F.ps.length (nowsC F.ps)
  safe : Row R w tC 3 f.safe F.ps.length (safesC F.ps)
  wait : Row R w tB 1 f.wait F.ps.length (waitsC F.ps)
theorem FileR.kept {R F : Nat → Prop} {w w' : World} {f : FR} {n : Nam} {G : Fil} (h : FileR R w f n G) (hc : Chg F w w') (hA : Apart F w) : FileR R w' f n G := by
  refine ⟨h.name, h.sure, h.now.kept hc ?_, h.safe.kept hc ?_, h.wait.kept hc ?_⟩
  · intro g hg hF
    obtain ⟨cur, hb⟩ := row_type h.now.1 hg
    exact (hA g hF cur tC (0, 0) hb).1 rfl
  · intro g hg hF
    obtain ⟨cur, hb⟩ := row_type h.safe.1 hg
    exact (hA g hF cur tC (0, 0) hb).1 rfl
  · intro g hg hF
    obtain ⟨cur, hb⟩ := row_type h.wait.1 hg
    exact (hA g hF cur tB (0, 0) hb).2 rfl
theorem FileR.mono {R R' : Nat → Prop} {w : World} {f : FR} {n : Nam} {G : Fil} (h : FileR R w f n G) (hR : ∀ g, g < w.heap.size → R g → R' g) : FileR R' w f n G := ⟨h.name, h.sure, h.now.mono hR, h.safe.mono hR, h.wait.mono hR⟩

abbrev Ens := List (FR × (Nam × Fil))
def Ens.cells (E : Ens) : List Value := E.flatMap fun x => x.1.cells
def Ens.dir (E : Ens) : Dir := E.map (·.2)
theorem Ens.cells_len : ∀ E : Ens, (Ens.cells E).length = E.length * 5
  | [] => rfl
  | x :: r => by
    have := Ens.cells_len r
    unfold Ens.cells at this ⊢
    rw [List.flatMap_cons, List.length_append, this, List.length_cons]
    simp [FR.cells]; omega
theorem Ens.cells_append (a b : Ens) : Ens.cells (a ++ b) = Ens.cells a ++ Ens.cells b := List.flatMap_append ..
theorem Ens.cells_at (E : Ens) (i : Nat) (h : i < E.length) : (Ens.cells E)[i * 5]? = some (.string E[i].1.name) ∧ (Ens.cells E)[i * 5 + 1]? = some E[i].1.now ∧ (Ens.cells E)[i * 5 + 2]? = some E[i].1.safe ∧ (Ens.cells E)[i * 5 + 3]? = some E[i].1.wait ∧ (Ens.cells E)[i * 5 + 4]? = some (.bool E[i].1.sure) := by
  induction E generalizing i with
  | nil => simp at h
  | cons x r ih =>
    have hl : (FR.cells x.1).length = 5 := rfl
    unfold Ens.cells at ih ⊢
    cases i with
    | zero => exact ⟨rfl, rfl, rfl, rfl, rfl⟩
    | succ i =>
      obtain ⟨h1, h2, h3, h4, h5⟩ := ih i (by simpa using h)
      simp only [List.flatMap_cons, List.getElem_cons_succ]
      rw [List.getElem?_append_right (by omega), List.getElem?_append_right (by omega), List.getElem?_append_right (by omega), List.getElem?_append_right (by omega), List.getElem?_append_right (by omega), hl]
      have e1 : (i + 1) * 5 - 5 = i * 5 := by omega
      have e2 : (i + 1) * 5 + 1 - 5 = i * 5 + 1 := by omega
      have e3 : (i + 1) * 5 + 2 - 5 = i * 5 + 2 := by omega
      have e4 : (i + 1) * 5 + 3 - 5 = i * 5 + 3 := by omega
      have e5 : (i + 1) * 5 + 4 - 5 = i * 5 + 4 := by omega
      rw [e1, e2, e3, e4, e5]
      exact ⟨h1, h2, h3, h4, h5⟩
theorem Ens.cells_set : ∀ (E : Ens) (i : Nat) (_ : i < E.length) (f : FR) (e : Nam × Fil), ((((((Ens.cells E).set (i * 5) (.string f.name)).set (i * 5 + 1) f.now).set (i * 5 + 2) f.safe).set (i * 5 + 3) f.wait).set (i * 5 + 4) (.bool f.sure)) = Ens.cells (E.set i (f, e))
  | x :: r, 0, _, f, e => by rfl
  | x :: r, i + 1, h, f, e => by
    have := Ens.cells_set r i (by simpa using h) f e
    unfold Ens.cells at this ⊢
    simp only [List.flatMap_cons, List.set_cons_succ]
    rw [← this]
    have hl : (FR.cells x.1).length = 5 := rfl
    have e1 : (i + 1) * 5 = i * 5 + 5 := by omega
    rw [e1, List.set_append_right _ _ (by omega), List.set_append_right _ _ (by rw [hl]; omega), List.set_append_right _ _ (by rw [hl]; omega), List.set_append_right _ _ (by rw [hl]; omega), List.set_append_right _ _ (by rw [hl]; omega), hl]
    rw [show i * 5 + 5 - 5 = i * 5 by omega, show i * 5 + 5 + 1 - 5 = i * 5 + 1 by omega, show i * 5 + 5 + 2 - 5 = i * 5 + 2 by omega, show i * 5 + 5 + 3 - 5 = i * 5 + 3 by omega, show i * 5 + 5 + 4 - 5 = i * 5 + 4 by omega]

/-- What is armed, as the reference has it. -/
def CtlR (c : Ctl) (a k m : Int) : Prop := (k = 0 ∧ c.at_ = 0) ∨ (k = 1 ∧ c.at_ ≠ 0 ∧ a = c.at_ ∧ c.kind = 1 ∧ c.more = max m 0) ∨ (k = 2 ∧ c.at_ ≠ 0 ∧ a = c.at_ ∧ c.kind = 2)
def rootC (v : Value) (c : Ctl) (a k m : Int) : Array Value := #[v, .int .i64 c.room, .bool c.down, .int .i64 c.ops, .int .i64 c.life, .int .i64 a, .int .i64 k, .int .i64 m]
structure DiskR (R : Nat → Prop) (w : World) (r : Nat) (v : Value) (E : Ens) (c : Ctl) (a k m : Int) : Prop where
  own : R r
  blk : w.heap[r]? = some (.cells (rootC v c a k m) tD (0, 0))
  row : Row R w tF 5 v E.length (Ens.cells E)
  files : ∀ x ∈ E, FileR R w x.1 x.2.1 x.2.2
  ctl : CtlR c a k m
/-- The reference's disk at r is M. -/
def Refs (R : Nat → Prop) (r : Nat) (M : Mod) (w : World) : Prop := ∃ v E a k m, DiskR R w r v E M.c a k m ∧ Ens.dir E = M.fs

theorem DiskR.kept {R F : Nat → Prop} {w w' : World} {r : Nat} {v : Value} {E : Ens} {c : Ctl} {a k m : Int} (h : DiskR R w r v E c a k m) (hc : Chg F w w') (hr : ¬ F r) (hv : ∀ g, v.ownBlock = some g → ¬ F g) (hA : Apart F w) : DiskR R w' r v E c a k m :=
  ⟨h.own, hc.at h.blk hr, h.row.kept hc hv, fun x hx => (h.files x hx).kept hc hA, h.ctl⟩
theorem DiskR.mono {R R' : Nat → Prop} {w : World} {r : Nat} {v : Value} {E : Ens} {c : Ctl} {a k m : Int} (h : DiskR R w r v E c a k m) (hR : ∀ g, g < w.heap.size → R g → R' g) : DiskR R' w r v E c a k m :=
  ⟨hR r (lt_of_block h.blk) h.own, h.blk, h.row.mono hR, fun x hx => (h.files x hx).mono hR, h.ctl⟩
/-- What the reference doesn't own has turned. -/
theorem DiskR.apart {R F : Nat → Prop} {w w' : World} {r : Nat} {v : Value} {E : Ens} {c : Ctl} {a k m : Int} (h : DiskR R w r v E c a k m) (hc : Chg F w w') (hF : ∀ k, F k → ¬ R k) : DiskR R w' r v E c a k m :=
  ⟨h.own, hc.at h.blk (fun hf => hF _ hf h.own), h.row.kept hc (fun g hg hf => hF _ hf (h.row.2 g hg)), fun x hx => by
    have hx := h.files x hx
    exact ⟨hx.name, hx.sure, hx.now.kept hc (fun g hg hf => hF _ hf (hx.now.2 g hg)), hx.safe.kept hc (fun g hg hf => hF _ hf (hx.safe.2 g hg)), hx.wait.kept hc (fun g hg hf => hF _ hf (hx.wait.2 g hg))⟩, h.ctl⟩
theorem Refs.apart {R F : Nat → Prop} {w w' : World} {r : Nat} {M : Mod} (h : Refs R r M w) (hc : Chg F w w') (hF : ∀ k, F k → ¬ R k) : Refs R r M w' := by
  obtain ⟨v, E, a, k, m, D, hE⟩ := h
  exact ⟨v, E, a, k, m, D.apart hc hF, hE⟩
theorem Refs.mono {R R' : Nat → Prop} {w : World} {r : Nat} {M : Mod} (h : Refs R r M w) (hR : ∀ g, g < w.heap.size → R g → R' g) : Refs R' r M w := by
  obtain ⟨v, E, a, k, m, D, hE⟩ := h
  exact ⟨v, E, a, k, m, D.mono hR, hE⟩

/-! ### the row of files, read -/
theorem DiskR.roots {R : Nat → Prop} {w : World} {r : Nat} {v : Value} {E : Ens} {c : Ctl} {a k m : Int} (h : DiskR R w r v E c a k m) :
    w.cell? ⟨r, 0, none⟩ = some v ∧ w.cell? ⟨r, 1, none⟩ = some (.int .i64 c.room) ∧ w.cell? ⟨r, 2, none⟩ = some (.bool c.down) ∧ w.cell? ⟨r, 3, none⟩ = some (.int .i64 c.ops) ∧ w.cell? ⟨r, 4, none⟩ = some (.int .i64 c.life) ∧
    w.cell? ⟨r, 5, none⟩ = some (.int .i64 a) ∧ w.cell? ⟨r, 6, none⟩ = some (.int .i64 k) ∧ w.cell? ⟨r, 7, none⟩ = some (.int .i64 m) :=
  ⟨blk_cell h.blk 0, blk_cell h.blk 1, blk_cell h.blk 2, blk_cell h.blk 3, blk_cell h.blk 4, blk_cell h.blk 5, blk_cell h.blk 6, blk_cell h.blk 7⟩
/-- The row, as the walk sees it. -/
theorem row_shape {w : World} {t : TypeId} {k : Nat} {v : Value} {n : Nat} {xs : List Value} (h : w.ownsRow 0 t k v n xs) : ∃ ao cap, v = .slice ao n cap ∧ (0 < n → ∃ g, ao = some ⟨g, 0, none⟩ ∧ g < w.heap.size) := by
  rcases h.2 with ⟨rfl, rfl⟩ | ⟨g, cap, cur, rfl, _, hb, _⟩
  · exact ⟨none, 0, rfl, fun h => absurd h (Nat.lt_irrefl _)⟩
  · exact ⟨_, cap, rfl, fun _ => ⟨g, rfl, lt_of_block hb⟩⟩
theorem DiskR.at {R : Nat → Prop} {w : World} {r : Nat} {g cap : Nat} {E : Ens} {c : Ctl} {a k m : Int} (h : DiskR R w r (.slice (some ⟨g, 0, none⟩) E.length cap) E c a k m) {i : Nat} (hi : i < E.length) :
    w.cell? ⟨g, i * 5, none⟩ = some (.string E[i].1.name) ∧ w.cell? ⟨g, i * 5 + 1, none⟩ = some E[i].1.now ∧ w.cell? ⟨g, i * 5 + 2, none⟩ = some E[i].1.safe ∧ w.cell? ⟨g, i * 5 + 3, none⟩ = some E[i].1.wait ∧ w.cell? ⟨g, i * 5 + 4, none⟩ = some (.bool E[i].1.sure) := by
  obtain ⟨h1, h2, h3, h4, h5⟩ := Ens.cells_at E i hi
  have q := h.row.1
  exact ⟨(q.cellAt _ (by omega)).trans h1, (q.cellAt _ (by omega)).trans h2, (q.cellAt _ (by omega)).trans h3, (q.cellAt _ (by omega)).trans h4, (q.cellAt _ (by omega)).trans h5⟩

/-- Where a name stands. -/
def PlaceIs (E : Ens) (n : Nam) (i : Int) : Prop := (∃ k : Nat, ∃ h : k < E.length, i = k ∧ E[k].2.1 = n ∧ ∀ j (hj : j < k), (E[j]'(by omega)).2.1 ≠ n) ∨ (i = -1 ∧ ∀ x ∈ E, x.2.1 ≠ n)

set_option maxRecDepth 100000 in
set_option maxHeartbeats 1000000 in
theorem place_any {R : Nat → Prop} {w : World} {r : Nat} {v : Value} {E : Ens} {c : Ctl} {a k m : Int} (h : DiskR R w r v E c a k m) (hE : E.length ≤ 100) (s : ByteArray) :
    Calls Tryz.prog 80 #[ptr r, .string s] w fun e w' => (∃ i, e = .returned (.int .i64 i) ∧ PlaceIs E s.data.toList i) ∧ w = w' := by
  have H := hid h
  obtain ⟨q0, _⟩ := h.roots
  have hrow := h.row.1
  obtain ⟨ao, cap, rfl, hao⟩ := row_shape hrow
  clear h hrow
  go_enter Tryz.func80, Tryz.ntmps80
  go_wp2
  go_loop [5] (fun i => ∃ k : Nat, k ≤ E.length ∧ i = .int .i64 k ∧ ∀ j (hj : j < k), ∀ h : j < E.length, E[j].2.1 ≠ s.data.toList) (fun i => E.length - (intOf i).toNat)
  case atStart => exact ⟨0, Nat.zero_le _, rfl, fun j hj => absurd hj (Nat.not_lt_zero _)⟩
  case round =>
    obtain ⟨k, hk, rfl, hne⟩ := hrel
    have HNE := hid hne
    clear hne
    by_cases hlt : k < E.length
    · obtain ⟨g, rfl, hg⟩ := hao (by omega)
      obtain ⟨x0, -⟩ := H.out.at hlt
      have hnm := (H.out.files E[k] (List.getElem_mem hlt)).name
      by_cases hn : E[k].2.1 = s.data.toList
      · have hq : (E[k].1.name.toList == s.toList) = true := by rw [beq_iff_eq, ByteArray.toList_eq, ByteArray.toList_eq, hnm, hn]
        go_wp2
        go_ret
        exact ⟨⟨_, rfl, Or.inl ⟨k, hlt, rfl, hn, fun j hj => HNE.out j hj (by omega)⟩⟩, rfl⟩
      · have hq : (E[k].1.name.toList == s.toList) = false := by
          rw [beq_eq_false_iff_ne, ByteArray.toList_eq, ByteArray.toList_eq, hnm]
          exact hn
        go_wp2
        go_round
        case rel =>
          refine ⟨k + 1, by omega, by go_num, fun j hj h => ?_⟩
          by_cases hjk : j < k
          · exact HNE.out j hjk h
          · obtain rfl : j = k := by omega
            exact hn
        case measure => simp [intOf]; omega
    · obtain rfl : k = E.length := by omega
      go_wp2
      go_ret
      refine ⟨⟨_, rfl, Or.inr ⟨rfl, fun x hx => ?_⟩⟩, rfl⟩
      obtain ⟨j, hj, rfl⟩ := List.getElem_of_mem hx
      exact HNE.out j hj hj

end Ref
end Go.Proofs.YtgmbiiocjhkpdaaGreat

/-
  Contracts of the reference's small calls: clamp, New, Room, Arm, Off, begin, Ops, Life, Down.
-/
namespace Go.Proofs.YtgmbiiocjhkpdaaGreat
open Go.RowKit
namespace Ref
open Disk
open Num (hid bcells)

section
variable {R : Nat → Prop} {w : World} {r : Nat} {v : Value} {E : Ens} {c : Ctl} {a k m : Int}
theorem DiskR.turn (h : DiskR R w r v E c a k m) {w' : World} {c' : Ctl} {a' k' m' : Int} (hc : Chg (· = r) w w') (hb : w'.heap[r]? = some (.cells (rootC v c' a' k' m') tD (0, 0))) (hctl : CtlR c' a' k' m') : DiskR R w' r v E c' a' k' m' := by
  refine ⟨h.own, hb, h.row.kept hc ?_, fun x hx => (h.files x hx).kept hc (Apart.one h.blk (by decide)), hctl⟩
  rintro g hg rfl
  obtain ⟨cur, hh⟩ := row_type h.row.1 hg
  rw [h.blk] at hh
  simp only [Option.some.injEq, Obj.cells.injEq] at hh
  exact absurd hh.2.1 (by decide)
theorem DiskR.frees (h : DiskR R w r v E c a k m) : w.frozen? ⟨r, 0, none⟩ = false ∧ w.frozen? ⟨r, 1, none⟩ = false ∧ w.frozen? ⟨r, 2, none⟩ = false ∧ w.frozen? ⟨r, 3, none⟩ = false ∧ w.frozen? ⟨r, 4, none⟩ = false ∧ w.frozen? ⟨r, 5, none⟩ = false ∧ w.frozen? ⟨r, 6, none⟩ = false ∧ w.frozen? ⟨r, 7, none⟩ = false :=
  ⟨blk_free h.blk 0, blk_free h.blk 1, blk_free h.blk 2, blk_free h.blk 3, blk_free h.blk 4, blk_free h.blk 5, blk_free h.blk 6, blk_free h.blk 7⟩

theorem clamp_any (n : Int) (w : World) : Calls Tryz.prog 48 #[.int .i64 n] w fun e w' => e = .returned (.int .i64 (clamp n)) ∧ w = w' := by
  have ways : (n < 0 ∧ clamp n = 0) ∨ (0 ≤ n ∧ 16384 < n ∧ clamp n = 16384) ∨ (0 ≤ n ∧ n ≤ 16384 ∧ clamp n = n) := by unfold clamp; omega
  rcases ways with ⟨h1, h2⟩ | ⟨h1, h2, h3⟩ | ⟨h1, h2, h3⟩
  · rw [h2]
    clear h2
    go_enter Tryz.func48, Tryz.ntmps48
    go_wp2
    go_ret
    exact ⟨rfl, rfl⟩
  · rw [h3]
    clear h3
    go_enter Tryz.func48, Tryz.ntmps48
    go_wp2
    go_ret
    exact ⟨rfl, rfl⟩
  · rw [h3]
    clear h3
    go_enter Tryz.func48, Tryz.ntmps48
    go_wp2
    go_ret
    exact ⟨rfl, rfl⟩

set_option maxRecDepth 100000 in
theorem rnew_any (n : Int) (w : World) : Calls Tryz.prog 9 #[.int .i64 n] w fun e w' => e = .returned (ptr w.heap.size) ∧ Refs (fun k => k = w.heap.size) w.heap.size (Mod.new n) w' ∧ Below w.heap.size w w' := by
  go_enter Tryz.func9, Tryz.ntmps9
  go_wp2_with fail
  refine (clamp_any n _).mono ?_
  rintro e w1 ⟨rfl, rfl⟩
  go_wp2
  go_ret
  refine ⟨rfl, ⟨.slice none 0 0, [], 0, 0, 0, ⟨rfl, blk_new w _, ⟨World.ownsRow_nil _ _ _ _, fun g hg => by cases hg⟩, fun x hx => (by cases hx), Or.inl ⟨rfl, rfl⟩⟩, rfl⟩, (Below.refl _ _).alloc (Nat.le_refl _) _⟩

theorem rops_any (h : DiskR R w r v E c a k m) : Calls Tryz.prog 35 #[ptr r] w fun e w' => e = .returned (.int .i64 c.ops) ∧ w = w' := by
  obtain ⟨q0, q1, q2, q3, q4, q5, q6, q7⟩ := h.roots
  go_enter Tryz.func35, Tryz.ntmps35
  go_wp2
  go_ret
  exact ⟨rfl, rfl⟩
set_option maxHeartbeats 400000 in
theorem roff_raw {w0 : World} {c0 : Ctl} {a0 k0 m0 : Int} (h : DiskR R w0 r v E c0 a0 k0 m0) (hc0 : Chg (· = r) w0 w) (hb : w.heap[r]? = some (.cells (rootC v c a k m) tD (0, 0))) :
    Calls Tryz.prog 26 #[ptr r] w fun e w' => e = .returned (.tuple #[]) ∧ DiskR R w' r v E c.offed a 0 m ∧ Chg (· = r) w0 w' := by
  have q2 : w.cell? ⟨r, 2, none⟩ = some (.bool c.down) := blk_cell hb 2
  have q4 : w.cell? ⟨r, 4, none⟩ = some (.int .i64 c.life) := blk_cell hb 4
  have q6 : w.cell? ⟨r, 6, none⟩ = some (.int .i64 k) := blk_cell hb 6
  have z2 := blk_free hb 2
  have z4 := blk_free hb 4
  have z6 := blk_free hb 6
  have H := hid h
  have HB := hid hb
  have HC := hid hc0
  clear h hb hc0
  cases hd : c.down with
  | true =>
    have ho : c.offed = { c with kind := 0, at_ := 0, more := 0, down := true } := by unfold Ctl.offed; rw [hd]; rfl
    have HO := hid ho
    rw [hd] at q2
    clear ho
    go_enter Tryz.func26, Tryz.ntmps26
    go_wp2
    go_end0
    have hc : Chg (· = r) w0 ((w.setCell ⟨r, 2, none⟩ (.bool true)).setCell ⟨r, 6, none⟩ (.int .i64 0)) := (HC.out.root _ _).root _ _
    refine ⟨rfl, H.out.turn hc (by rw [HO.out]; exact blk_set (blk_set HB.out 2 _) 6 _) (Or.inl ⟨rfl, by rw [HO.out]⟩), hc⟩
  | false =>
    have ho : c.offed = { c with kind := 0, at_ := 0, more := 0, down := true, life := inc c.life } := by unfold Ctl.offed; rw [hd]; rfl
    have HO := hid ho
    rw [hd] at q2
    clear ho
    go_enter Tryz.func26, Tryz.ntmps26
    go_wp2
    go_end0
    have hc : Chg (· = r) w0 (((w.setCell ⟨r, 4, none⟩ (.int .i64 (inc c.life))).setCell ⟨r, 2, none⟩ (.bool true)).setCell ⟨r, 6, none⟩ (.int .i64 0)) := ((HC.out.root _ _).root _ _).root _ _
    refine ⟨rfl, H.out.turn hc (by rw [HO.out]; exact blk_set (blk_set (blk_set HB.out 4 _) 2 _) 6 _) (Or.inl ⟨rfl, by rw [HO.out]⟩), hc⟩
theorem roff_any (h : DiskR R w r v E c a k m) : Calls Tryz.prog 26 #[ptr r] w fun e w' => e = .returned (.tuple #[]) ∧ DiskR R w' r v E c.offed a 0 m ∧ Chg (· = r) w w' := roff_raw h (Chg.refl _ _) h.blk
end
end Ref
end Go.Proofs.YtgmbiiocjhkpdaaGreat

/-
  Contract of the reference's begin: the refusal of an operation; what is armed behind it.
-/
namespace Go.Proofs.YtgmbiiocjhkpdaaGreat
open Go.RowKit
namespace Ref
open Disk
open Num (hid bcells)

/-- What an operation begins with: the plain cases. -/
theorem begin_ways (c : Ctl) (ok : c.Ok) (a k m : Int) (hR : CtlR c a k m) (hd : c.down = false) :
    (k = 0 ∧ Hid (c.refusal true = 0 ∧ c.begun true = { c with ops := inc c.ops })) ∨
    ((k = 1 ∨ k = 2) ∧ 1 < a ∧ Hid (c.refusal true = 0 ∧ c.begun true = { c with ops := inc c.ops, at_ := a - 1 } ∧ CtlR (c.begun true) (a - 1) k m)) ∨
    (k = 1 ∧ a = 1 ∧ m ≤ 0 ∧ Hid (c.refusal true = 11 ∧ c.begun true = { c with ops := inc c.ops, kind := 0, at_ := 0, more := 0 })) ∨
    (k = 1 ∧ a = 1 ∧ 0 < m ∧ Hid (c.refusal true = 11 ∧ c.begun true = { c with ops := inc c.ops, more := m - 1 } ∧ CtlR (c.begun true) 1 1 (m - 1))) ∨
    (k = 2 ∧ a = 1 ∧ Hid (c.refusal true = 10 ∧ c.begun true = ({ c with ops := inc c.ops, at_ := 0 } : Ctl).offed)) := by
  obtain ⟨hr, ⟨ha0, ha1⟩, ⟨hm0, hm1⟩, hn, hs⟩ := ok
  obtain ⟨room, kind, at_, more, down, ops, life⟩ := c
  simp only at hd hR ha0 ha1 hm0 hm1 hn hs
  subst hd
  rcases hR with ⟨rfl, h0⟩ | ⟨rfl, h0, h1, h2, h3⟩ | ⟨rfl, h0, h1, h2⟩
  · left
    simp only at h0
    obtain ⟨e1, e2⟩ := hn h0
    subst h0 e1 e2
    exact ⟨rfl, hid ⟨rfl, rfl⟩⟩
  · right
    simp only at h0 h1 h2 h3
    subst h1 h2 h3
    by_cases ha : 1 < a
    · left
      have e0 : ¬ a = 0 := by omega
      have e1 : ¬ a = 1 := by omega
      refine ⟨Or.inl rfl, ha, hid ⟨?_, ?_, ?_⟩⟩
      · simp [Ctl.refusal, Ctl.fault, e1]
      · simp [Ctl.begun, Ctl.fault, Ctl.counted, Ctl.stepped, e0, e1]
      · right; left
        refine ⟨rfl, ?_, ?_, ?_, ?_⟩ <;> simp [Ctl.begun, Ctl.fault, Ctl.counted, Ctl.stepped, e0, e1]
        omega
    · right
      obtain rfl : a = 1 := by omega
      by_cases hm : m ≤ 0
      · left
        have e : ¬ 0 < max m 0 := by omega
        refine ⟨rfl, rfl, hm, hid ⟨rfl, ?_⟩⟩
        simp [Ctl.begun, Ctl.fault, Ctl.counted, Ctl.stepped, e]
      · right; left
        have e : 0 < max m 0 := by omega
        have e2 : max m 0 = m := by omega
        have e3 : 0 < m := by omega
        rw [e2]
        refine ⟨rfl, rfl, by omega, hid ⟨rfl, ?_, ?_⟩⟩
        · simp [Ctl.begun, Ctl.fault, Ctl.counted, Ctl.stepped, e3]
        · right; left
          refine ⟨rfl, ?_, ?_, ?_, ?_⟩ <;> simp [Ctl.begun, Ctl.fault, Ctl.counted, Ctl.stepped, e3] <;> omega
  · right
    simp only at h0 h1 h2
    subst h1 h2
    obtain rfl : more = 0 := by
      rcases hs h0 with h | ⟨_, h⟩
      · exact absurd h (by decide)
      · exact h
    by_cases ha : 1 < a
    · left
      have e0 : ¬ a = 0 := by omega
      have e1 : ¬ a = 1 := by omega
      refine ⟨Or.inr rfl, ha, hid ⟨?_, ?_, ?_⟩⟩
      · simp [Ctl.refusal, Ctl.fault, e1]
      · simp [Ctl.begun, Ctl.fault, Ctl.counted, Ctl.stepped, e0, e1]
      · right; right
        refine ⟨rfl, ?_, ?_, ?_⟩ <;> simp [Ctl.begun, Ctl.fault, Ctl.counted, Ctl.stepped, e0, e1]
        omega
    · right; right; right
      obtain rfl : a = 1 := by omega
      exact ⟨rfl, rfl, hid ⟨rfl, rfl⟩⟩
section
variable {R : Nat → Prop} {w : World} {r : Nat} {v : Value} {E : Ens} {c : Ctl} {a k m : Int}
theorem name_fit (s : ByteArray) : nameFit s.data.toList = decide (1 ≤ s.size ∧ s.size ≤ 16) := rfl
/-- Behind an operation's beginning. -/
def Begun (R : Nat → Prop) (w : World) (r : Nat) (v : Value) (E : Ens) (c : Ctl) (w' : World) : Prop := ∃ a k m, DiskR R w' r v E c a k m ∧ Chg (· = r) w w'

set_option maxRecDepth 100000 in
set_option maxHeartbeats 1000000 in
theorem begin_low (h : DiskR R w r v E c a k m) (s : ByteArray) (hs : s.size ≤ 9223372036854775807) (bad : Bool) (hf : ¬ (1 ≤ s.size ∧ s.size ≤ 16 ∧ bad = false)) :
    Calls Tryz.prog 90 #[ptr r, .string s, .bool bad] w fun e w' => e = .returned (.int .i64 1) ∧ Begun R w r v E c w' := by
  have HB : Hid (Begun R w r v E c w) := hid ⟨a, k, m, h, Chg.refl _ _⟩
  clear h
  have ways : ((s.size : Int) < 1) ∨ (1 ≤ (s.size : Int) ∧ 16 < (s.size : Int)) ∨ (1 ≤ (s.size : Int) ∧ (s.size : Int) ≤ 16 ∧ bad = true) := by
    cases bad <;> simp at hf ⊢ <;> omega
  clear hf
  rcases ways with h1 | ⟨h1, h2⟩ | ⟨h1, h2, rfl⟩
  all_goals
    go_enter Tryz.func90, Tryz.ntmps90
    go_wp2
    go_ret
    exact ⟨rfl, HB.out⟩

set_option maxRecDepth 100000 in
set_option maxHeartbeats 1000000 in
theorem begin_down (h : DiskR R w r v E c a k m) (s : ByteArray) (h1 : 1 ≤ (s.size : Int)) (h2 : (s.size : Int) ≤ 16) (hd : c.down = true) :
    Calls Tryz.prog 90 #[ptr r, .string s, .bool false] w fun e w' => e = .returned (.int .i64 10) ∧ Begun R w r v E c w' := by
  have HB : Hid (Begun R w r v E c w) := hid ⟨a, k, m, h, Chg.refl _ _⟩
  obtain ⟨q0, q1, q2, q3, q4, q5, q6, q7⟩ := h.roots
  rw [hd] at q2
  clear h
  go_enter Tryz.func90, Tryz.ntmps90
  go_wp2
  go_ret
  exact ⟨rfl, HB.out⟩

set_option maxRecDepth 100000 in
set_option maxHeartbeats 2000000 in
theorem begin_up (h : DiskR R w r v E c a k m) (ok : c.Ok) (s : ByteArray) (h1 : 1 ≤ (s.size : Int)) (h2 : (s.size : Int) ≤ 16) (hd : c.down = false) :
    Calls Tryz.prog 90 #[ptr r, .string s, .bool false] w fun e w' => e = .returned (.int .i64 (c.refusal true)) ∧ Begun R w r v E (c.begun true) w' := by
  obtain ⟨q0, q1, q2, q3, q4, q5, q6, q7⟩ := h.roots
  obtain ⟨z0, z1, z2, z3, z4, z5, z6, z7⟩ := h.frees
  have ha1 := ok.at_.2
  have hm1 := ok.more.2
  have hctl := h.ctl
  rw [hd] at q2
  have H := hid h
  clear h
  rcases begin_ways c ok a k m hctl hd with ⟨rfl, HW⟩ | ⟨hk, hlt, HW⟩ | ⟨rfl, rfl, hm, HW⟩ | ⟨rfl, rfl, hm, HW⟩ | ⟨rfl, rfl, HW⟩
  · rw [HW.out.1]
    clear hctl ok
    have hc : Hid (Chg (· = r) w (w.setCell ⟨r, 3, none⟩ (.int .i64 (inc c.ops)))) := hid ((Chg.refl _ _).root _ _)
    go_enter Tryz.func90, Tryz.ntmps90
    go_wp2
    go_ret
    exact ⟨rfl, a, 0, m, H.out.turn hc.out (by rw [HW.out.2]; exact blk_set H.out.blk 3 _) (by rw [HW.out.2]; rcases H.out.ctl with ⟨_, h⟩ | ⟨h, _⟩ | ⟨h, _⟩; exact Or.inl ⟨rfl, h⟩; exact absurd h (by decide); exact absurd h (by decide)), hc.out⟩
  · rw [HW.out.1]
    have hal : a ≤ 9223372036854775807 := by
      rcases hctl with ⟨h, _⟩ | ⟨_, _, h, _⟩ | ⟨_, _, h, _⟩ <;> omega
    clear hctl ok
    have hc : Hid (Chg (· = r) w ((w.setCell ⟨r, 3, none⟩ (.int .i64 (inc c.ops))).setCell ⟨r, 5, none⟩ (.int .i64 (a - 1)))) := hid (((Chg.refl _ _).root _ _).root _ _)
    have hk0 : (k == 0) = false := by rcases hk with rfl | rfl <;> rfl
    have hgt : 0 < a - 1 := by omega
    clear hk
    go_enter Tryz.func90, Tryz.ntmps90
    go_wp2
    go_ret
    exact ⟨rfl, a - 1, k, m, H.out.turn hc.out (by rw [HW.out.2.1]; exact blk_set (blk_set H.out.blk 3 _) 5 _) HW.out.2.2, hc.out⟩
  · rw [HW.out.1]
    clear hctl ok
    have hc : Hid (Chg (· = r) w ((((w.setCell ⟨r, 3, none⟩ (.int .i64 (inc c.ops))).setCell ⟨r, 5, none⟩ (.int .i64 0)).setCell ⟨r, 6, none⟩ (.int .i64 0)).setCell ⟨r, 5, none⟩ (.int .i64 1))) := hid (((((Chg.refl _ _).root _ _).root _ _).root _ _).root _ _)
    go_enter Tryz.func90, Tryz.ntmps90
    go_wp2
    go_ret
    exact ⟨rfl, 1, 0, m, H.out.turn hc.out (by rw [HW.out.2]; exact blk_set (blk_set (blk_set (blk_set H.out.blk 3 _) 5 _) 6 _) 5 _) (by rw [HW.out.2]; exact Or.inl ⟨rfl, rfl⟩), hc.out⟩
  · rw [HW.out.1]
    have hml : m ≤ 9223372036854775807 := by
      rcases hctl with ⟨h, _⟩ | ⟨_, _, _, _, h⟩ | ⟨h, _⟩ <;> omega
    clear hctl ok
    have hc : Hid (Chg (· = r) w ((((w.setCell ⟨r, 3, none⟩ (.int .i64 (inc c.ops))).setCell ⟨r, 5, none⟩ (.int .i64 0)).setCell ⟨r, 7, none⟩ (.int .i64 (m - 1))).setCell ⟨r, 5, none⟩ (.int .i64 1))) := hid (((((Chg.refl _ _).root _ _).root _ _).root _ _).root _ _)
    have hm2 : ¬ m ≤ 0 := by omega
    go_enter Tryz.func90, Tryz.ntmps90
    go_wp2
    go_ret
    exact ⟨rfl, 1, 1, m - 1, H.out.turn hc.out (by rw [HW.out.2.1]; exact blk_set (blk_set (blk_set (blk_set H.out.blk 3 _) 5 _) 7 _) 5 _) HW.out.2.2, hc.out⟩
  · rw [HW.out.1]
    clear hctl ok
    have hc : Hid (Chg (· = r) w ((w.setCell ⟨r, 3, none⟩ (.int .i64 (inc c.ops))).setCell ⟨r, 5, none⟩ (.int .i64 0))) := hid (((Chg.refl _ _).root _ _).root _ _)
    have H2 : Hid (((w.setCell ⟨r, 3, none⟩ (.int .i64 (inc c.ops))).setCell ⟨r, 5, none⟩ (.int .i64 0)).heap[r]? = some (.cells (rootC v { c with ops := inc c.ops, at_ := 0 } 0 2 m) tD (0, 0))) := hid (blk_set (blk_set H.out.blk 3 _) 5 _)
    go_enter Tryz.func90, Tryz.ntmps90
    go_wp2_with fail
    refine (roff_raw H.out hc.out H2.out).mono ?_
    rintro e w2 ⟨rfl, h2', hc2⟩
    have HD2 := hid h2'
    have HC2 := hid hc2
    clear h2' hc2
    go_wp2
    go_ret
    exact ⟨rfl, 0, 0, m, by rw [HW.out.2]; exact HD2.out, HC2.out⟩
/-- An operation's beginning. -/
theorem begin_any (h : DiskR R w r v E c a k m) (ok : c.Ok) (s : ByteArray) (hs : s.size ≤ maxLen) (bad fit : Bool) (hf : fit = (nameFit s.data.toList && !bad)) :
    Calls Tryz.prog 90 #[ptr r, .string s, .bool bad] w fun e w' => e = .returned (.int .i64 (c.refusal fit)) ∧ Begun R w r v E (c.begun fit) w' := by
  unfold maxLen at hs
  by_cases hy : 1 ≤ s.size ∧ s.size ≤ 16 ∧ bad = false
  · obtain ⟨h1, h2, rfl⟩ := hy
    have e : fit = true := by rw [hf, name_fit, decide_eq_true ⟨h1, h2⟩]; rfl
    subst e
    cases hd : c.down with
    | true =>
      have e1 : c.refusal true = 10 := by simp [Ctl.refusal, hd]
      have e2 : c.begun true = c := by simp [Ctl.begun, hd]
      rw [e1, e2]
      exact begin_down h s (by omega) (by omega) hd
    | false => exact begin_up h ok s (by omega) (by omega) hd
  · have e : fit = false := by
      rw [hf, name_fit]
      cases bad
      · rw [decide_eq_false (fun hh => hy ⟨hh.1, hh.2, rfl⟩)]; rfl
      · simp
    subst e
    have e1 : c.refusal false = 1 := rfl
    have e2 : c.begun false = c := rfl
    rw [e1, e2]
    exact begin_low h s (by omega) bad hy
end
end Ref
end Go.Proofs.YtgmbiiocjhkpdaaGreat

/-
  Contracts of the reference's calls that look: total, Size, Read, Bytes, Names.
-/
namespace Go.Proofs.YtgmbiiocjhkpdaaGreat
open Go.RowKit
namespace Ref
open Disk
open Num (hid bcells)

theorem nows_len : ∀ ps : List Plc, (nowsC ps).length = ps.length * 3
  | [] => rfl
  | p :: r => by
    have := nows_len r
    unfold nowsC at this ⊢
    rw [List.flatMap_cons, List.length_append, this, List.length_cons]
    simp [nowC]; omega
theorem nows_at (ps : List Plc) (i : Nat) (h : i < ps.length) : (nowsC ps)[i * 3]? = some (.bool true) ∧ (nowsC ps)[i * 3 + 1]? = some (.string ⟨(ps[i].now.getD []).toArray⟩) ∧ (nowsC ps)[i * 3 + 2]? = some (.bool ps[i].now.isNone) := by
  induction ps generalizing i with
  | nil => simp at h
  | cons x r ih =>
    have hl : (nowC x.now).length = 3 := rfl
    unfold nowsC at ih ⊢
    cases i with
    | zero => exact ⟨rfl, rfl, rfl⟩
    | succ i =>
      obtain ⟨h1, h2, h3⟩ := ih i (by simpa using h)
      simp only [List.flatMap_cons, List.getElem_cons_succ]
      rw [List.getElem?_append_right (by omega), List.getElem?_append_right (by omega), List.getElem?_append_right (by omega), hl]
      have e1 : (i + 1) * 3 - 3 = i * 3 := by omega
      have e2 : (i + 1) * 3 + 1 - 3 = i * 3 + 1 := by omega
      have e3 : (i + 1) * 3 + 2 - 3 = i * 3 + 2 := by omega
      rw [e1, e2, e3]
      exact ⟨h1, h2, h3⟩

theorem place_get {E : Ens} {n : Nam} {i : Int} (h : PlaceIs E n i) : (∃ k : Nat, ∃ h : k < E.length, i = k ∧ get? (Ens.dir E) n = some E[k].2.2 ∧ E[k].2.1 = n) ∨ (i = -1 ∧ get? (Ens.dir E) n = none) := by
  rcases h with ⟨k, hk, rfl, hn, hb⟩ | ⟨rfl, hn⟩
  · left
    refine ⟨k, hk, rfl, ?_, hn⟩
    unfold get? Ens.dir
    have : (E.map (·.2)).find? (fun e => e.1 == n) = some E[k].2 := by
      rw [List.find?_eq_some_iff_getElem]
      refine ⟨by simp [hn], k, by simpa using hk, by simp, fun j hj => ?_⟩
      have := hb j hj
      simpa using this
    rw [this]
    rfl
  · right
    refine ⟨rfl, ?_⟩
    unfold get? Ens.dir
    rw [Option.map_eq_none_iff, List.find?_eq_none]
    intro x hx
    obtain ⟨y, hy, rfl⟩ := List.mem_map.1 hx
    simpa using hn y hy

section
variable {R : Nat → Prop} {w : World} {r : Nat} {v : Value} {E : Ens} {c : Ctl} {a k m : Int}
/-- A file's rows, as the walk sees them. -/
theorem DiskR.file {g cap : Nat} (h : DiskR R w r (.slice (some ⟨g, 0, none⟩) E.length cap) E c a k m) {i : Nat} (hi : i < E.length) :
    ∃ aN cN aS cS aW cW, E[i].1.now = .slice aN E[i].2.2.ps.length cN ∧ E[i].1.safe = .slice aS E[i].2.2.ps.length cS ∧ E[i].1.wait = .slice aW E[i].2.2.ps.length cW ∧
      w.cell? ⟨g, i * 5, none⟩ = some (.string E[i].1.name) ∧ w.cell? ⟨g, i * 5 + 1, none⟩ = some (.slice aN E[i].2.2.ps.length cN) ∧ w.cell? ⟨g, i * 5 + 2, none⟩ = some (.slice aS E[i].2.2.ps.length cS) ∧ w.cell? ⟨g, i * 5 + 3, none⟩ = some (.slice aW E[i].2.2.ps.length cW) ∧ w.cell? ⟨g, i * 5 + 4, none⟩ = some (.bool E[i].1.sure) := by
  obtain ⟨x0, x1, x2, x3, x4⟩ := h.at hi
  have hf := h.files E[i] (List.getElem_mem hi)
  obtain ⟨aN, cN, eN, -⟩ := row_shape hf.now.1
  obtain ⟨aS, cS, eS, -⟩ := row_shape hf.safe.1
  obtain ⟨aW, cW, eW, -⟩ := row_shape hf.wait.1
  rw [eN] at x1
  rw [eS] at x2
  rw [eW] at x3
  exact ⟨aN, cN, aS, cS, aW, cW, eN, eS, eW, x0, x1, x2, x3, x4⟩

theorem lens_snoc (E : Ens) (i : Nat) (h : i < E.length) : lensD (Ens.dir (E.take (i + 1))) = lensD (Ens.dir (E.take i)) + E[i].2.2.ps.length := by
  rw [List.take_succ_eq_append_getElem h]
  unfold lensD Ens.dir
  rw [List.map_append, List.map_append, List.sum_append]
  simp only [List.map_cons, List.map_nil, List.sum_cons, List.sum_nil, Nat.add_zero]
theorem lens_le (E : Ens) (hl : ∀ x ∈ E, x.2.2.ps.length ≤ 20000) : lensD (Ens.dir E) ≤ E.length * 20000 := by
  induction E with
  | nil => simp [lensD, Ens.dir]
  | cons x r ih =>
    have h1 := hl x (List.mem_cons_self ..)
    have h2 := ih (fun y hy => hl y (List.mem_cons_of_mem _ hy))
    simp only [lensD, Ens.dir, List.map_cons, List.sum_cons, List.length_cons] at h2 ⊢
    omega

set_option maxRecDepth 100000 in
set_option maxHeartbeats 1000000 in
theorem total_any (h : DiskR R w r v E c a k m) (hE : E.length ≤ 100) (hl : ∀ x ∈ E, x.2.2.ps.length ≤ 20000) :
    Calls Tryz.prog 101 #[ptr r] w fun e w' => e = .returned (.int .i64 (lensD (Ens.dir E) : Nat)) ∧ w = w' := by
  have H := hid h
  obtain ⟨q0, _⟩ := h.roots
  have hrow := h.row.1
  obtain ⟨ao, cap, rfl, hao⟩ := row_shape hrow
  clear h hrow
  go_enter Tryz.func101, Tryz.ntmps101
  go_wp2
  go_loop [3, 4] (fun n i => ∃ j : Nat, j ≤ E.length ∧ i = .int .i64 j ∧ n = .int .i64 (lensD (Ens.dir (E.take j)) : Nat)) (fun _ i => E.length - (intOf i).toNat)
  case atStart => exact ⟨0, Nat.zero_le _, rfl, rfl⟩
  case round =>
    obtain ⟨j, hj, rfl, rfl⟩ := hrel
    by_cases hlt : j < E.length
    · obtain ⟨g, rfl, hg⟩ := hao (by omega)
      obtain ⟨aN, cN, aS, cS, aW, cW, -, -, -, x0, x1, x2, x3, x4⟩ := H.out.file hlt
      have hs := hid (lens_snoc E j hlt)
      have hb := lens_le (E.take j) (fun x hx => hl x (List.mem_of_mem_take hx))
      have hbl : (E.take j).length ≤ 100 := by rw [List.length_take]; omega
      have hn := hl E[j] (List.getElem_mem hlt)
      have hB : (lensD (Ens.dir (E.take j)) : Int) ≤ 2000000 := by omega
      clear hb hbl
      go_wp2
      go_round
      case rel => exact ⟨j + 1, by omega, by go_num, by rw [hs.out]; simp⟩
      case measure => simp [intOf]; omega
    · obtain rfl : j = E.length := by omega
      go_wp2
      go_ret
      exact ⟨rfl, rfl⟩

set_option maxRecDepth 100000 in
set_option maxHeartbeats 1000000 in
theorem rsize_any (h : DiskR R w r v E c a k m) (hE : E.length ≤ 100) (s : ByteArray) :
    Calls Tryz.prog 39 #[ptr r, .string s] w fun e w' => e = .returned (.int .i64 ((⟨c, Ens.dir E⟩ : Mod).size s.data.toList)) ∧ w = w' := by
  have H := hid h
  obtain ⟨q0, _⟩ := h.roots
  have hrow := h.row.1
  obtain ⟨ao, cap, rfl, hao⟩ := row_shape hrow
  clear h hrow
  go_enter Tryz.func39, Tryz.ntmps39
  go_wp2_with fail
  refine (place_any H.out hE s).mono ?_
  rintro e w1 ⟨⟨i, rfl, hp⟩, rfl⟩
  rcases place_get hp with ⟨j, hj, rfl, hget, hn⟩ | ⟨rfl, hget⟩
  · have hsz : Hid ((⟨c, Ens.dir E⟩ : Mod).size s.data.toList = (E[j].2.2.ps.length : Nat)) := hid (by unfold Mod.size; rw [hget])
    obtain ⟨g, rfl, hg⟩ := hao (by omega)
    obtain ⟨aN, cN, aS, cS, aW, cW, -, -, -, x0, x1, x2, x3, x4⟩ := H.out.file hj
    clear hget hp hn
    go_wp2
    go_ret
    exact ⟨ret_i hsz.out.symm, rfl⟩
  · have hsz : Hid ((⟨c, Ens.dir E⟩ : Mod).size s.data.toList = -1) := hid (by unfold Mod.size; rw [hget])
    clear hget hp
    go_wp2
    go_ret
    exact ⟨ret_i hsz.out.symm, rfl⟩

theorem ret_si {s : ByteArray} {t : List UInt8} {i j : Int} (h : s = ⟨t.toArray⟩) (h2 : i = j) : Ending.returned (.tuple #[.string s, .int .i64 i]) = .returned (.tuple #[.string ⟨t.toArray⟩, .int .i64 j]) := by rw [h, h2]
set_option maxRecDepth 100000 in
set_option maxHeartbeats 2000000 in
theorem rread_any (h : DiskR R w r v E c a k m) (ok : c.Ok) (hE : E.length ≤ 100) (s : ByteArray) (hs : s.size ≤ maxLen) (i : Int) (hi : i ≤ 9223372036854775807) :
    Calls Tryz.prog 51 #[ptr r, .string s, .int .i64 i] w fun e w' => e = .returned (.tuple #[.string ⟨((⟨c, Ens.dir E⟩ : Mod).read s.data.toList i).1.toArray⟩, .int .i64 ((⟨c, Ens.dir E⟩ : Mod).read s.data.toList i).2.1]) ∧ Begun R w r v E ((⟨c, Ens.dir E⟩ : Mod).read s.data.toList i).2.2.c w' ∧ ((⟨c, Ens.dir E⟩ : Mod).read s.data.toList i).2.2.fs = Ens.dir E := by
  have hb := begin_any h ok s hs false (nameFit s.data.toList) (by simp)
  have HBG := hid hb
  clear h hb
  by_cases hr : c.refusal (nameFit s.data.toList) = 0
  · have e1 : (⟨c, Ens.dir E⟩ : Mod).read s.data.toList i = ((readD s.data.toList i (Ens.dir E)).1, (readD s.data.toList i (Ens.dir E)).2, ⟨c.begun (nameFit s.data.toList), Ens.dir E⟩) := by unfold Mod.read; rw [if_neg (by simpa using hr)]
    rw [e1]
    have HR := hid hr
    clear e1 hr
    go_enter Tryz.func51, Tryz.ntmps51
    go_wp2_with fail
    refine HBG.out.mono ?_
    rintro e w1 ⟨rfl, hbeg⟩
    have HB := hid hbeg
    obtain ⟨a', k', m', D1, -⟩ := hbeg
    rw [HR.out]
    obtain ⟨q0, _⟩ := D1.roots
    have hrow := D1.row.1
    obtain ⟨ao, cap, rfl, hao⟩ := row_shape hrow
    have H := hid D1
    clear D1 hrow HBG
    go_wp2_with fail
    refine (place_any H.out hE s).mono ?_
    rintro e w2 ⟨⟨j, rfl, hp⟩, rfl⟩
    rcases place_get hp with ⟨j, hj, rfl, hget, hn⟩ | ⟨rfl, hget⟩
    · obtain ⟨g, rfl, hg⟩ := hao (by omega)
      obtain ⟨aN, cN, aS, cS, aW, cW, eN, -, -, x0, x1, x2, x3, x4⟩ := H.out.file hj
      have hro : Hid (readD s.data.toList i (Ens.dir E) = E[j].2.2.read i) := hid (by unfold readD; rw [hget])
      have hf := (H.out.files E[j] (List.getElem_mem hj)).now.1
      rw [eN] at hf
      clear hget hp hn eN hao
      by_cases h0 : i < 0
      · have HV : Hid (E[j].2.2.read i = ([], 14)) := hid (by unfold Fil.read; rw [if_pos h0])
        clear hf
        go_wp2
        go_ret2
        exact ⟨ret_si (by rw [hro.out, HV.out]) (by rw [hro.out, HV.out]), HB.out, trivial⟩
      · obtain ⟨n, rfl⟩ := Int.eq_ofNat_of_zero_le (show 0 ≤ i by omega)
        by_cases hlt : n < E[j].2.2.ps.length
        · obtain ⟨gN, rfl, hgN⟩ : ∃ gN, aN = some ⟨gN, 0, none⟩ ∧ gN < w1.heap.size := by
            obtain ⟨ao', cap', e, h⟩ := row_shape hf
            cases e
            exact h (by omega)
          obtain ⟨y0, y1, y2⟩ := nows_at E[j].2.2.ps n hlt
          have t0 := (hf.cellAt (n * 3) (by omega)).trans y0
          have t1 := (hf.cellAt (n * 3 + 1) (by omega)).trans y1
          have t2 := (hf.cellAt (n * 3 + 2) (by omega)).trans y2
          have HV : Hid (E[j].2.2.read n = readNow E[j].2.2.ps[n].now) := hid (by unfold Fil.read; rw [if_neg h0, Int.toNat_natCast, List.getElem?_eq_getElem hlt])
          clear hf y0 y1 y2
          cases hnow : E[j].2.2.ps[n].now with
          | none =>
            rw [hnow] at t1 t2
            have t2' : w1.cell? ⟨gN, n * 3 + 2, none⟩ = some (.bool true) := t2
            have HN := hid hnow
            clear t2 hnow
            go_wp2
            go_ret2
            exact ⟨ret_si (by rw [hro.out, HV.out, HN.out]; rfl) (by rw [hro.out, HV.out, HN.out]; rfl), HB.out, trivial⟩
          | some l =>
            rw [hnow] at t1 t2
            have t2' : w1.cell? ⟨gN, n * 3 + 2, none⟩ = some (.bool false) := t2
            have t1' : w1.cell? ⟨gN, n * 3 + 1, none⟩ = some (.string ⟨l.toArray⟩) := t1
            have HN := hid hnow
            clear t1 t2 hnow
            go_wp2
            go_ret2
            exact ⟨ret_si (by rw [hro.out, HV.out, HN.out]; rfl) (by rw [hro.out, HV.out, HN.out]; rfl), HB.out, trivial⟩
        · have HV : Hid (E[j].2.2.read n = ([], 14)) := hid (by unfold Fil.read; rw [if_neg h0, Int.toNat_natCast, List.getElem?_eq_none (by omega)])
          clear hf
          go_wp2
          go_ret2
          exact ⟨ret_si (by rw [hro.out, HV.out]) (by rw [hro.out, HV.out]), HB.out, trivial⟩
    · have hro : Hid (readD s.data.toList i (Ens.dir E) = ([], 14)) := hid (by unfold readD; rw [hget])
      clear hget hp
      go_wp2
      go_ret2
      exact ⟨ret_si (by rw [hro.out]) (by rw [hro.out]), HB.out, trivial⟩
  · have e1 : (⟨c, Ens.dir E⟩ : Mod).read s.data.toList i = ([], c.refusal (nameFit s.data.toList), ⟨c.begun (nameFit s.data.toList), Ens.dir E⟩) := by unfold Mod.read; rw [if_pos hr]
    rw [e1]
    clear e1
    generalize c.refusal (nameFit s.data.toList) = q at *
    have hq : (q != 0) = true := by simpa using hr
    clear hr
    go_enter Tryz.func51, Tryz.ntmps51
    go_wp2_with fail
    refine HBG.out.mono ?_
    rintro e w1 ⟨rfl, hbeg⟩
    have HB := hid hbeg
    clear hbeg HBG
    go_wp2
    go_ret2
    exact ⟨rfl, HB.out, trivial⟩

theorem FileR.nam {f : FR} {n : Nam} {F : Fil} (h : FileR R w f n F) : f.name = ⟨n.toArray⟩ := by
  rw [← h.name]
/-- What has been laid of the names. -/
def NamesTo (w : World) (E : Ens) (j : Nat) (v : Value) (wr : World) : Prop := wr.ownsRow w.heap.size tStr 1 v j ((E.take j).map fun x => Value.string ⟨x.2.1.toArray⟩) ∧ Below w.heap.size w wr
theorem names_next {wr : World} {j : Nat} {o : Value} (hN : NamesTo w E j o wr) (hj : j < E.length) (hE : E.length ≤ 100) :
    ∃ v' w', (Builtin.append_ #[102, 102] 102 #[o, .slice (some ⟨wr.heap.size, 0, none⟩) 1 1]).run Tryz.prog (wr.alloc (.cells #[.string ⟨E[j].2.1.toArray⟩] tStr)) = .ok v' w' ∧ NamesTo w E (j + 1) v' w' := by
  obtain ⟨v', w', hr, ho, hg⟩ := append_str (hN.1.alloc _) (by have := hN.2.size; simp; omega) (blk_new wr (.cells #[.string ⟨E[j].2.1.toArray⟩] tStr)) (by omega)
  refine ⟨v', w', hr, ?_, (hN.2.alloc hN.2.size _).grown hg (by have := hN.2.size; simp; omega) (fun k hk => (hN.1.lt k hk).1)⟩
  rw [List.take_succ_eq_append_getElem hj, List.map_append]
  exact ho

end
end Ref
end Go.Proofs.YtgmbiiocjhkpdaaGreat

/-
  append to rows of the reference's: a copy of a row, one sector or one mark more, one file more.
-/
namespace Go.Proofs.YtgmbiiocjhkpdaaGreat
open Go.RowKit
namespace Ref
open Disk
open Num (hid bcells)

theorem cellInfo : ∃ i, Tryz.prog.info? tC = some i ∧ i.zero = some (.agg #[.bool false, .string ⟨#[]⟩, .bool false]) ∧ i.size = 3 ∧ i.bytes = 32 := by
  have h : (Tryz.prog.info? tC).map (fun i => (i.zero, i.size, i.bytes)) = some (some (.agg #[.bool false, .string ⟨#[]⟩, .bool false]), 3, 32) := by kernel_rfl
  cases e : Tryz.prog.info? tC with
  | none => rw [e] at h; cases h
  | some i =>
    rw [e] at h
    simp only [Option.map_some, Option.some.injEq, Prod.mk.injEq] at h
    exact ⟨i, rfl, h.1, h.2.1, h.2.2⟩
theorem boolInfo : ∃ i, Tryz.prog.info? tB = some i ∧ i.zero = some (.bool false) ∧ i.size = 1 ∧ i.bytes = 1 := by
  have h : (Tryz.prog.info? tB).map (fun i => (i.zero, i.size, i.bytes)) = some (some (.bool false), 1, 1) := by kernel_rfl
  cases e : Tryz.prog.info? tB with
  | none => rw [e] at h; cases h
  | some i =>
    rw [e] at h
    simp only [Option.map_some, Option.some.injEq, Prod.mk.injEq] at h
    exact ⟨i, rfl, h.1, h.2.1, h.2.2⟩
theorem fileInfo : ∃ i, Tryz.prog.info? tF = some i ∧ i.zero = some (.agg #[.string ⟨#[]⟩, .slice none 0 0, .slice none 0 0, .slice none 0 0, .bool false]) ∧ i.size = 5 ∧ i.bytes = 96 := by
  have h : (Tryz.prog.info? tF).map (fun i => (i.zero, i.size, i.bytes)) = some (some (.agg #[.string ⟨#[]⟩, .slice none 0 0, .slice none 0 0, .slice none 0 0, .bool false]), 5, 96) := by kernel_rfl
  cases e : Tryz.prog.info? tF with
  | none => rw [e] at h; cases h
  | some i =>
    rw [e] at h
    simp only [Option.map_some, Option.some.injEq, Prod.mk.injEq] at h
    exact ⟨i, rfl, h.1, h.2.1, h.2.2⟩

/-- append of what can be read from an address on: the new row, whose the block behind it is. -/
theorem append_from (t e : TypeId) (i : TypeInfo) (z : Value) (size bytes : Nat) (ht : Tryz.prog.underlying t = some (.slice e)) (hi : Tryz.prog.info? e = some i) (hz : i.zero = some z) (h1 : i.size = size) (h2 : i.bytes = bytes) (hzs : z.cells.size = size) (hsz : 0 < size) (hby : bytes ≤ 100)
    {w : World} {v : Value} {n : Nat} {xs : List Value} (hown : w.ownsRow 0 e size v n xs) {b o m c : Nat} {ys : List Value} (hl : ys.length = m * size) (hc : ∀ j (h : j < ys.length), w.cell? ⟨b, o + j, none⟩ = some ys[j]) (ho : ∀ u ∈ ys, u.oneCell' = true) (hn : n + m ≤ 1000000) :
    ∃ v' w', (Builtin.append_ #[t, t] t #[v, .slice (some ⟨b, o, none⟩) m c]).run Tryz.prog w = .ok v' w' ∧ w'.ownsRow 0 e size v' (n + m) (xs ++ ys) ∧ Chg (fun k => v.ownBlock = some k) w w' ∧ (∀ k, v'.ownBlock = some k → v.ownBlock = some k ∨ w.heap.size ≤ k) := by
  obtain ⟨v', w', hr, ho', hg, hw⟩ := run_append_who t t e i z size bytes ht hi hz h1 h2 hzs hsz v n xs hown ⟨b, o, none⟩ m c ys hl (by
    intro j u hj
    have hjl := (List.getElem?_eq_some_iff.1 hj).1
    rw [show (⟨b, o, none⟩ : Addr).add j = ⟨b, o + j, none⟩ from by simp [Addr.add], hc j hjl]
    rw [List.getElem?_eq_getElem hjl] at hj
    exact hj) ho (by unfold maxLen; omega) (by have := Nat.mul_le_mul_left (n + m) hby; omega)
  exact ⟨v', w', hr, ho', (Chg.refl _ w).grown hg (fun k hk => Or.inr hk), hw⟩
/-- A row that is copied behind an empty one: append([]T{}, v...). -/
theorem copy_row (t e : TypeId) (i : TypeInfo) (z : Value) (size bytes : Nat) (ht : Tryz.prog.underlying t = some (.slice e)) (hi : Tryz.prog.info? e = some i) (hz : i.zero = some z) (h1 : i.size = size) (h2 : i.bytes = bytes) (hzs : z.cells.size = size) (hsz : 0 < size) (hby : bytes ≤ 100)
    {w : World} {v0 v : Value} {n0 n : Nat} {xs0 xs : List Value} (hown : w.ownsRow 0 e size v0 n0 xs0) (hv : w.ownsRow 0 e size v n xs) (ho : ∀ u ∈ xs, u.oneCell' = true) (hn : n0 + n ≤ 1000000) :
    ∃ v' w', (Builtin.append_ #[t, t] t #[v0, v]).run Tryz.prog w = .ok v' w' ∧ w'.ownsRow 0 e size v' (n0 + n) (xs0 ++ xs) ∧ Chg (fun k => v0.ownBlock = some k) w w' ∧ (∀ k, v'.ownBlock = some k → v0.ownBlock = some k ∨ w.heap.size ≤ k) := by
  rcases hv.2 with ⟨rfl, rfl⟩ | ⟨g, cap, cur, rfl, _, hb, _⟩
  · have hx : xs = [] := List.eq_nil_of_length_eq_zero (by have := hv.1; omega)
    subst hx
    rw [List.append_nil, Nat.add_zero]
    exact ⟨v0, w, run_append_owned_none (P := Tryz.prog) (w := w) 0 t t e i size ht hi v0 n0 xs0 hown, hown, Chg.refl _ _, fun k hk => Or.inl hk⟩
  · refine append_from t e i z size bytes ht hi hz h1 h2 hzs hsz hby hown hv.1 (fun j hj => ?_) ho hn
    have := hv.cellAt j (by have := hv.1; omega)
    rw [Nat.zero_add, this, List.getElem?_eq_getElem hj]

theorem nows_one (ps : List Plc) : ∀ u ∈ nowsC ps, u.oneCell' = true := by
  intro u hu
  unfold nowsC at hu
  obtain ⟨p, _, hu⟩ := List.mem_flatMap.1 hu
  simp only [nowC, List.mem_cons, List.not_mem_nil, or_false] at hu
  rcases hu with rfl | rfl | rfl <;> rfl
theorem safes_one (ps : List Plc) : ∀ u ∈ safesC ps, u.oneCell' = true := by
  intro u hu
  unfold safesC at hu
  obtain ⟨p, _, hu⟩ := List.mem_flatMap.1 hu
  cases hp : p.safe <;> rw [hp] at hu <;> simp only [safeC, nowC, List.mem_cons, List.not_mem_nil, or_false] at hu <;> rcases hu with rfl | rfl | rfl <;> rfl
theorem waits_one (ps : List Plc) : ∀ u ∈ waitsC ps, u.oneCell' = true := by
  intro u hu
  unfold waitsC at hu
  obtain ⟨p, _, rfl⟩ := List.mem_map.1 hu
  rfl
/-- append([]Cell{}, v...), behind the empty row's block. -/
theorem copy_cells {w : World} {v : Value} {n : Nat} {xs : List Value} (hv : w.ownsRow 0 tC 3 v n xs) (ho : ∀ u ∈ xs, u.oneCell' = true) (hn : n ≤ 100000) :
    ∃ v' w', (Builtin.append_ #[tCs, tCs] tCs #[.slice (some ⟨w.heap.size, 0, none⟩) 0 0, v]).run Tryz.prog (w.alloc (.cells #[] tC)) = .ok v' w' ∧ w'.ownsRow 0 tC 3 v' n xs ∧ Below w.heap.size w w' ∧ (∀ k, v'.ownBlock = some k → w.heap.size ≤ k) := by
  obtain ⟨i, hi, h0, h1, h2⟩ := cellInfo
  obtain ⟨v', w', hr, ho', hc, hw⟩ := copy_row tCs tC i _ 3 32 Tryz.underlying106 hi h0 h1 h2 rfl (by decide) (by decide) (w := w.alloc (.cells #[] tC)) (World.ownsRow_made w #[] 0 (Nat.zero_le _) (by decide) rfl) (hv.alloc _) ho (by omega)
  rw [Nat.zero_add, List.nil_append] at ho'
  refine ⟨v', w', hr, ho', ?_, ?_⟩
  · have hb : Below w.heap.size w (w.alloc (.cells #[] tC)) := (Below.refl _ _).alloc (Nat.le_refl _) _
    exact hb.trans (hc.below (by simp) (fun k hk e => by simp [Value.ownBlock] at e; omega))
  · intro k hk
    rcases hw k hk with h | h
    · simp [Value.ownBlock] at h; omega
    · simp at h; omega
theorem copy_bools {w : World} {v : Value} {n : Nat} {xs : List Value} (hv : w.ownsRow 0 tB 1 v n xs) (ho : ∀ u ∈ xs, u.oneCell' = true) (hn : n ≤ 100000) :
    ∃ v' w', (Builtin.append_ #[tBs, tBs] tBs #[.slice (some ⟨w.heap.size, 0, none⟩) 0 0, v]).run Tryz.prog (w.alloc (.cells #[] tB)) = .ok v' w' ∧ w'.ownsRow 0 tB 1 v' n xs ∧ Below w.heap.size w w' ∧ (∀ k, v'.ownBlock = some k → w.heap.size ≤ k) := by
  obtain ⟨i, hi, h0, h1, h2⟩ := boolInfo
  obtain ⟨v', w', hr, ho', hc, hw⟩ := copy_row tBs tB i _ 1 1 Tryz.underlying107 hi h0 h1 h2 rfl (by decide) (by decide) (w := w.alloc (.cells #[] tB)) (World.ownsRow_made w #[] 0 (Nat.zero_le _) (by decide) rfl) (hv.alloc _) ho (by omega)
  rw [Nat.zero_add, List.nil_append] at ho'
  refine ⟨v', w', hr, ho', ?_, ?_⟩
  · have hb : Below w.heap.size w (w.alloc (.cells #[] tB)) := (Below.refl _ _).alloc (Nat.le_refl _) _
    exact hb.trans (hc.below (by simp) (fun k hk e => by simp [Value.ownBlock] at e; omega))
  · intro k hk
    rcases hw k hk with h | h
    · simp [Value.ownBlock] at h; omega
    · simp at h; omega
/-- A row's first n: v[:n]. -/
theorem row_take {w : World} {e : TypeId} {size : Nat} {ao : Option Addr} {n cap : Nat} {xs : List Value} (h : w.ownsRow 0 e size (.slice ao n cap) n xs) {j : Nat} (hj : j ≤ n) : w.ownsRow 0 e size (.slice ao j cap) j (xs.take (j * size)) := by
  refine ⟨?_, ?_⟩
  · rw [List.length_take, h.1]
    exact Nat.min_eq_left (Nat.mul_le_mul_right _ hj)
  · rcases h.2 with ⟨hv, hn⟩ | ⟨g, cap', cur, hv, hb, hh, h1, h2, h3, h4⟩
    · left
      cases hv
      have : j = 0 := by omega
      subst this
      exact ⟨rfl, rfl⟩
    · right
      cases hv
      refine ⟨g, cap, cur, rfl, hb, hh, by omega, h2, h3, ?_⟩
      rw [← h4, List.take_take, Nat.min_eq_left (Nat.mul_le_mul_right _ hj)]
end Ref
end Go.Proofs.YtgmbiiocjhkpdaaGreat
