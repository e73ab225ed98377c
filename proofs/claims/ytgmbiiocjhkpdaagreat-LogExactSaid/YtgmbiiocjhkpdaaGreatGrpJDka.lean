/-
  Put together: DiskMath, DiskMem, DiskCtl, DiskSec, DiskRow, DiskFile, DiskSync, DiskCut, DiskMeet, DiskWake, DiskLook.
-/
import GoSem.ClaimWide
import Derived.RowKit
import Derived.Test.YtgmbiiocjhkpdaaGreatGrpJNum
import Derived.Test.YtgmbiiocjhkpdaaGreatChecked
import Derived.OneCell
import Derived.Maps.OwnSet
import Derived.StringKeys
import Derived.Maps.RangeWalk
import Derived.Maps.Ext
import Derived.WalkKit
import Derived.WalkSpells
import Derived.WalkLawsBesides
import Derived.Laws.CopyRow
import Derived.Deep.WholeRow
import Derived.Lib.SlBuf
import Derived.Deep.RegionHeld3
import Derived.Deep.QuietTactic
import Derived.BigQuiet
import Derived.RegionTactic
import Derived.Sort.MapsRangeIn
/-
  A disk, plainly: sectors, places, files, what is armed, names.
-/
namespace Go.Proofs.YtgmbiiocjhkpdaaGreat
open Go.RowKit
namespace Disk

/-- A sector: its bytes, or torn. -/
abbrev Sec := Option (List UInt8)
abbrev Nam := List UInt8
structure Plc where
  now : Sec
  safe : Option Sec
  waits : Bool
structure Fil where
  ps : List Plc
  sure : Bool
structure Ctl where
  room : Int
  kind : Int
  at_ : Int
  more : Int
  down : Bool
  ops : Int
  life : Int

def zeros : List UInt8 := List.replicate 256 0
theorem zeros_len : zeros.length = 256 := List.length_replicate ..
/-- The first 256 bytes, bytes 0 for those that lack. -/
def fitted (l : List UInt8) : List UInt8 := l.take 256 ++ List.replicate (256 - l.length) 0
theorem fitted_len (l : List UInt8) : (fitted l).length = 256 := by simp [fitted]; omega
theorem fitted_full (l : List UInt8) (h : l.length = 256) : fitted l = l := by
  unfold fitted
  rw [h, List.take_of_length_le (by omega), Nat.sub_self, List.replicate_zero, List.append_nil]

/-! ### what is armed -/
def inc (n : Int) : Int := wrap64 (n + 1)
def Ctl.offed (c : Ctl) : Ctl := { c with kind := 0, at_ := 0, more := 0, down := true, life := if c.down then c.life else inc c.life }
/-- The fault that the next operation has, 0 for none; what is armed behind it. -/
def Ctl.fault (c : Ctl) : Int := if c.at_ = 1 then c.kind else 0
def Ctl.stepped (c : Ctl) : Ctl :=
  if c.at_ = 0 then c
  else if c.at_ = 1 then (if 0 < c.more then { c with more := c.more - 1 } else { c with kind := 0, at_ := 0, more := 0 })
  else { c with at_ := c.at_ - 1 }
def Ctl.counted (c : Ctl) : Ctl := ({ c with ops := inc c.ops } : Ctl).stepped
/-- The refusal of an operation, 0 for none. -/
def Ctl.refusal (c : Ctl) (fit : Bool) : Int :=
  if !fit then 1 else if c.down then 10 else if c.fault = 1 then 11 else if c.fault = 2 then 10 else 0
def Ctl.begun (c : Ctl) (fit : Bool) : Ctl :=
  if !fit then c else if c.down then c else if c.fault = 2 then c.counted.offed else c.counted
def Ctl.armed (c : Ctl) (at_ kind more : Int) : Ctl :=
  if at_ < 1 then { c with kind := 0, at_ := 0, more := 0 }
  else if kind = 1 then { c with kind := 1, at_ := at_, more := max more 0 }
  else if kind = 2 then { c with kind := 2, at_ := at_, more := 0 }
  else { c with kind := 0, at_ := 0, more := 0 }
def clamp (n : Int) : Int := min (max n 0) 16384
/-- What may be armed. -/
structure Ctl.Ok (c : Ctl) : Prop where
  room : 0 ≤ c.room ∧ c.room ≤ 16384
  at_ : 0 ≤ c.at_ ∧ c.at_ ≤ 9223372036854775807
  more : 0 ≤ c.more ∧ c.more ≤ 9223372036854775807
  none : c.at_ = 0 → c.kind = 0 ∧ c.more = 0
  some : c.at_ ≠ 0 → c.kind = 1 ∨ c.kind = 2 ∧ c.more = 0

theorem Ctl.Ok.stepped {c : Ctl} (h : c.Ok) : c.stepped.Ok := by
  obtain ⟨h1, h2, h3, h4, h5⟩ := h
  unfold Ctl.stepped
  split
  · exact ⟨h1, h2, h3, h4, h5⟩
  · split
    · split
      · exact ⟨h1, h2, ⟨by show 0 ≤ c.more - 1; omega, by show c.more - 1 ≤ _; omega⟩, fun e => absurd e (by assumption), fun e => by have := h5 e; show c.kind = 1 ∨ c.kind = 2 ∧ c.more - 1 = 0; omega⟩
      · exact ⟨h1, by simp, by simp, fun _ => ⟨rfl, rfl⟩, fun e => absurd rfl e⟩
    · exact ⟨h1, ⟨by show 0 ≤ c.at_ - 1; omega, by show c.at_ - 1 ≤ _; omega⟩, h3, fun e => by exfalso; have e' : c.at_ - 1 = 0 := e; omega, fun _ => h5 (by assumption)⟩
theorem Ctl.Ok.opsed {c : Ctl} (h : c.Ok) (n : Int) : ({ c with ops := n } : Ctl).Ok := ⟨h.room, h.at_, h.more, h.none, h.some⟩
theorem Ctl.Ok.counted {c : Ctl} (h : c.Ok) : c.counted.Ok := (h.opsed _).stepped
theorem Ctl.Ok.offed {c : Ctl} (h : c.Ok) : c.offed.Ok := ⟨h.room, by simp [Ctl.offed], by simp [Ctl.offed], fun _ => ⟨rfl, rfl⟩, fun e => absurd rfl e⟩
theorem Ctl.Ok.begun {c : Ctl} (h : c.Ok) (fit : Bool) : (c.begun fit).Ok := by
  unfold Ctl.begun
  repeat' split
  · exact h
  · exact h
  · exact h.counted.offed
  · exact h.counted
theorem Ctl.Ok.armed {c : Ctl} (h : c.Ok) (a k m : Int) (ha : a ≤ 9223372036854775807) (hm : m ≤ 9223372036854775807) : (c.armed a k m).Ok := by
  unfold Ctl.armed
  split
  · exact ⟨h.room, by simp, by simp, fun _ => ⟨rfl, rfl⟩, fun e => absurd rfl e⟩
  · split
    · exact ⟨h.room, ⟨by show 0 ≤ a; omega, ha⟩, ⟨by show 0 ≤ max m 0; omega, by show max m 0 ≤ _; omega⟩, fun e => by exfalso; have e' : a = 0 := e; omega, fun _ => Or.inl rfl⟩
    · split
      · exact ⟨h.room, ⟨by show 0 ≤ a; omega, ha⟩, by simp, fun e => by exfalso; have e' : a = 0 := e; omega, fun _ => Or.inr ⟨rfl, rfl⟩⟩
      · exact ⟨h.room, by simp, by simp, fun _ => ⟨rfl, rfl⟩, fun e => absurd rfl e⟩
theorem Ctl.Ok.roomed {c : Ctl} (h : c.Ok) (n : Int) : ({ c with room := clamp n } : Ctl).Ok := ⟨by show 0 ≤ clamp n ∧ clamp n ≤ 16384; unfold clamp; omega, h.at_, h.more, h.none, h.some⟩

/-! ### files -/
def Fil.grown (F : Fil) (i : Nat) : List Plc := if i = F.ps.length then F.ps ++ [⟨some zeros, none, false⟩] else F.ps
def Fil.write (F : Fil) (i : Nat) (s : List UInt8) : Fil :=
  if i = F.ps.length then { F with ps := F.ps ++ [⟨some s, none, true⟩] } else { F with ps := match F.ps[i]? with | some p => F.ps.set i ⟨some s, p.safe, true⟩ | none => F.ps }
def Fil.sync (F : Fil) : Fil := ⟨F.ps.map fun p => ⟨p.now, some p.now, false⟩, true⟩
def Fil.cut (F : Fil) (n : Nat) : Fil := ⟨F.ps.take n, true⟩
def Fil.bytes (F : Fil) : List UInt8 := F.ps.flatMap fun p => p.now.getD zeros
def fateAt (fates : List Int) (k : Nat) : Int := if fates.length = 0 then 0 else fates.getD (k % fates.length) 0
def Plc.meet (p : Plc) (f : Int) : Plc := if f = 1 then { p with safe := some p.now } else if f = 2 then { p with safe := some none } else p
def met1 (fates : List Int) (k : Nat) (p : Plc) : Plc := if p.waits then p.meet (fateAt fates k) else p
def count1 (k : Nat) (p : Plc) : Nat := if p.waits then k + 1 else k
def mets (fates : List Int) : Nat → List Plc → List Plc
  | _, [] => []
  | k, p :: r => met1 fates k p :: mets fates (count1 k p) r
def counts (k : Nat) (l : List Plc) : Nat := l.foldl count1 k
/-- Behind the last place that has a safe state. -/
def endOf (l : List Plc) : Nat := l.foldl (fun (s : Nat × Nat) p => (s.1 + 1, if p.safe.isSome then s.1 + 1 else s.2)) (0, 0) |>.2
def Plc.rise (p : Plc) : Plc := ⟨p.safe.getD (some zeros), some (p.safe.getD (some zeros)), false⟩
def Fil.woken (F : Fil) (fates : List Int) (k : Nat) : Fil :=
  ⟨((mets fates k F.ps).take (endOf (mets fates k F.ps))).map Plc.rise, true⟩
def Fil.lives (F : Fil) (fates : List Int) (k : Nat) : Bool := F.sure || endOf (mets fates k F.ps) != 0

theorem mets_len (fates : List Int) : ∀ (l : List Plc) (k : Nat), (mets fates k l).length = l.length
  | [], _ => rfl
  | p :: r, k => by simp [mets, mets_len fates r]
theorem mets_append (fates : List Int) : ∀ (a b : List Plc) (k : Nat), mets fates k (a ++ b) = mets fates k a ++ mets fates (counts k a) b
  | [], _, _ => rfl
  | p :: r, b, k => by simp [mets, counts, mets_append fates r b]
theorem counts_append (k : Nat) (a b : List Plc) : counts k (a ++ b) = counts (counts k a) b := by simp [counts]
theorem endOf_fold : ∀ (l : List Plc) (a e : Nat), (l.foldl (fun (s : Nat × Nat) p => (s.1 + 1, if p.safe.isSome then s.1 + 1 else s.2)) (a, e)).1 = a + l.length
  | [], _, _ => rfl
  | p :: r, a, e => by simp only [List.foldl_cons, List.length_cons]; rw [endOf_fold r]; omega
theorem endOf_snoc (l : List Plc) (p : Plc) : endOf (l ++ [p]) = if p.safe.isSome then l.length + 1 else endOf l := by
  unfold endOf
  rw [List.foldl_append]
  simp only [List.foldl_cons, List.foldl_nil]
  rw [endOf_fold l 0 0, Nat.zero_add]
theorem endOf_fold2 : ∀ (l : List Plc) (a e : Nat), e ≤ a → (l.foldl (fun (s : Nat × Nat) p => (s.1 + 1, if p.safe.isSome then s.1 + 1 else s.2)) (a, e)).2 ≤ a + l.length
  | [], _, _, h => h
  | p :: r, a, e, h => by
    simp only [List.foldl_cons, List.length_cons]
    have hx : (if p.safe.isSome then a + 1 else e) ≤ a + 1 := by split <;> omega
    have := endOf_fold2 r (a + 1) (if p.safe.isSome then a + 1 else e) hx
    omega
theorem endOf_le (l : List Plc) : endOf l ≤ l.length := by have := endOf_fold2 l 0 0 (Nat.le_refl _); rw [Nat.zero_add] at this; exact this

/-! ### names -/
def get? {α : Type} (L : List (Nam × α)) (n : Nam) : Option α := (L.find? fun e => e.1 == n).map (·.2)
def insB {α : Type} (x : Nam × α) : List (Nam × α) → List (Nam × α)
  | [] => [x]
  | y :: r => if bytesBefore x.1 y.1 then x :: y :: r else y :: insB x r
def del {α : Type} (L : List (Nam × α)) (n : Nam) : List (Nam × α) := L.filter fun e => !(e.1 == n)
def ins {α : Type} (L : List (Nam × α)) (n : Nam) (a : α) : List (Nam × α) := insB (n, a) (del L n)

end Disk
end Go.Proofs.YtgmbiiocjhkpdaaGreat

/-
  How a disk of the project lies in memory: the struct, the map, files, rows of places, sectors; what a call may turn.
-/
namespace Go.Proofs.YtgmbiiocjhkpdaaGreat
open Go.RowKit
namespace Disk
open Num (hid bcells)

/-! ### blocks -/
theorem blk_cell {w : World} {b : Nat} {c : Array Value} {t : TypeId} (h : w.heap[b]? = some (.cells c t (0, 0))) (i : Nat) : w.cell? ⟨b, i, none⟩ = c[i]? := by simp [World.cell?, h]
theorem blk_free {w : World} {b : Nat} {c : Array Value} {t : TypeId} (h : w.heap[b]? = some (.cells c t (0, 0))) (i : Nat) : w.frozen? ⟨b, i, none⟩ = false := by simp [World.frozen?, h]
theorem blk_set {w : World} {b : Nat} {c : Array Value} {t : TypeId} (h : w.heap[b]? = some (.cells c t (0, 0))) (i : Nat) (v : Value) : (w.setCell ⟨b, i, none⟩ v).heap[b]? = some (.cells (c.setIfInBounds i v) t (0, 0)) := by
  have hlt := lt_of_block h
  have h' : w.heap[b] = .cells c t (0, 0) := by simpa [Array.getElem?_eq_getElem hlt] using h
  show (w.heap.modify b _)[b]? = _
  rw [Array.getElem?_eq_getElem (by simpa using hlt), Array.getElem_modify_self, h']
  rfl
theorem blk_new (w : World) (o : Obj) : (w.alloc o).heap[w.heap.size]? = some o := by
  show (w.heap.push o)[w.heap.size]? = some o
  simp
theorem blk_other {w : World} {b : Nat} {o : Obj} (h : w.heap[b]? = some o) {p : Addr} (hp : b ≠ p.block) (v : Value) : (w.setCell p v).heap[b]? = some o := (Below.heap_setCell w p v b hp).trans h
theorem blk_alloc {w : World} {b : Nat} {o : Obj} (h : w.heap[b]? = some o) (o' : Obj) : (w.alloc o').heap[b]? = some o := (Below.heap_alloc w o' b (lt_of_block h)).trans h

theorem alloc_cell {w : World} {b i : Nat} (h : b < w.heap.size) (o : Obj) : (w.alloc o).cell? ⟨b, i, none⟩ = w.cell? ⟨b, i, none⟩ := World.cell?_of_block (Below.heap_alloc w o b h)
theorem alloc_frozen {w : World} {b i : Nat} (h : b < w.heap.size) (o : Obj) : (w.alloc o).frozen? ⟨b, i, none⟩ = w.frozen? ⟨b, i, none⟩ := World.frozen?_of_block (Below.heap_alloc w o b h)

theorem set_cell_other {w : World} {p : Addr} {b i : Nat} (h : b ≠ p.block) (v : Value) : (w.setCell p v).cell? ⟨b, i, none⟩ = w.cell? ⟨b, i, none⟩ := World.cell?_of_block (Below.heap_setCell w p v b h)
theorem set_frozen_other {w : World} {p : Addr} {b i : Nat} (h : b ≠ p.block) (v : Value) : (w.setCell p v).frozen? ⟨b, i, none⟩ = w.frozen? ⟨b, i, none⟩ := World.frozen?_of_block (Below.heap_setCell w p v b h)
theorem set_size (w : World) (p : Addr) (v : Value) : (w.setCell p v).heap.size = w.heap.size := by simp [World.setCell]

theorem set_cell_off {w : World} {b i j : Nat} (h : i ≠ j) (v : Value) : (w.setCell ⟨b, i, none⟩ v).cell? ⟨b, j, none⟩ = w.cell? ⟨b, j, none⟩ := by
  cases hb : w.heap[b]? with
  | none => simp [World.cell?, World.setCell, Array.getElem?_modify, hb]
  | some o => cases o <;> simp [World.cell?, World.setCell, Array.getElem?_modify, hb, h]
theorem set_cell_same {w : World} {b i : Nat} {x : Value} (h : w.cell? ⟨b, i, none⟩ = some x) (v : Value) : (w.setCell ⟨b, i, none⟩ v).cell? ⟨b, i, none⟩ = some v := by
  cases hb : w.heap[b]? with
  | none => simp [World.cell?, hb] at h
  | some o =>
    cases o <;> simp [World.cell?, hb] at h
    rename_i c e fr
    have hi : i < c.size := (Array.getElem?_eq_some_iff.1 h).1
    simp [World.cell?, World.setCell, Array.getElem?_modify, hb, hi]
theorem set_frozen {w : World} {b i j : Nat} (v : Value) : (w.setCell ⟨b, i, none⟩ v).frozen? ⟨b, j, none⟩ = w.frozen? ⟨b, j, none⟩ := by
  cases hb : w.heap[b]? with
  | none => simp [World.frozen?, World.setCell, Array.getElem?_modify, hb]
  | some o => cases o <;> simp [World.frozen?, World.setCell, Array.getElem?_modify, hb]

/-! ### what a call may turn -/
structure Chg (F : Nat → Prop) (w w' : World) : Prop where
  os : w'.os = w.os
  tape : w'.tape = w.tape
  output : w'.output = w.output
  size : w.heap.size ≤ w'.heap.size
  block : ∀ k, k < w.heap.size → ¬ F k → w'.heap[k]? = w.heap[k]?

theorem Chg.refl (F : Nat → Prop) (w : World) : Chg F w w := ⟨rfl, rfl, rfl, Nat.le_refl _, fun _ _ _ => rfl⟩
theorem Chg.trans {F : Nat → Prop} {a b c : World} (h : Chg F a b) (k : Chg F b c) : Chg F a c :=
  ⟨k.os.trans h.os, k.tape.trans h.tape, k.output.trans h.output, Nat.le_trans h.size k.size, fun i hi hF => (k.block i (Nat.lt_of_lt_of_le hi h.size) hF).trans (h.block i hi hF)⟩
theorem Chg.mono {F G : Nat → Prop} {w w' : World} (h : Chg F w w') (hG : ∀ k, k < w.heap.size → F k → G k) : Chg G w w' := ⟨h.os, h.tape, h.output, h.size, fun k hk hF => h.block k hk (fun e => hF (hG k hk e))⟩
theorem Chg.of_below {F : Nat → Prop} {w w' : World} (h : Below w.heap.size w w') : Chg F w w' := ⟨h.os, h.tape, h.output, h.size, fun k hk _ => h.block k hk⟩
theorem Chg.drew {F : Nat → Prop} {a w : World} (h : Chg F a w) : Chg F a w.drew := ⟨h.os, h.tape, h.output, h.size, h.block⟩
theorem Chg.drewN {F : Nat → Prop} {a w : World} (h : Chg F a w) (q : Nat) : Chg F a (w.drewN q) := ⟨h.os, h.tape, h.output, h.size, h.block⟩
theorem Chg.alloc {F : Nat → Prop} {a w : World} (h : Chg F a w) (o : Obj) : Chg F a (w.alloc o) :=
  ⟨h.os, h.tape, h.output, by have := h.size; simp; omega, fun k hk hF => (Below.heap_alloc _ _ _ (Nat.lt_of_lt_of_le hk h.size)).trans (h.block k hk hF)⟩
theorem Chg.setCell {F : Nat → Prop} {a w : World} (h : Chg F a w) {p : Addr} (hp : a.heap.size ≤ p.block ∨ F p.block) (u : Value) : Chg F a (w.setCell p u) :=
  ⟨h.os, h.tape, h.output, by have := h.size; simpa [World.setCell] using this, fun k hk hF => (Below.heap_setCell _ _ _ _ (by
    rintro rfl
    rcases hp with hp | hp
    · omega
    · exact hF hp)).trans (h.block k hk hF)⟩
theorem Chg.grown {F : Nat → Prop} {a w w' : World} {row : Option Nat} (h : Chg F a w) (hg : w.grownBy w' row) (hr : ∀ k, row = some k → a.heap.size ≤ k ∨ F k) : Chg F a w' :=
  ⟨hg.os.trans h.os, hg.tape.trans h.tape, hg.output.trans h.output, Nat.le_trans h.size hg.size, fun k hk hF => (hg.block k (Nat.lt_of_lt_of_le hk h.size) (by
    intro e
    rcases hr k e.symm with h1 | h1
    · omega
    · exact hF h1)).trans (h.block k hk hF)⟩
/-- A call on the way that turns some of the same. -/
theorem Chg.then {F G : Nat → Prop} {a b c : World} (h : Chg F a b) (k : Chg G b c) (hG : ∀ i, i < b.heap.size → G i → a.heap.size ≤ i ∨ F i) : Chg F a c :=
  ⟨k.os.trans h.os, k.tape.trans h.tape, k.output.trans h.output, Nat.le_trans h.size k.size, fun i hi hF => (k.block i (Nat.lt_of_lt_of_le hi h.size) (fun e => by
    rcases hG i (Nat.lt_of_lt_of_le hi h.size) e with h1 | h1
    · omega
    · exact hF h1)).trans (h.block i hi hF)⟩
theorem Chg.below {F : Nat → Prop} {w w' : World} {B : Nat} (h : Chg F w w') (hB : B ≤ w.heap.size) (hF : ∀ k, k < B → ¬ F k) : Below B w w' := ⟨h.os, h.tape, h.output, h.size, fun k hk => h.block k (by omega) (hF k hk)⟩
theorem Chg.at {F : Nat → Prop} {w w' : World} (h : Chg F w w') {b : Nat} {o : Obj} (hb : w.heap[b]? = some o) (hF : ¬ F b) : w'.heap[b]? = some o := (h.block b (lt_of_block hb) hF).trans hb

theorem Chg.cell {F : Nat → Prop} {w w' : World} (h : Chg F w w') {b i : Nat} (hb : b < w.heap.size) (hF : ¬ F b) : w'.cell? ⟨b, i, none⟩ = w.cell? ⟨b, i, none⟩ := World.cell?_of_block (h.block b hb hF)
theorem Chg.frozen {F : Nat → Prop} {w w' : World} (h : Chg F w w') {b i : Nat} (hb : b < w.heap.size) (hF : ¬ F b) : w'.frozen? ⟨b, i, none⟩ = w.frozen? ⟨b, i, none⟩ := World.frozen?_of_block (h.block b hb hF)

/-! ### who owns what -/
inductive Tag
  | other
  | root
  | dir
  | file (n : Nam)
  | row (n : Nam)
  | sec
def upd (tag : Nat → Tag) (b : Nat) (t : Tag) : Nat → Tag := fun k => if k = b then t else tag k
theorem upd_same (tag : Nat → Tag) (b : Nat) (t : Tag) : upd tag b t b = t := by simp [upd]
theorem upd_ne (tag : Nat → Tag) {b k : Nat} (t : Tag) (h : k ≠ b) : upd tag b t k = tag k := by simp [upd, h]

abbrev tPlace : TypeId := 138
abbrev tSector : TypeId := 141
abbrev tFile : TypeId := 120
abbrev tDisk : TypeId := 72

abbrev ptr (b : Nat) : Value := .pointer (some ⟨b, 0, none⟩)
def ptrO : Option Nat → Value
  | none => .pointer none
  | some b => ptr b
/-- Where the sectors of a place lie. -/
structure PQ where
  now : Nat
  safe : Option Nat
  waits : Bool
def PQ.cells (q : PQ) : List Value := [ptr q.now, ptrO q.safe, .bool q.waits]
def secCells (s : Sec) : Array Value := (bcells (s.getD zeros) ++ [Value.bool s.isNone]).toArray
structure SecAt (tag : Nat → Tag) (w : World) (b : Nat) (s : Sec) : Prop where
  tag : tag b = .sec
  len : (s.getD zeros).length = 256
  blk : w.heap[b]? = some (.cells (secCells s) tSector (0, 0))
def SafeAt (tag : Nat → Tag) (w : World) : Option Nat → Option Sec → Prop
  | none, none => True
  | some b, some s => SecAt tag w b s
  | _, _ => False
structure PlcAt (tag : Nat → Tag) (w : World) (q : PQ) (p : Plc) : Prop where
  now : SecAt tag w q.now p.now
  safe : SafeAt tag w q.safe p.safe
  waits : q.waits = p.waits
abbrev Pls := List (PQ × Plc)
def Pls.cells (Q : Pls) : List Value := Q.flatMap fun x => x.1.cells
structure FileAt (tag : Nat → Tag) (w : World) (n : Nam) (b : Nat) (F : Fil) (v : Value) (Q : Pls) : Prop where
  blk : w.heap[b]? = some (.cells #[v, .bool F.sure] tFile (0, 0))
  tagb : tag b = .file n
  row : w.ownsRow 0 tPlace 3 v Q.length (Pls.cells Q)
  tagr : ∀ g, v.ownBlock = some g → tag g = .row n
  pls : ∀ x ∈ Q, PlcAt tag w x.1 x.2
  ps : F.ps = Q.map (·.2)
  len : Q.length ≤ 16384

/-- A file lies as it lay where neither it nor its row nor a sector is turned, and what is marked stays so. -/
theorem SecAt.kept {tag tag' : Nat → Tag} {w w' : World} {F : Nat → Prop} {b : Nat} {s : Sec} (h : SecAt tag w b s) (hc : Chg F w w') (ht : ∀ k, k < w.heap.size → tag' k = tag k) (hF : ∀ k, F k → tag k ≠ .sec) : SecAt tag' w' b s :=
  ⟨(ht b (lt_of_block h.blk)).trans h.tag, h.len, hc.at h.blk (fun e => hF b e h.tag)⟩
theorem SafeAt.kept {tag tag' : Nat → Tag} {w w' : World} {F : Nat → Prop} {b : Option Nat} {s : Option Sec} (h : SafeAt tag w b s) (hc : Chg F w w') (ht : ∀ k, k < w.heap.size → tag' k = tag k) (hF : ∀ k, F k → tag k ≠ .sec) : SafeAt tag' w' b s := by
  cases b <;> cases s
  · trivial
  · exact h.elim
  · exact h.elim
  · exact SecAt.kept h hc ht hF
theorem PlcAt.kept {tag tag' : Nat → Tag} {w w' : World} {F : Nat → Prop} {q : PQ} {p : Plc} (h : PlcAt tag w q p) (hc : Chg F w w') (ht : ∀ k, k < w.heap.size → tag' k = tag k) (hF : ∀ k, F k → tag k ≠ .sec) : PlcAt tag' w' q p :=
  ⟨h.now.kept hc ht hF, h.safe.kept hc ht hF, h.waits⟩
theorem row_kept {w w' : World} {F : Nat → Prop} {base : Nat} {e : TypeId} {k : Nat} {v : Value} {n : Nat} {xs : List Value} (h : w.ownsRow base e k v n xs) (hc : Chg F w w') (hF : ∀ g, v.ownBlock = some g → ¬ F g) : w'.ownsRow base e k v n xs := by
  obtain ⟨h1, h2⟩ := h
  refine ⟨h1, ?_⟩
  rcases h2 with h2 | ⟨g, cap, cur, hv, hg, hh, r⟩
  · exact Or.inl h2
  · subst hv
    exact Or.inr ⟨g, cap, cur, rfl, hg, hc.at hh (hF g rfl), r⟩
theorem FileAt.kept {tag tag' : Nat → Tag} {w w' : World} {F : Nat → Prop} {n : Nam} {b : Nat} {f : Fil} {v : Value} {Q : Pls} (h : FileAt tag w n b f v Q) (hc : Chg F w w') (ht : ∀ k, k < w.heap.size → tag' k = tag k)
    (hF : ∀ k, F k → tag k ≠ .sec ∧ tag k ≠ .file n ∧ tag k ≠ .row n) : FileAt tag' w' n b f v Q := by
  refine ⟨hc.at h.blk (fun e => (hF b e).2.1 h.tagb), (ht b (lt_of_block h.blk)).trans h.tagb, row_kept h.row hc (fun g hg e => (hF g e).2.2 (h.tagr g hg)), ?_, fun x hx => (h.pls x hx).kept hc ht (fun k hk => (hF k hk).1), h.ps, h.len⟩
  intro g hg
  exact (ht g (h.row.lt g hg).2).trans (h.tagr g hg)

/-! ### the map of files -/
abbrev tStr : TypeId := 9
abbrev tMap : TypeId := 68
theorem strKeyed : Maps.Keyed Tryz.prog tStr := Maps.string_keyed Tryz.underlying9
theorem zeroFile (w : World) : (zeroValue 104).run Tryz.prog w = .ok (.pointer none) w := by
  have h : (Tryz.prog.info? 104).map (fun i => i.zero) = some (some (.pointer none)) := by kernel_rfl
  exact Tryz.zeroValue104 w
/-- How a pointer to a file reads. -/
def RP : Value → Option (DataW Unit × List MemPlace)
  | .pointer (some ⟨b, 0, none⟩) => some (.lit (.int .u64 (b : Int)), [])
  | .pointer none => some (.nil, [])
  | _ => none
theorem RP_inv {v : Value} {y : DataW Unit × List MemPlace} (h : RP v = some y) : ∃ o : Option Nat, v = ptrO o := by
  match v, h with
  | .pointer (some ⟨b, 0, none⟩), _ => exact ⟨some b, rfl⟩
  | .pointer none, _ => exact ⟨none, rfl⟩
theorem RP_lit {v : Value} {b : Nat} {ps : List MemPlace} (h : RP v = some (.lit (.int .u64 (b : Int)), ps)) : v = ptr b := by
  match v, h with
  | .pointer (some ⟨c, 0, none⟩), h => simp only [RP, Option.some.injEq, Prod.mk.injEq, DataW.lit.injEq, Lit.int.injEq] at h; obtain ⟨⟨_, h⟩, _⟩ := h; obtain rfl : c = b := (by omega); rfl
theorem RP_nil {v : Value} {ps : List MemPlace} (h : RP v = some (.nil, ps)) : v = .pointer none := by
  match v, h with
  | .pointer (some ⟨c, 0, none⟩), h => simp [RP] at h
  | .pointer none, _ => rfl

abbrev Ents := List (Nam × (Nat × Fil))
def datum (L : Ents) : DataW Unit := .map (L.map fun e => (Lit.string e.1, DataW.lit (.int .u64 (e.2.1 : Int))))
def Owns (w : World) (m : Nat) (L : Ents) : Prop := w.ownsMap Tryz.prog tStr RP m L.length (datum L)

theorem datum_size (L : Ents) : Maps.size (datum L) = L.length := by simp [datum, Maps.size]
theorem datum_at (L : Ents) (n : Nam) : (datum L).atKey (.string n) .nil = match get? L n with | some x => .lit (.int .u64 (x.1 : Int)) | none => .nil := by
  unfold datum get? DataW.atKey
  simp only [List.find?_map]
  have e : ((fun p : Lit × DataW Unit => p.1.sameKey (.string n)) ∘ fun e : Nam × (Nat × Fil) => (Lit.string e.1, DataW.lit (.int .u64 (e.2.1 : Int)))) = fun e => e.1 == n := by funext e; rfl
  rw [e]
  cases List.find? (fun e : Nam × (Nat × Fil) => e.1 == n) L <;> rfl
theorem datum_insB (x : Nam × (Nat × Fil)) : ∀ L : Ents, (DataW.insert (Lit.string x.1, DataW.lit (.int .u64 (x.2.1 : Int))) (L.map fun e => (Lit.string e.1, (DataW.lit (.int .u64 (e.2.1 : Int)) : DataW Unit)))) = (insB x L).map fun e => (Lit.string e.1, DataW.lit (.int .u64 (e.2.1 : Int)))
  | [] => rfl
  | y :: r => by
    simp only [List.map_cons, DataW.insert, insB]
    have e : Lit.before (.string x.1) (.string y.1) = bytesBefore x.1 y.1 := rfl
    rw [e]
    cases bytesBefore x.1 y.1
    · simp only [Bool.false_eq_true, if_false, List.map_cons, datum_insB x r]
    · simp
theorem datum_filter (L : Ents) (n : Nam) : (L.map fun e => (Lit.string e.1, (DataW.lit (.int .u64 (e.2.1 : Int)) : DataW Unit))).filter (ChangeMaps.notKey (.string n)) = (del L n).map fun e => (Lit.string e.1, DataW.lit (.int .u64 (e.2.1 : Int))) := by
  unfold del
  rw [List.filter_map]
  rfl
theorem datum_put (L : Ents) (n : Nam) (b : Nat) (F : Fil) : (datum L).put (.string n) (.lit (.int .u64 (b : Int))) = datum (ins L n (b, F)) := by
  unfold datum ins
  rw [DataW.put_eq]
  unfold ChangeMaps.putKey
  rw [datum_filter, datum_insB (n, (b, F))]
theorem datum_del (L : Ents) (n : Nam) : (datum L).del (.string n) = datum (del L n) := by
  unfold datum
  rw [DataW.del_eq]
  unfold ChangeMaps.delKey
  exact congrArg DataW.map (datum_filter L n)

theorem Owns.tight {w : World} {m n : Nat} {L : Ents} (h : w.ownsMap Tryz.prog tStr RP m n (datum L)) : Owns w m L := by
  obtain ⟨es, clock, hb, F, hs, hD⟩ := h
  refine ⟨es, clock, hb, F, ?_, hD⟩
  have e1 := congrArg Maps.size hD
  rw [datum_size] at e1
  simp [Maps.size, length_sorted] at e1
  omega
theorem keyS {s : ByteArray} (hs : s.size ≤ maxLen) : keyOf Tryz.prog tStr (.string s) = some (.string s.data.toList) := WideMaps.keyOf_string_mk Tryz.underlying9 hs
theorem Owns.look {w : World} {m : Nat} {L : Ents} (h : Owns w m L) (s : ByteArray) (hs : s.size ≤ maxLen) :
    (Instr.lookup tMap (.map (some m)) (.string s) false).run Tryz.prog w = .ok (ptrO ((get? L s.data.toList).map (·.1))) w := by
  obtain ⟨v, ps, hrun, hv⟩ := World.ownsMap.lookup h strKeyed Tryz.underlying68 (zeroFile w) (zd := .nil) (zp := []) rfl (keyS hs)
  rw [datum_at] at hv
  cases hg : get? L s.data.toList with
  | none => rw [hg] at hv; rw [hrun, RP_nil hv]; rfl
  | some x => rw [hg] at hv; rw [hrun, RP_lit hv]; rfl
theorem Owns.put {w : World} {m : Nat} {L : Ents} (h : Owns w m L) (s : ByteArray) (hs : s.size ≤ maxLen) (hL : L.length < maxLen) (b : Nat) (F : Fil) :
    ∃ w', (Instr.mapUpdate tMap (.map (some m)) (.string s) (ptr b)).run Tryz.prog w = .ok () w' ∧ Owns w' m (ins L s.data.toList (b, F)) ∧ w.mapTurned w' m := by
  obtain ⟨w', hrun, ho, ht⟩ := World.ownsMap.store h strKeyed Tryz.underlying68 hL (keyS hs) (val := ptr b) (d := .lit (.int .u64 (b : Int))) (ps := []) rfl
  rw [datum_put L _ b F] at ho
  exact ⟨w', hrun, Owns.tight ho, ht⟩
theorem Owns.drop {w : World} {m : Nat} {L : Ents} (h : Owns w m L) (s : ByteArray) (hs : s.size ≤ maxLen) (ty : TypeId) :
    ∃ w', (Builtin.delete_ #[tMap, tStr] ty #[.map (some m), .string s]).run Tryz.prog w = .ok (.tuple #[]) w' ∧ Owns w' m (del L s.data.toList) ∧ w.mapTurned w' m := by
  obtain ⟨w', hrun, ho, ht⟩ := World.ownsMap.drop h strKeyed Tryz.underlying68 (keyS hs) ty
  rw [datum_del] at ho
  exact ⟨w', hrun, Owns.tight ho, ht⟩
theorem Owns.kept {w w' : World} {m : Nat} {L : Ents} {F : Nat → Prop} (h : Owns w m L) (hc : Chg F w w') (hF : ¬ F m) : Owns w' m L := by
  obtain ⟨es, clock, hb, r⟩ := h
  exact ⟨es, clock, hc.at hb hF, r⟩
theorem Owns.at {w : World} {m : Nat} {L : Ents} (h : Owns w m L) : ∃ es clock, w.heap[m]? = some (.map es clock) := by
  obtain ⟨es, clock, hb, r⟩ := h
  exact ⟨es, clock, hb⟩
/-- The names rise. -/
def Rises (L : Ents) : Prop := L.Pairwise fun p q => bytesBefore p.1 q.1 = true
theorem Owns.rises {w : World} {m : Nat} {L : Ents} (h : Owns w m L) : Rises L := by
  obtain ⟨es, he, hp, _⟩ := World.ownsMap.canon h strKeyed
  simp only [datum, DataW.map.injEq] at he
  rw [← he, List.pairwise_map] at hp
  exact hp

/-! ### the disk -/
def rootCells (m : Nat) (c : Ctl) : Array Value := #[.map (some m), .int .i64 c.room, .int .i64 c.kind, .int .i64 c.at_, .int .i64 c.more, .bool c.down, .int .i64 c.ops, .int .i64 c.life]
structure RootAt (tag : Nat → Tag) (w : World) (d m : Nat) (c : Ctl) : Prop where
  blk : w.heap[d]? = some (.cells (rootCells m c) tDisk (0, 0))
  tagd : tag d = .root
  tagm : tag m = .dir
  ok : c.Ok
def FilesAt (tag : Nat → Tag) (w : World) (L : Ents) : Prop := ∀ e ∈ L, ∃ v Q, FileAt tag w e.1 e.2.1 e.2.2 v Q
structure DiskAt (tag : Nat → Tag) (w : World) (d m : Nat) (c : Ctl) (L : Ents) : Prop where
  root : RootAt tag w d m c
  owns : Owns w m L
  files : FilesAt tag w L
  few : L.length ≤ 8

theorem RootAt.kept {tag tag' : Nat → Tag} {w w' : World} {d m : Nat} {c : Ctl} {F : Nat → Prop} (h : RootAt tag w d m c) (hm : m < w.heap.size) (hc : Chg F w w') (ht : ∀ k, k < w.heap.size → tag' k = tag k) (hF : ¬ F d) : RootAt tag' w' d m c :=
  ⟨hc.at h.blk hF, (ht d (lt_of_block h.blk)).trans h.tagd, (ht m hm).trans h.tagm, h.ok⟩
theorem FilesAt.kept {tag tag' : Nat → Tag} {w w' : World} {L : Ents} {F : Nat → Prop} (h : FilesAt tag w L) (hc : Chg F w w') (ht : ∀ k, k < w.heap.size → tag' k = tag k)
    (hF : ∀ k, F k → tag k ≠ .sec ∧ ∀ n, tag k ≠ .file n ∧ tag k ≠ .row n) : FilesAt tag' w' L := fun e he => by
  obtain ⟨v, Q, hf⟩ := h e he
  exact ⟨v, Q, hf.kept hc ht fun k hk => ⟨(hF k hk).1, (hF k hk).2 e.1⟩⟩
theorem DiskAt.mlt {tag : Nat → Tag} {w : World} {d m : Nat} {c : Ctl} {L : Ents} (h : DiskAt tag w d m c L) : m < w.heap.size := by
  obtain ⟨es, clock, hb⟩ := h.owns.at
  exact lt_of_block hb
/-- Nothing of the disk is turned. -/
theorem DiskAt.kept {tag tag' : Nat → Tag} {w w' : World} {d m : Nat} {c : Ctl} {L : Ents} {F : Nat → Prop} (h : DiskAt tag w d m c L) (hc : Chg F w w') (ht : ∀ k, k < w.heap.size → tag' k = tag k) (hF : ∀ k, F k → tag k = .other) : DiskAt tag' w' d m c L :=
  ⟨h.root.kept h.mlt hc ht (fun e => by have := hF d e; rw [h.root.tagd] at this; cases this), h.owns.kept hc (fun e => by have := hF m e; rw [h.root.tagm] at this; cases this),
   h.files.kept hc ht (fun k hk => by rw [hF k hk]; exact ⟨by simp, fun n => ⟨by simp, by simp⟩⟩), h.few⟩

end Disk
end Go.Proofs.YtgmbiiocjhkpdaaGreat

/-
  Contracts of the project's disk, of what stands in the struct alone: names, room, what is armed, off, counts.
-/
namespace Go.Proofs.YtgmbiiocjhkpdaaGreat
open Go.RowKit
namespace Disk
open Num (hid)

theorem root_cells {w : World} {d m : Nat} {c : Ctl} (h : w.heap[d]? = some (.cells (rootCells m c) tDisk (0, 0))) :
    w.cell? ⟨d, 0, none⟩ = some (.map (some m)) ∧ w.cell? ⟨d, 1, none⟩ = some (.int .i64 c.room) ∧ w.cell? ⟨d, 2, none⟩ = some (.int .i64 c.kind) ∧ w.cell? ⟨d, 3, none⟩ = some (.int .i64 c.at_) ∧
    w.cell? ⟨d, 4, none⟩ = some (.int .i64 c.more) ∧ w.cell? ⟨d, 5, none⟩ = some (.bool c.down) ∧ w.cell? ⟨d, 6, none⟩ = some (.int .i64 c.ops) ∧ w.cell? ⟨d, 7, none⟩ = some (.int .i64 c.life) :=
  ⟨blk_cell h 0, blk_cell h 1, blk_cell h 2, blk_cell h 3, blk_cell h 4, blk_cell h 5, blk_cell h 6, blk_cell h 7⟩
theorem set_more {w : World} {d m : Nat} {c : Ctl} (h : w.heap[d]? = some (.cells (rootCells m c) tDisk (0, 0))) (n : Int) : (w.setCell ⟨d, 4, none⟩ (.int .i64 n)).heap[d]? = some (.cells (rootCells m { c with more := n }) tDisk (0, 0)) := blk_set h 4 _
theorem set_at {w : World} {d m : Nat} {c : Ctl} (h : w.heap[d]? = some (.cells (rootCells m c) tDisk (0, 0))) (n : Int) : (w.setCell ⟨d, 3, none⟩ (.int .i64 n)).heap[d]? = some (.cells (rootCells m { c with at_ := n }) tDisk (0, 0)) := blk_set h 3 _
theorem set_kind {w : World} {d m : Nat} {c : Ctl} (h : w.heap[d]? = some (.cells (rootCells m c) tDisk (0, 0))) (n : Int) : (w.setCell ⟨d, 2, none⟩ (.int .i64 n)).heap[d]? = some (.cells (rootCells m { c with kind := n }) tDisk (0, 0)) := blk_set h 2 _
theorem set_room {w : World} {d m : Nat} {c : Ctl} (h : w.heap[d]? = some (.cells (rootCells m c) tDisk (0, 0))) (n : Int) : (w.setCell ⟨d, 1, none⟩ (.int .i64 n)).heap[d]? = some (.cells (rootCells m { c with room := n }) tDisk (0, 0)) := blk_set h 1 _
theorem set_down {w : World} {d m : Nat} {c : Ctl} (h : w.heap[d]? = some (.cells (rootCells m c) tDisk (0, 0))) (n : Bool) : (w.setCell ⟨d, 5, none⟩ (.bool n)).heap[d]? = some (.cells (rootCells m { c with down := n }) tDisk (0, 0)) := blk_set h 5 _
theorem set_ops {w : World} {d m : Nat} {c : Ctl} (h : w.heap[d]? = some (.cells (rootCells m c) tDisk (0, 0))) (n : Int) : (w.setCell ⟨d, 6, none⟩ (.int .i64 n)).heap[d]? = some (.cells (rootCells m { c with ops := n }) tDisk (0, 0)) := blk_set h 6 _
theorem set_life {w : World} {d m : Nat} {c : Ctl} (h : w.heap[d]? = some (.cells (rootCells m c) tDisk (0, 0))) (n : Int) : (w.setCell ⟨d, 7, none⟩ (.int .i64 n)).heap[d]? = some (.cells (rootCells m { c with life := n }) tDisk (0, 0)) := blk_set h 7 _

theorem ret_b {a b : Bool} (h : a = b) : Ending.returned (.bool a) = .returned (.bool b) := by rw [h]
theorem ret_i {a b : Int} (h : a = b) : Ending.returned (.int .i64 a) = .returned (.int .i64 b) := by rw [h]
def nameOk (s : ByteArray) : Bool := decide (1 ≤ s.size ∧ s.size ≤ 16)

set_option maxRecDepth 100000 in
theorem isName_any (s : ByteArray) (hs : s.size ≤ maxLen) (w : World) : Calls Tryz.prog 84 #[.string s] w fun e w' => e = .returned (.bool (nameOk s)) ∧ w = w' := by
  replace hs : s.size ≤ 9223372036854775807 := by unfold maxLen at hs; omega
  by_cases h1 : 1 ≤ s.size
  · by_cases h2 : s.size ≤ 16
    · have e : nameOk s = true := by simp [nameOk, h1, h2]
      go_enter Tryz.func84, Tryz.ntmps84
      go_wp2
      go_ret
      exact ⟨ret_b (by rw [e]; simp; try omega), rfl⟩
    · have e : nameOk s = false := by simp [nameOk, h2]
      go_enter Tryz.func84, Tryz.ntmps84
      go_wp2
      go_ret
      exact ⟨ret_b (by rw [e]; simp; try omega), rfl⟩
  · have e : nameOk s = false := by simp [nameOk, h1]
    go_enter Tryz.func84, Tryz.ntmps84
    go_wp2
    go_ret
    exact ⟨rfl, rfl⟩

theorem Chg.root {d : Nat} {a w : World} (h : Chg (· = d) a w) (i : Nat) (u : Value) : Chg (· = d) a (w.setCell ⟨d, i, none⟩ u) := h.setCell (Or.inr rfl) u
/-- A call on the struct alone: what stands in it behind the call. -/
def Turns (m : Nat) (d : Nat) (c : Ctl) (w w' : World) : Prop := w'.heap[d]? = some (.cells (rootCells m c) tDisk (0, 0)) ∧ Chg (· = d) w w'

set_option maxRecDepth 100000 in
theorem next_any (d m : Nat) (c : Ctl) (w : World) (h : w.heap[d]? = some (.cells (rootCells m c) tDisk (0, 0))) (ok : c.Ok) :
    Calls Tryz.prog 119 #[.pointer (some ⟨d, 2, none⟩)] w fun e w' => e = .returned (.int .i64 c.fault) ∧ Turns m d c.stepped w w' := by
  obtain ⟨-, -, c2, c3, c4, -, -, -⟩ := root_cells h
  have f2 := blk_free h 2
  have f3 := blk_free h 3
  have f4 := blk_free h 4
  obtain ⟨-, ⟨ha0, ha1⟩, ⟨hm0, hm1⟩, hn, hk⟩ := ok
  have HK := hid hk
  have HN := hid hn
  clear hk hn
  obtain ⟨room, kind, at_, more, down, ops, life⟩ := c
  simp only at c2 c3 c4 ha0 ha1 hm0 hm1 HK HN
  have H := hid h
  clear h
  by_cases h0 : at_ = 0
  · subst h0
    go_enter Tryz.func119, Tryz.ntmps119
    go_wp2
    go_ret
    exact ⟨rfl, H.out, Chg.refl _ _⟩
  · by_cases h1 : at_ = 1
    · subst h1
      by_cases h2 : 0 < more
      · go_enter Tryz.func119, Tryz.ntmps119
        go_wp2
        go_ret
        refine ⟨rfl, ?_, (((Chg.refl _ _).root 3 _).root 4 _).root 3 _⟩
        have := set_at (set_more (set_at H.out 0) (more - 1)) 1
        simpa [Ctl.stepped, h2] using this
      · obtain rfl : more = 0 := by omega
        go_enter Tryz.func119, Tryz.ntmps119
        go_wp2
        go_ret
        refine ⟨rfl, ?_, ?_⟩
        · have := set_more (set_at (set_kind (set_at H.out 0) 0) 0) 0
          simpa [Ctl.stepped] using this
        · exact ((((Chg.refl _ _).root 3 _).root 2 _).root 3 _).root 4 _
    · go_enter Tryz.func119, Tryz.ntmps119
      go_wp2
      go_ret
      refine ⟨?_, ?_, (Chg.refl _ _).root 3 _⟩
      · simp [Ctl.fault, h1]
      · have := set_at H.out (at_ - 1)
        simpa [Ctl.stepped, h0, h1] using this


theorem turns_room {w : World} {d m : Nat} {c : Ctl} (h : w.heap[d]? = some (.cells (rootCells m c) tDisk (0, 0))) {n k : Int} (e : k = clamp n) : Turns m d { c with room := clamp n } w (w.setCell ⟨d, 1, none⟩ (.int .i64 k)) := by
  subst e
  exact ⟨set_room h _, (Chg.refl _ _).root 1 _⟩
set_option maxRecDepth 100000 in
theorem room_any (d m : Nat) (c : Ctl) (n : Int) (w : World) (h : w.heap[d]? = some (.cells (rootCells m c) tDisk (0, 0))) :
    Calls Tryz.prog 47 #[ptr d, .int .i64 n] w fun e w' => e = .returned (.tuple #[]) ∧ Turns m d { c with room := clamp n } w w' := by
  obtain ⟨-, c1, -, -, -, -, -, -⟩ := root_cells h
  have f1 := blk_free h 1
  have H := hid h
  clear h
  unfold ptr
  go_enter Tryz.func47, Tryz.ntmps47
  go_wp2
  all_goals
    go_end0
    exact ⟨rfl, turns_room H.out (by unfold clamp; omega)⟩

def faultVal (at_ kind more : Int) : Value :=
  .agg (if at_ < 1 then #[.int .i64 0, .int .i64 0, .int .i64 0] else if kind = 1 then #[.int .i64 1, .int .i64 at_, .int .i64 (max more 0)] else if kind = 2 then #[.int .i64 2, .int .i64 at_, .int .i64 0] else #[.int .i64 0, .int .i64 0, .int .i64 0])

theorem fault_ret {a k m x y z : Int} (e : faultVal a k m = .agg #[.int .i64 x, .int .i64 y, .int .i64 z]) : Ending.returned (.agg #[.int .i64 x, .int .i64 y, .int .i64 z]) = .returned (faultVal a k m) := by rw [e]
set_option maxRecDepth 100000 in
theorem newFault_any (a k m : Int) (w : World) :
    Calls Tryz.prog 72 #[.int .i64 a, .int .i64 k, .int .i64 m] w fun e w' => e = .returned (faultVal a k m) ∧ Below w.heap.size w w' := by
  by_cases h0 : a < 1
  · go_enter Tryz.func72, Tryz.ntmps72
    go_wp2
    exact bodyPost_ret (v := .agg #[.int .i64 0, .int .i64 0, .int .i64 0]) (by simp [results, Tryz.results72, go_sem]) rfl ⟨fault_ret (by unfold faultVal; rw [if_pos (by omega)]), (Below.refl _ _).alloc (Nat.le_refl _) _⟩
  · by_cases h1 : k = 1
    · subst h1
      by_cases h2 : 0 ≤ m
      · have e : max m 0 = m := by omega
        go_enter Tryz.func72, Tryz.ntmps72
        go_wp2
        exact bodyPost_ret (v := .agg #[.int .i64 1, .int .i64 a, .int .i64 m]) (by simp [results, Tryz.results72, go_sem]) rfl ⟨fault_ret (by unfold faultVal; rw [if_neg (by omega), if_pos rfl, Int.max_eq_left (by omega)]), (Below.refl _ _).alloc (Nat.le_refl _) _⟩
      · have e : max m 0 = 0 := by omega
        go_enter Tryz.func72, Tryz.ntmps72
        go_wp2
        exact bodyPost_ret (v := .agg #[.int .i64 1, .int .i64 a, .int .i64 0]) (by simp [results, Tryz.results72, go_sem]) rfl ⟨fault_ret (by unfold faultVal; rw [if_neg (by omega), if_pos rfl, Int.max_eq_right (by omega)]), (Below.refl _ _).alloc (Nat.le_refl _) _⟩
    · by_cases h2 : k = 2
      · subst h2
        go_enter Tryz.func72, Tryz.ntmps72
        go_wp2
        exact bodyPost_ret (v := .agg #[.int .i64 2, .int .i64 a, .int .i64 0]) (by simp [results, Tryz.results72, go_sem]) rfl ⟨fault_ret (by unfold faultVal; rw [if_neg (by omega), if_neg (by omega), if_pos rfl]), (Below.refl _ _).alloc (Nat.le_refl _) _⟩
      · go_enter Tryz.func72, Tryz.ntmps72
        go_wp2
        exact bodyPost_ret (v := .agg #[.int .i64 0, .int .i64 0, .int .i64 0]) (by simp [results, Tryz.results72, go_sem]) rfl ⟨fault_ret (by unfold faultVal; rw [if_neg (by omega), if_neg h1, if_neg h2]), (Below.refl _ _).alloc (Nat.le_refl _) _⟩

/-- 'Arm' writes the three fields. -/
theorem turns_arm {w w1 : World} {d m : Nat} {c : Ctl} (h : w.heap[d]? = some (.cells (rootCells m c) tDisk (0, 0))) (hb : Below w.heap.size w w1) {a k n x y z : Int} (e : faultVal a k n = .agg #[.int .i64 x, .int .i64 y, .int .i64 z]) :
    Turns m d (c.armed a k n) w (((w1.setCell ⟨d, 2, none⟩ (.int .i64 x)).setCell ⟨d, 3, none⟩ (.int .i64 y)).setCell ⟨d, 4, none⟩ (.int .i64 z)) := by
  have hc : Chg (· = d) w w1 := Chg.of_below hb
  have h1 : w1.heap[d]? = some (.cells (rootCells m c) tDisk (0, 0)) := (hb.block d (lt_of_block h)).trans h
  have h2 := set_more (set_at (set_kind h1 x) y) z
  refine ⟨?_, ((hc.root 2 _).root 3 _).root 4 _⟩
  rw [h2]
  unfold faultVal at e
  unfold Ctl.armed
  repeat' split at e
  all_goals
    simp only [Value.agg.injEq, Array.mk.injEq, List.cons.injEq, Value.int.injEq, true_and, and_true] at e
    obtain ⟨rfl, rfl, rfl⟩ := e
    first
      | (rw [if_neg (show ¬ a < 1 by omega)]; simp_all)
      | simp_all

set_option maxRecDepth 100000 in
theorem arm_any (d m : Nat) (c : Ctl) (a k n : Int) (w : World) (h : w.heap[d]? = some (.cells (rootCells m c) tDisk (0, 0))) :
    Calls Tryz.prog 23 #[ptr d, .int .i64 a, .int .i64 k, .int .i64 n] w fun e w' => e = .returned (.tuple #[]) ∧ Turns m d (c.armed a k n) w w' := by
  obtain ⟨-, -, c2, c3, c4, -, -, -⟩ := root_cells h
  have f2 := blk_free h 2
  have f3 := blk_free h 3
  have f4 := blk_free h 4
  have hlt := lt_of_block h
  have H := hid h
  clear h
  have hv : ∃ x y z, faultVal a k n = .agg #[.int .i64 x, .int .i64 y, .int .i64 z] := by
    unfold faultVal; repeat' split
    all_goals exact ⟨_, _, _, rfl⟩
  obtain ⟨x, y, z, hv⟩ := hv
  unfold ptr
  go_enter Tryz.func23, Tryz.ntmps23
  go_wp2_with fail
  refine (newFault_any a k n _).mono ?_
  rintro e w1 ⟨rfl, hb⟩
  have HB := hid hb
  have HV := hid hv
  have d2 := (hb.cell (p := ⟨d, 2, none⟩) hlt).trans c2
  have d3 := (hb.cell (p := ⟨d, 3, none⟩) hlt).trans c3
  have d4 := (hb.cell (p := ⟨d, 4, none⟩) hlt).trans c4
  have g2 := (hb.frozen (p := ⟨d, 2, none⟩) hlt).trans f2
  have g3 := (hb.frozen (p := ⟨d, 3, none⟩) hlt).trans f3
  have g4 := (hb.frozen (p := ⟨d, 4, none⟩) hlt).trans f4
  clear hb
  go_wp2
  go_end0
  exact ⟨rfl, turns_arm H.out HB.out HV.out⟩

set_option maxRecDepth 100000 in
theorem off_any (d m : Nat) (c : Ctl) (w : World) (h : w.heap[d]? = some (.cells (rootCells m c) tDisk (0, 0))) :
    Calls Tryz.prog 25 #[ptr d] w fun e w' => e = .returned (.tuple #[]) ∧ Turns m d c.offed w w' := by
  obtain ⟨-, -, c2, c3, c4, c5, -, c7⟩ := root_cells h
  have f2 := blk_free h 2
  have f3 := blk_free h 3
  have f4 := blk_free h 4
  have f5 := blk_free h 5
  have f7 := blk_free h 7
  obtain ⟨room, kind, at_, more, down, ops, life⟩ := c
  simp only at c2 c3 c4 c5 c7
  have H := hid h
  clear h
  unfold ptr
  cases down
  · go_enter Tryz.func25, Tryz.ntmps25
    go_wp2
    go_end0
    have := set_life (set_down (set_more (set_at (set_kind H.out 0) 0) 0) true) (inc life)
    exact ⟨rfl, this, ((((((Chg.refl _ _).root 2 _).root 3 _).root 4 _).root 5 _).root 7 _)⟩
  · go_enter Tryz.func25, Tryz.ntmps25
    go_wp2
    go_end0
    have := set_more (set_at (set_kind H.out 0) 0) 0
    exact ⟨rfl, this, (((Chg.refl _ _).root 2 _).root 3 _).root 4 _⟩

set_option maxRecDepth 100000 in
theorem ops_any (d m : Nat) (c : Ctl) (w : World) (h : w.heap[d]? = some (.cells (rootCells m c) tDisk (0, 0))) :
    Calls Tryz.prog 34 #[ptr d] w fun e w' => e = .returned (.int .i64 c.ops) ∧ w = w' := by
  obtain ⟨-, -, -, -, -, -, c6, -⟩ := root_cells h
  unfold ptr
  go_enter Tryz.func34, Tryz.ntmps34
  go_wp2
  go_ret
  exact ⟨rfl, rfl⟩
end Disk
end Go.Proofs.YtgmbiiocjhkpdaaGreat

/-
  Contracts of the project's sectors: a new one.
-/
namespace Go.Proofs.YtgmbiiocjhkpdaaGreat
open Go.RowKit
namespace Disk
open Num (hid bcells)

/-- 'copy(dst, s)' of a string of whatever length into the first of a row. -/
theorem run_copy_head {P : Program} (w : World) (dT sT ty elem : TypeId) (g dLen dCap : Nat) (s : ByteArray) (cur : Array Value) (t : TypeId)
    (hu : P.underlying dT = some (.slice elem)) (hs : (P.info? elem).map (·.size) = some 1) (hg : w.heap[g]? = some (.cells cur t (0, 0))) (hfit : dLen ≤ cur.size) :
    (Builtin.copy_ #[dT, sT] ty #[.slice (some ⟨g, 0, none⟩) dLen dCap, .string s]).run P w =
      .ok (goInt (min s.size dLen)) (w.setRow g (bcells (s.data.toList.take dLen) ++ cur.toList.drop (min s.size dLen)).toArray) := by
  have hsz : s.size = s.data.toList.length := rfl
  have hlen : (bcells (s.data.toList.take (min s.size dLen))).length = min s.size dLen := by rw [Num.bcells_len, List.length_take, hsz]; omega
  have hst := run_storeCells_at P g 0 t (bcells (s.data.toList.take (min s.size dLen))) 0 cur w hg (by rw [hlen]; omega) (by
    intro v hv; simp only [bcells, List.mem_map] at hv; obtain ⟨b, _, rfl⟩ := hv; rfl)
  have htk : List.take (min s.size dLen) (List.map (fun b : UInt8 => Value.int IntKind.u8 (b.toNat : Int)) s.data.toList) = bcells (s.data.toList.take (min s.size dLen)) := by
    unfold bcells; rw [List.map_take]
  have htt : s.data.toList.take (min s.size dLen) = s.data.toList.take dLen := by
    rw [hsz]; rcases Nat.le_total dLen s.data.toList.length with h | h
    · rw [Nat.min_eq_right h]
    · rw [Nat.min_eq_left h, List.take_of_length_le (Nat.le_refl _), List.take_of_length_le h]
  rw [hlen] at hst
  simp only [Nat.add_zero, Nat.zero_add, List.take_zero, List.nil_append] at hst
  cases hq : P.info? elem with
  | none => simp [hq] at hs
  | some i =>
    have hm : Nat.min s.size dLen = min s.size dLen := rfl
    simp [Builtin.copy_, run_underlying hu, Builtin.lenOf, Builtin.firstCells, sizeOf, typeInfo, hq, hm]
    rw [htk, hst, htt]
    simp [Result.andThen]
    exact congrArg goInt (by omega)

theorem zeroSector : Tryz.zeroCells141 = secCells (some zeros) := by kernel_rfl

theorem drop_zero (k : Nat) (hk : k ≤ 256) : (Tryz.zeroCells141).toList.drop k = bcells (List.replicate (256 - k) 0) ++ [Value.bool false] := by
  rw [zeroSector]
  unfold secCells zeros
  simp only [Option.getD_some, Option.isNone_some, List.drop_append]
  have h1 : (bcells (List.replicate 256 0)).length = 256 := by rw [Num.bcells_len, List.length_replicate]
  rw [h1, Nat.sub_eq_zero_of_le hk, List.drop_zero]
  unfold bcells
  rw [← List.map_drop, List.drop_replicate]
theorem sector_copied (l : List UInt8) : (bcells (l.take 256) ++ (Tryz.zeroCells141).toList.drop (min l.length 256)).toArray = secCells (some (fitted l)) := by
  rw [drop_zero _ (by omega)]
  unfold secCells fitted
  have e : 256 - min l.length 256 = 256 - l.length := by omega
  rw [e, Option.getD_some, Option.isNone_some]
  unfold bcells
  rw [List.map_append, List.append_assoc]

set_option maxRecDepth 100000 in
theorem newSector_any (s : ByteArray) (w : World) :
    Calls Tryz.prog 118 #[.string s] w fun e w' => e = .returned (ptr w.heap.size) ∧ w' = w.alloc (.cells (secCells (some (fitted s.data.toList))) tSector) := by
  have hr := run_copy_head (P := Tryz.prog) (w.alloc (.cells Tryz.zeroCells141 tSector)) 99 9 3 5 w.heap.size 256 256 s Tryz.zeroCells141 tSector Tryz.underlying99 (by kernel_rfl) (blk_new _ _) (by
    have : (Tryz.zeroCells141).size = 257 := by kernel_rfl
    omega)
  have hsz : s.size = s.data.toList.length := rfl
  rw [World.setRow_alloc_new, hsz, sector_copied] at hr
  unfold tSector at hr
  have HZ := hid hsz
  clear hsz
  go_enter Tryz.func118, Tryz.ntmps118
  go_wp2
  go_ret
  exact ⟨rfl, rfl⟩

end Disk
end Go.Proofs.YtgmbiiocjhkpdaaGreat

/-
  append on an owned row, and whose the block behind it is; what else rows of three cells want.
-/
namespace Go.Proofs.YtgmbiiocjhkpdaaGreat
open Go.RowKit
namespace Disk
open Num (hid bcells)

theorem run_append_who {P : Program} {w : World} (t ty e : TypeId) (i : TypeInfo) (z : Value) (size bytes : Nat) (ht : P.underlying t = some (.slice e)) (hi : P.info? e = some i) (hz : i.zero = some z)
    (hsize : i.size = size) (hby : i.bytes = bytes) (hzs : z.cells.size = size) (hsz : 0 < size)
    (v : Value) (n : Nat) (xs : List Value) (hown : w.ownsRow 0 e size v n xs)
    (a : Addr) (m c : Nat) (news : List Value) (hl : news.length = m * size) (hnews : ∀ j u, news[j]? = some u → w.cell? (a.add j) = some u) (h1 : ∀ u ∈ news, u.oneCell' = true)
    (h63 : n + m ≤ maxLen) (hbytes : (n + m) * bytes ≤ 140737488355328) :
    ∃ v' w', (Builtin.append_ #[t, t] ty #[v, .slice (some a) m c]).run P w = .ok v' w' ∧ w'.ownsRow 0 e size v' (n + m) (xs ++ news) ∧ w.grownBy w' v.ownBlock ∧
      (∀ k, v'.ownBlock = some k → v.ownBlock = some k ∨ w.heap.size ≤ k) := by
  obtain ⟨v', w', h2, h3, h4, -⟩ := run_append_own (P := P) w 0 t ty e i z size bytes ht hi hz hsize hby hzs hsz v n xs hown a m c news hl hnews h1 h63 hbytes (Nat.zero_le _)
  refine ⟨v', w', h2, h3, h4, ?_⟩
  rcases hown.2 with ⟨rfl, rfl⟩ | ⟨g, cap, cur, rfl, hbg, hg, hnc, hcm, hcs, htake⟩
  · obtain ⟨v2, w2, e1, e2, -⟩ := run_append_own (P := P) w w.heap.size t ty e i z size bytes ht hi hz hsize hby hzs hsz (.slice none 0 0) 0 xs ⟨hown.1, .inl ⟨rfl, rfl⟩⟩ a m c news hl hnews h1 h63 hbytes (Nat.le_refl _)
    rw [h2] at e1
    cases e1
    exact fun k hk => Or.inr ((e2.lt k hk).1)
  · subst hsize
    subst hby
    by_cases hroom : n + m ≤ cap
    · have hfit : n * i.size + news.length ≤ cur.size := by rw [hl, hcs, ← Nat.add_mul]; exact Nat.mul_le_mul_right _ hroom
      have hr := run_append_room (P := P) w t ty e i ht hi g n cap cur hg a m c news hl hnews h1 hroom hfit
      rw [h2] at hr
      cases hr
      exact fun k hk => Or.inl hk
    · have holds : ∀ j u, xs[j]? = some u → w.cell? ((⟨g, 0, none⟩ : Addr).add j) = some u := hown.cells (g := g) rfl
      have hr := run_append_grow (P := P) w t ty e i z ht hi hz ⟨g, 0, none⟩ n cap xs hown.1 holds a m c news hl hnews (by unfold maxLen at h63; omega) (by unfold maxLen at h63; omega) (growslice_fits (by unfold maxLen at h63; omega) hbytes)
      rw [h2] at hr
      cases hr
      intro k hk
      simp only [Value.ownBlock, Option.some.injEq] at hk
      exact Or.inr (by omega)

/-- 'append' at the operation, where its run is known by an equation. -/
theorem wpList_append_run {P : Program} {w : World} {ops : Array Oper} {rest : List Oper} {o : Oper} {a : Act} {Q : Exit → Act → World → Prop} (hgd : o.guard = none) (d s : Operand) (t t' : TypeId)
    (ho : o.op = .call { callee := .builtin .append, args := #[d, s], argTypes := #[t, t'] }) (v u : Value) (hd : a.eval d = v) (hs : a.eval s = u) {v' : Value} {w' : World}
    (hr : (Builtin.append_ #[t, t'] o.type #[v, u]).run P w = .ok v' w') (h : wpList P ops Q rest (a.put o.dst v') w') : wpList P ops Q (o :: rest) a w := by
  refine wpList_plain hgd fun K hK => ?_
  unfold Oper.wp execOp
  simp only [ho, resolve, invoke, builtin, Sem.run_bind, Sem.run_pure, Result.andThen_ok, List.map_toArray, List.map_cons, List.map_nil, hd, hs, hr]
  exact hK _ _ h

/-- The facts of a place's type. -/
theorem placeInfo : ∃ i, Tryz.prog.info? tPlace = some i ∧ i.zero = some (.agg #[.pointer none, .pointer none, .bool false]) ∧ i.size = 3 ∧ i.bytes = 24 := by
  have h : (Tryz.prog.info? tPlace).map (fun i => (i.zero, i.size, i.bytes)) = some (some (.agg #[.pointer none, .pointer none, .bool false]), 3, 24) := by kernel_rfl
  cases e : Tryz.prog.info? tPlace with
  | none => rw [e] at h; cases h
  | some i =>
    rw [e] at h
    simp only [Option.map_some, Option.some.injEq, Prod.mk.injEq] at h
    exact ⟨i, rfl, h.1, h.2.1, h.2.2⟩

abbrev tPlaces : TypeId := 118
/-- 'append(row, place)', the place's three cells in a block. -/
theorem append_place {w : World} {v : Value} {n : Nat} {xs : List Value} (hown : w.ownsRow 0 tPlace 3 v n xs) {a : Nat} {x y z : Value} (hb : w.heap[a]? = some (.cells #[x, y, z] tPlace (0, 0)))
    (hx : x.oneCell' = true) (hy : y.oneCell' = true) (hz : z.oneCell' = true) (hn : n ≤ 1000000) :
    ∃ v' w', (Builtin.append_ #[tPlaces, tPlaces] tPlaces #[v, .slice (some ⟨a, 0, none⟩) 1 1]).run Tryz.prog w = .ok v' w' ∧ w'.ownsRow 0 tPlace 3 v' (n + 1) (xs ++ [x, y, z]) ∧ w.grownBy w' v.ownBlock ∧
      (∀ k, v'.ownBlock = some k → v.ownBlock = some k ∨ w.heap.size ≤ k) := by
  obtain ⟨i, hi, h0, h1, h2⟩ := placeInfo
  refine run_append_who tPlaces tPlaces tPlace i _ 3 24 Tryz.underlying118 hi h0 h1 h2 rfl (by decide) v n xs hown ⟨a, 0, none⟩ 1 1 [x, y, z] rfl ?_ ?_ (by unfold maxLen; omega) (by omega)
  · intro j u hj
    rw [show (⟨a, 0, none⟩ : Addr).add j = ⟨a, j, none⟩ from by simp [Addr.add]; omega, blk_cell hb j]
    simpa using hj
  · intro u hu
    simp only [List.mem_cons, List.not_mem_nil, or_false] at hu
    rcases hu with rfl | rfl | rfl
    · exact hx
    · exact hy
    · exact hz

theorem row_some {w : World} {e : TypeId} {k : Nat} {v : Value} {n : Nat} {xs : List Value} (h : w.ownsRow 0 e k v n xs) (hn : 0 < n) :
    ∃ g cap, v = .slice (some ⟨g, 0, none⟩) n cap ∧ n ≤ cap ∧ cap ≤ maxLen ∧ g < w.heap.size := by
  rcases h.2 with ⟨_, h0⟩ | ⟨g, cap, cur, hv, _, hb, h1, h2, _⟩
  · omega
  · exact ⟨g, cap, hv, h1, h2, lt_of_block hb⟩

theorem Pls.cells_len : ∀ Q : Pls, Q.cells.length = 3 * Q.length
  | [] => rfl
  | x :: r => by
    have := Pls.cells_len r
    unfold Pls.cells at this ⊢
    rw [List.flatMap_cons, List.length_append, this, List.length_cons]
    simp [PQ.cells]; omega
theorem Pls.cells_append (a b : Pls) : Pls.cells (a ++ b) = Pls.cells a ++ Pls.cells b := List.flatMap_append ..
theorem Pls.cells_set : ∀ (Q : Pls) (i : Nat) (h : i < Q.length) (b : Nat) (p : Plc), ((Q.cells.set (3 * i) (ptr b)).set (3 * i + 2) (.bool true)) = Pls.cells (Q.set i (⟨b, Q[i].1.safe, true⟩, p))
  | x :: r, 0, _, b, p => by rfl
  | x :: r, i + 1, h, b, p => by
    have := Pls.cells_set r i (by simpa using h) b p
    unfold Pls.cells at this ⊢
    simp only [List.flatMap_cons, List.getElem_cons_succ, List.set_cons_succ]
    rw [← this]
    have e1 : 3 * (i + 1) = 3 * i + 3 := by omega
    have hl : (PQ.cells x.1).length = 3 := rfl
    rw [e1, List.set_append_right _ _ (by omega), List.set_append_right _ _ (by rw [hl]; omega), hl]
    have e2 : 3 * i + 3 - 3 = 3 * i := by omega
    have e3 : 3 * i + 3 + 2 - 3 = 3 * i + 2 := by omega
    rw [e2, e3]
theorem Pls.cells_at (Q : Pls) (i : Nat) (h : i < Q.length) : Q.cells[3 * i]? = some (ptr Q[i].1.now) ∧ Q.cells[3 * i + 1]? = some (ptrO Q[i].1.safe) ∧ Q.cells[3 * i + 2]? = some (.bool Q[i].1.waits) := by
  induction Q generalizing i with
  | nil => simp at h
  | cons x r ih =>
    have hl : (PQ.cells x.1).length = 3 := rfl
    unfold Pls.cells at ih ⊢
    cases i with
    | zero => exact ⟨rfl, rfl, rfl⟩
    | succ i =>
      obtain ⟨h1, h2, h3⟩ := ih i (by simpa using h)
      simp only [List.flatMap_cons, List.getElem_cons_succ]
      rw [List.getElem?_append_right (by omega), List.getElem?_append_right (by omega), List.getElem?_append_right (by omega), hl]
      have e1 : 3 * (i + 1) - 3 = 3 * i := by omega
      have e2 : 3 * (i + 1) + 1 - 3 = 3 * i + 1 := by omega
      have e3 : 3 * (i + 1) + 2 - 3 = 3 * i + 2 := by omega
      rw [e1, e2, e3]
      exact ⟨h1, h2, h3⟩

theorem Pls.cells_at_drop (Q : Pls) (i : Nat) (h : i < Q.length) : Q.cells = (Pls.cells (Q.take i)) ++ (Q[i].1.cells ++ Pls.cells (Q.drop (i + 1))) := by
  have e : Q = Q.take i ++ (Q[i] :: Q.drop (i + 1)) := by rw [List.getElem_cons_drop, List.take_append_drop]
  have e2 := congrArg Pls.cells e
  rw [Pls.cells_append] at e2
  exact e2
theorem take_len (Q : Pls) (i : Nat) (h : i < Q.length) : (Pls.cells (Q.take i)).length = 3 * i := by
  rw [Pls.cells_len, List.length_take]; omega
theorem set_split {α : Type} (a b : List α) (n : Nat) (h : a.length = n) (j : Nat) (x : α) : (a ++ b).set (n + j) x = a ++ b.set j x := by
  subst h
  rw [List.set_append_right _ _ (by omega), show a.length + j - a.length = j by omega]
theorem Pls.cells_setq (Q : Pls) (i : Nat) (h : i < Q.length) (y : PQ × Plc) : Pls.cells (Q.set i y) = Pls.cells (Q.take i) ++ (y.1.cells ++ Pls.cells (Q.drop (i + 1))) := by
  rw [List.set_eq_take_append_cons_drop, if_pos h, Pls.cells_append]
  rfl
/-- Three stores at a place. -/
theorem Pls.cells_set3 (Q : Pls) (i : Nat) (h : i < Q.length) (y : PQ × Plc) :
    (((Q.cells.set (3 * i) (ptr y.1.now)).set (3 * i + 1) (ptrO y.1.safe)).set (3 * i + 2) (.bool y.1.waits)) = Pls.cells (Q.set i y) := by
  have hl := take_len Q i h
  rw [Pls.cells_setq Q i h, Pls.cells_at_drop Q i h]
  have e : (Pls.cells (Q.take i) ++ (Q[i].1.cells ++ Pls.cells (Q.drop (i + 1)))).set (3 * i) (ptr y.1.now) = _ := set_split (Pls.cells (Q.take i)) (Q[i].1.cells ++ Pls.cells (Q.drop (i + 1))) (3 * i) hl 0 (ptr y.1.now)
  rw [e, set_split _ _ _ hl 1, set_split _ _ _ hl 2]
  rfl
/-- One store at a place: its safe state. -/
theorem Pls.cells_set1 (Q : Pls) (i : Nat) (h : i < Q.length) (o : Option Nat) (p : Plc) :
    (Q.cells.set (3 * i + 1) (ptrO o)) = Pls.cells (Q.set i (⟨Q[i].1.now, o, Q[i].1.waits⟩, p)) := by
  have hl := take_len Q i h
  rw [Pls.cells_setq Q i h, Pls.cells_at_drop Q i h, set_split _ _ _ hl 1]
  rfl

theorem mem_set {α : Type} {l : List α} {i : Nat} {a x : α} (h : x ∈ l.set i a) : x ∈ l ∨ x = a := List.mem_or_eq_of_mem_set h
/-- A place of a file is another one. -/
theorem FileAt.put {tag tag' : Nat → Tag} {w w' : World} {n : Nam} {f : Nat} {F : Fil} {g cap : Nat} {Q : Pls} (h : FileAt tag w n f F (.slice (some ⟨g, 0, none⟩) Q.length cap) Q) (i : Nat) (y : PQ × Plc)
    (hrow : w'.ownsRow 0 tPlace 3 (.slice (some ⟨g, 0, none⟩) Q.length cap) Q.length (Pls.cells (Q.set i y))) (hc : Chg (· = g) w w') (ht : ∀ k, k < w.heap.size → tag' k = tag k) (hy : PlcAt tag' w' y.1 y.2) :
    FileAt tag' w' n f ⟨F.ps.set i y.2, F.sure⟩ (.slice (some ⟨g, 0, none⟩) Q.length cap) (Q.set i y) := by
  have hf := lt_of_block h.blk
  have hg := (h.row.lt g rfl).2
  have hne : f ≠ g := fun e => by have h1 := h.tagb; rw [e, h.tagr g rfl] at h1; cases h1
  refine ⟨hc.at h.blk hne, (ht f hf).trans h.tagb, ?_, ?_, ?_, ?_, ?_⟩
  · rw [List.length_set]; exact hrow
  · intro k hk
    have e : g = k := by simpa [Value.ownBlock] using hk
    rw [ht k (by omega)]
    exact h.tagr k hk
  · intro x hx
    rcases mem_set hx with hx | rfl
    · exact (h.pls x hx).kept hc ht (by rintro k rfl e; rw [h.tagr k rfl] at e; cases e)
    · exact hy
  · rw [List.map_set, h.ps]
  · rw [List.length_set]; exact h.len

/-- The first k have been done. -/
def part {α : Type} (h : α → α) (Q : List α) (k : Nat) : List α := (Q.take k).map h ++ Q.drop k
theorem part_len {α : Type} (h : α → α) (Q : List α) (k : Nat) : (part h Q k).length = Q.length := by simp [part]; omega
theorem part_zero {α : Type} (h : α → α) (Q : List α) : part h Q 0 = Q := by simp [part]
theorem part_all {α : Type} (h : α → α) (Q : List α) : part h Q Q.length = Q.map h := by simp [part]
theorem part_get {α : Type} (h : α → α) (Q : List α) (k : Nat) (hk : k < Q.length) : (part h Q k)[k]'(by rw [part_len]; exact hk) = Q[k] := by
  have hl : ((Q.take k).map h).length = k := by simp; omega
  have : (part h Q k)[k]? = some Q[k] := by
    unfold part
    rw [List.getElem?_append_right (by omega), hl, Nat.sub_self, List.getElem?_drop, Nat.add_zero, List.getElem?_eq_getElem hk]
  rw [List.getElem?_eq_getElem (by rw [part_len]; exact hk)] at this
  exact Option.some.inj this
theorem part_set {α : Type} (h : α → α) (Q : List α) (k : Nat) (hk : k < Q.length) : (part h Q k).set k (h Q[k]) = part h Q (k + 1) := by
  have hl : ((Q.take k).map h).length = k := by simp; omega
  unfold part
  rw [List.set_append_right _ _ (by omega), hl, Nat.sub_self, List.take_succ_eq_append_getElem hk, List.map_append, List.append_assoc, List.drop_eq_getElem_cons hk]
  rfl

end Disk
end Go.Proofs.YtgmbiiocjhkpdaaGreat

/-
  Contracts of the project's files: a sector is written, what waits is safe, a cut.
-/
namespace Go.Proofs.YtgmbiiocjhkpdaaGreat
open Go.RowKit
namespace Disk
open Num (hid bcells)

/-- A call on a file: what it is behind the call. -/
def FileTurned (tag : Nat → Tag) (n : Nam) (f : Nat) (F' : Fil) (w w' : World) : Prop :=
  ∃ tag' v' Q', FileAt tag' w' n f F' v' Q' ∧ (∀ k, k < w.heap.size → tag' k = tag k) ∧ Chg (fun k => tag k = .file n ∨ tag k = .row n) w w'


/-- Behind the stores of 'write' at a place that is there. -/
theorem wrote_old (tag : Nat → Tag) (w : World) (n : Nam) (f : Nat) (F : Fil) (g cap : Nat) (Q : Pls) (h : FileAt tag w n f F (.slice (some ⟨g, 0, none⟩) Q.length cap) Q) (i : Nat) (hi : i < Q.length) (l : List UInt8) (hl : l.length = 256) :
    FileTurned tag n f (F.write i l) w (((w.setCell ⟨g, i * 3, none⟩ (ptr w.heap.size)).setCell ⟨g, i * 3 + 2, none⟩ (.bool true)).alloc (.cells (secCells (some (fitted l))) tSector)).drew := by
  have hf := lt_of_block h.blk
  have hg := (h.row.lt g rfl).2
  have hne : f ≠ g := fun e => by have h1 := h.tagb; rw [e, h.tagr g rfl] at h1; cases h1
  have r1 := (World.ownsRow.stored h.row (3 * i) (ptr w.heap.size)).1
  have r2 := (World.ownsRow.stored r1 (3 * i + 2) (.bool true)).1
  rw [Pls.cells_set Q i hi w.heap.size ⟨some l, Q[i].2.safe, true⟩] at r2
  have hc : Chg (· = g) w (((w.setCell ⟨g, i * 3, none⟩ (ptr w.heap.size)).setCell ⟨g, i * 3 + 2, none⟩ (.bool true)).alloc (.cells (secCells (some (fitted l))) tSector)).drew :=
    ((((Chg.refl _ _).root (i * 3) _).root (i * 3 + 2) _).alloc _).drew
  have ht : ∀ k, k < w.heap.size → upd tag w.heap.size .sec k = tag k := fun k hk => upd_ne _ _ (by omega)
  have hF : ∀ k, k = g → tag k ≠ .sec := by rintro k rfl e; rw [h.tagr k rfl] at e; cases e
  refine ⟨upd tag w.heap.size .sec, .slice (some ⟨g, 0, none⟩) Q.length cap, Q.set i (⟨w.heap.size, Q[i].1.safe, true⟩, ⟨some l, Q[i].2.safe, true⟩), ⟨?_, ?_, ?_, ?_, ?_, ?_, ?_⟩, ht, hc.mono (by rintro k _ rfl; exact Or.inr (h.tagr k rfl))⟩
  · have hs : (F.write i l).sure = F.sure := by unfold Fil.write; split <;> rfl
    rw [hs]
    exact hc.at h.blk hne
  · rw [ht f hf]; exact h.tagb
  · rw [Nat.mul_comm 3 i] at r2
    rw [List.length_set]
    exact World.ownsRow.alloc r2 _
  · intro k hk
    rw [ht k (by have e : g = k := by simpa [Value.ownBlock] using hk
                 omega)]
    exact h.tagr k hk
  · intro x hx
    rcases mem_set hx with hx | rfl
    · exact (h.pls x hx).kept hc ht hF
    · refine ⟨⟨upd_same _ _ _, hl, ?_⟩, ((h.pls Q[i] (List.getElem_mem hi)).safe).kept hc ht hF, rfl⟩
      have hw : ((w.setCell ⟨g, i * 3, none⟩ (ptr w.heap.size)).setCell ⟨g, i * 3 + 2, none⟩ (.bool true)).heap.size = w.heap.size := by rw [set_size, set_size]
      have := blk_new ((w.setCell ⟨g, i * 3, none⟩ (ptr w.heap.size)).setCell ⟨g, i * 3 + 2, none⟩ (.bool true)) (.cells (secCells (some (fitted l))) tSector)
      rw [hw, fitted_full l hl] at this
      rw [fitted_full l hl]
      exact this
  · have hps : F.ps.length = Q.length := by rw [h.ps, List.length_map]
    unfold Fil.write
    rw [if_neg (by omega), List.map_set]
    have e : F.ps[i]? = some Q[i].2 := by rw [h.ps, List.getElem?_map, List.getElem?_eq_getElem hi]; rfl
    simp only [e]
    rw [h.ps]
  · rw [List.length_set]; exact h.len

/-- What the walk of 'write' reads: the row's slice, two cells of the place; before the new sector, behind it, behind the first store. -/
structure WF (W : World) (f g i m cap : Nat) (x0 x2 : Value) (O : Obj) : Prop where
  fl : f < W.heap.size
  gl : g < W.heap.size
  c0 : W.cell? ⟨f, 0, none⟩ = some (.slice (some ⟨g, 0, none⟩) m cap)
  k0 : W.cell? ⟨g, i * 3, none⟩ = some x0
  z0 : W.frozen? ⟨g, i * 3, none⟩ = false
  A0 : (W.alloc O).cell? ⟨f, 0, none⟩ = some (.slice (some ⟨g, 0, none⟩) m cap)
  A1 : (W.alloc O).cell? ⟨g, i * 3, none⟩ = some x0
  A2 : (W.alloc O).frozen? ⟨g, i * 3, none⟩ = false
  B0 : ((W.setCell ⟨g, i * 3, none⟩ (ptr W.heap.size)).alloc O).drew.cell? ⟨f, 0, none⟩ = some (.slice (some ⟨g, 0, none⟩) m cap)
  B2 : ((W.setCell ⟨g, i * 3, none⟩ (ptr W.heap.size)).alloc O).drew.cell? ⟨g, i * 3 + 2, none⟩ = some x2
  B3 : ((W.setCell ⟨g, i * 3, none⟩ (ptr W.heap.size)).alloc O).drew.frozen? ⟨g, i * 3 + 2, none⟩ = false

theorem wf_any {W : World} {f g i m cap : Nat} {s : Bool} {xs : List Value} {x0 x2 : Value} (O : Obj) (hb : W.heap[f]? = some (.cells #[.slice (some ⟨g, 0, none⟩) m cap, .bool s] tFile (0, 0)))
    (hrow : W.ownsRow 0 tPlace 3 (.slice (some ⟨g, 0, none⟩) m cap) m xs) (hne : f ≠ g) (hi : i < m) (q0 : xs[3 * i]? = some x0) (q2 : xs[3 * i + 2]? = some x2) : WF W f g i m cap x0 x2 O := by
  have hf := lt_of_block hb
  have hg := (hrow.lt g rfl).2
  have c0 : W.cell? ⟨f, 0, none⟩ = some (.slice (some ⟨g, 0, none⟩) m cap) := blk_cell hb 0
  have k0 := (World.ownsRow.cellAt hrow (3 * i) (by omega)).trans q0
  have z0 := World.ownsRow.frozenAt hrow (3 * i)
  have r1 := (World.ownsRow.stored hrow (3 * i) (ptr W.heap.size)).1
  rw [Nat.mul_comm 3 i] at k0 z0 r1
  refine ⟨hf, hg, c0, k0, z0, (alloc_cell hf _).trans c0, (alloc_cell hg _).trans k0, (alloc_frozen hg _).trans z0, (alloc_cell (by rw [set_size]; exact hf) _).trans ((set_cell_other hne _).trans c0), ?_, (alloc_frozen (by rw [set_size]; exact hg) _).trans (World.ownsRow.frozenAt r1 _)⟩
  refine (alloc_cell (by rw [set_size]; exact hg) _).trans ?_
  rw [World.ownsRow.cellAt r1 (i * 3 + 2) (by omega), List.getElem?_set_ne (by omega), Nat.mul_comm i 3]
  exact q2

set_option maxRecDepth 100000 in
theorem fwrite_old (tag : Nat → Tag) (w : World) (n : Nam) (f : Nat) (F : Fil) (v : Value) (Q : Pls) (h : FileAt tag w n f F v Q) (i : Nat) (hi : i < Q.length) (s : ByteArray) (hs : s.size = 256) :
    Calls Tryz.prog 95 #[ptr f, .int .i64 i, .string s] w fun e w' => e = .returned (.tuple #[]) ∧ FileTurned tag n f (F.write i s.data.toList) w w' := by
  obtain ⟨g, cap, hv, hle, hcap, hg⟩ := row_some h.row (by omega)
  subst hv
  have hlen := h.len
  have hne : f ≠ g := fun e => by have h1 := h.tagb; rw [e, h.tagr g rfl] at h1; cases h1
  obtain ⟨q0, q1, q2⟩ := Pls.cells_at Q i hi
  obtain ⟨hf, -, c0, k0, z0, A0, A1, A2, B0, B2, B3⟩ := wf_any (.cells (secCells (some (fitted s.data.toList))) tSector) h.blk h.row hne hi q0 q2
  have HH := hid h
  have HS := hid hs
  clear hs h q0 q1 q2
  go_enter Tryz.func95, Tryz.ntmps95
  go_wp2
  go_region_with ((go_at_call 118; refine (newSector_any s _).mono ?_; rintro e w' ⟨rfl, rfl⟩))
  all_goals
    go_wp2
    go_end0
    exact ⟨rfl, wrote_old tag w n f F g cap Q HH.out i hi s.data.toList HS.out⟩

/-- Behind the stores of 'write' at a new place. -/
theorem wrote_new (tag : Nat → Tag) (w w1 : World) (n : Nam) (f : Nat) (F : Fil) (v : Value) (Q : Pls) (h : FileAt tag w n f F v Q) (hQ : Q.length < 16384) (g cap : Nat)
    (hrow : w1.ownsRow 0 tPlace 3 (.slice (some ⟨g, 0, none⟩) (Q.length + 1) cap) (Q.length + 1) (Pls.cells Q ++ [.pointer none, .pointer none, .bool false]))
    (hgr : w.grownBy w1 v.ownBlock) (hg : v.ownBlock = some g ∨ w.heap.size ≤ g) (l : List UInt8) (hl : l.length = 256) :
    FileTurned tag n f (F.write Q.length l) w ((((w1.setCell ⟨f, 0, none⟩ (.slice (some ⟨g, 0, none⟩) (Q.length + 1) cap)).setCell ⟨g, Q.length * 3, none⟩ (ptr w1.heap.size)).setCell ⟨g, Q.length * 3 + 2, none⟩ (.bool true)).alloc (.cells (secCells (some (fitted l))) tSector)).drew := by
  have hf := lt_of_block h.blk
  have hg1 : g < w1.heap.size := (hrow.lt g rfl).2
  have hne : f ≠ g := fun e => by
    rcases hg with hg | hg
    · have h1 := h.tagb; rw [e, h.tagr g hg] at h1; cases h1
    · omega
  have hvf : v.ownBlock ≠ some f := fun e => by have h1 := h.tagb; rw [h.tagr f e] at h1; cases h1
  have hsz := hgr.size
  have b1 : w1.heap[f]? = some (.cells #[v, .bool F.sure] tFile (0, 0)) := (hgr.block f hf (fun e => hvf e.symm)).trans h.blk
  have b2 := blk_set b1 0 (.slice (some ⟨g, 0, none⟩) (Q.length + 1) cap)
  have r0 := ownsRow_setCell_other hrow (a := ⟨f, 0, none⟩) (by simpa [Value.ownBlock] using fun e => hne e.symm) (.slice (some ⟨g, 0, none⟩) (Q.length + 1) cap)
  have r1 := (World.ownsRow.stored r0 (3 * Q.length) (ptr w1.heap.size)).1
  have r2 := (World.ownsRow.stored r1 (3 * Q.length + 2) (.bool true)).1
  have hset : ((Pls.cells Q ++ ([.pointer none, .pointer none, .bool false] : List Value)).set (3 * Q.length) (ptr w1.heap.size)).set (3 * Q.length + 2) (.bool true) = Pls.cells (Q ++ [(⟨w1.heap.size, none, true⟩, ⟨some l, none, true⟩)]) := by
    have hlen := Pls.cells_len Q
    rw [Pls.cells_append, List.set_append_right _ _ (by omega), List.set_append_right _ _ (by omega), hlen]
    have e1 : 3 * Q.length - 3 * Q.length = 0 := by omega
    have e2 : 3 * Q.length + 2 - 3 * Q.length = 2 := by omega
    rw [e1, e2]
    rfl
  rw [hset] at r2
  have hF0 : ∀ k, v.ownBlock = some k → tag k = .row n := h.tagr
  have hc0 : Chg (fun k => tag k = .file n ∨ tag k = .row n) w w1 := (Chg.refl _ w).grown hgr (fun k hk => Or.inr (Or.inr (hF0 k hk)))
  have hgF : w.heap.size ≤ g ∨ (tag g = .file n ∨ tag g = .row n) := by
    rcases hg with hg | hg
    · exact Or.inr (Or.inr (hF0 g hg))
    · exact Or.inl hg
  have hc : Chg (fun k => tag k = .file n ∨ tag k = .row n) w ((((w1.setCell ⟨f, 0, none⟩ (.slice (some ⟨g, 0, none⟩) (Q.length + 1) cap)).setCell ⟨g, Q.length * 3, none⟩ (ptr w1.heap.size)).setCell ⟨g, Q.length * 3 + 2, none⟩ (.bool true)).alloc (.cells (secCells (some (fitted l))) tSector)).drew :=
    ((((hc0.setCell (p := ⟨f, 0, none⟩) (Or.inr (Or.inl h.tagb)) _).setCell (p := ⟨g, Q.length * 3, none⟩) hgF _).setCell (p := ⟨g, Q.length * 3 + 2, none⟩) hgF _).alloc _).drew
  have hgB : g ≠ w1.heap.size := by omega
  have ht : ∀ k, k < w.heap.size → upd (upd tag g (.row n)) w1.heap.size .sec k = tag k := fun k hk => by
    rw [upd_ne _ _ (by omega)]
    by_cases e : k = g
    · subst e
      rw [upd_same]
      rcases hg with hg | hg
      · exact (hF0 k hg).symm
      · omega
    · exact upd_ne _ _ e
  have hF : ∀ k, (tag k = .file n ∨ tag k = .row n) → tag k ≠ .sec := by
    rintro k (e | e) e' <;> rw [e] at e' <;> cases e'
  refine ⟨upd (upd tag g (.row n)) w1.heap.size .sec, .slice (some ⟨g, 0, none⟩) (Q.length + 1) cap, Q ++ [(⟨w1.heap.size, none, true⟩, ⟨some l, none, true⟩)], ⟨?_, ?_, ?_, ?_, ?_, ?_, ?_⟩, ht, hc⟩
  · have hs : (F.write Q.length l).sure = F.sure := by unfold Fil.write; split <;> rfl
    rw [hs]
    exact blk_alloc (blk_other (blk_other b2 hne _) hne _) _
  · rw [ht f hf]; exact h.tagb
  · rw [List.length_append]
    rw [Nat.mul_comm 3 Q.length] at r2
    exact World.ownsRow.alloc r2 _
  · intro k hk
    have e : g = k := by simpa [Value.ownBlock] using hk
    rw [← e, upd_ne _ _ hgB, upd_same]
  · intro x hx
    rcases List.mem_append.1 hx with hx | hx
    · exact (h.pls x hx).kept hc ht hF
    · rw [List.mem_singleton.1 hx]
      refine ⟨⟨upd_same _ _ _, hl, ?_⟩, trivial, rfl⟩
      have hw : (((w1.setCell ⟨f, 0, none⟩ (.slice (some ⟨g, 0, none⟩) (Q.length + 1) cap)).setCell ⟨g, Q.length * 3, none⟩ (ptr w1.heap.size)).setCell ⟨g, Q.length * 3 + 2, none⟩ (.bool true)).heap.size = w1.heap.size := by rw [set_size, set_size, set_size]
      have := blk_new (((w1.setCell ⟨f, 0, none⟩ (.slice (some ⟨g, 0, none⟩) (Q.length + 1) cap)).setCell ⟨g, Q.length * 3, none⟩ (ptr w1.heap.size)).setCell ⟨g, Q.length * 3 + 2, none⟩ (.bool true)) (.cells (secCells (some (fitted l))) tSector)
      rw [hw, fitted_full l hl] at this
      rw [fitted_full l hl]
      exact this
  · have hps : F.ps.length = Q.length := by rw [h.ps, List.length_map]
    unfold Fil.write
    rw [if_pos (by omega), List.map_append, h.ps]
    rfl
  · rw [List.length_append]; show Q.length + 1 ≤ 16384; omega

theorem grown_alloc {w w1 : World} {o : Obj} {r : Option Nat} (h : (w.alloc o).grownBy w1 r) : w.grownBy w1 r :=
  ⟨h.os, h.tape, h.output, by have := h.size; simp at this; omega, fun i hi hne => (h.block i (by simp; omega) hne).trans (Below.heap_alloc w o i hi)⟩

set_option maxRecDepth 100000 in
set_option maxHeartbeats 1000000 in
theorem fwrite_new (tag : Nat → Tag) (w : World) (n : Nam) (f : Nat) (F : Fil) (v : Value) (Q : Pls) (h : FileAt tag w n f F v Q) (hQ : Q.length < 16384) (s : ByteArray) (hs : s.size = 256) :
    Calls Tryz.prog 95 #[ptr f, .int .i64 Q.length, .string s] w fun e w' => e = .returned (.tuple #[]) ∧ FileTurned tag n f (F.write Q.length s.data.toList) w w' := by
  have c0 : w.cell? ⟨f, 0, none⟩ = some v := blk_cell h.blk 0
  have hf := lt_of_block h.blk
  have a0 := (alloc_cell (i := 0) hf (.cells #[.pointer none, .pointer none, .bool false] tPlace)).trans c0
  obtain ⟨v', w1, hrun, hrow, hgr0, hwho⟩ := append_place (h.row.alloc (.cells #[.pointer none, .pointer none, .bool false] tPlace)) (blk_new w (.cells #[.pointer none, .pointer none, .bool false] tPlace)) rfl rfl rfl (by omega)
  obtain ⟨g, cap, hv', hle, hcap, hg⟩ := row_some hrow (by omega)
  subst hv'
  have hgr := grown_alloc hgr0
  have hgw : v.ownBlock = some g ∨ w.heap.size ≤ g := (hwho g rfl).imp_right fun e => by simp at e; omega
  have hvf : v.ownBlock ≠ some f := fun e => by have h1 := h.tagb; rw [h.tagr f e] at h1; cases h1
  have b1 : w1.heap[f]? = some (.cells #[v, .bool F.sure] tFile (0, 0)) := (hgr.block f hf (fun e => hvf e.symm)).trans h.blk
  have d0 : w1.cell? ⟨f, 0, none⟩ = some v := blk_cell b1 0
  have y0 : w1.frozen? ⟨f, 0, none⟩ = false := blk_free b1 0
  have hne : f ≠ g := fun e => by
    rcases hgw with hg | hg
    · have h1 := h.tagb; rw [e, h.tagr g hg] at h1; cases h1
    · omega
  have b2 := blk_set b1 0 (.slice (some ⟨g, 0, none⟩) (Q.length + 1) cap)
  have r0 := ownsRow_setCell_other hrow (a := ⟨f, 0, none⟩) (by simpa [Value.ownBlock] using fun e => hne e.symm) (.slice (some ⟨g, 0, none⟩) (Q.length + 1) cap)
  have hcl := Pls.cells_len Q
  have wf := wf_any (i := Q.length) (x0 := .pointer none) (x2 := .bool false) (.cells (secCells (some (fitted s.data.toList))) tSector) b2 r0 hne (by omega) (by rw [List.getElem?_append_right (by omega), hcl, Nat.sub_self]; rfl) (by
    rw [List.getElem?_append_right (by omega), hcl, show 3 * Q.length + 2 - 3 * Q.length = 2 by omega]; rfl)
  have hws : (w1.setCell ⟨f, 0, none⟩ (.slice (some ⟨g, 0, none⟩) (Q.length + 1) cap)).heap.size = w1.heap.size := set_size _ _ _
  have HQ := hid hQ
  have HR := hid hrow
  have HG := hid hgr
  have HW := hid hgw
  have HWS := hid hws
  have HC := hid hcl
  have hq : Q.length ≤ 16384 := by omega
  have HV := h.row.2
  have HH := hid h
  have HS := hid hs
  clear hs h hQ hrow hgr0 hwho hgr hgw hvf b1 b2 r0 hws hcl
  rcases HV with ⟨hv, hn⟩ | ⟨g0, cap0, cur0, hv, _, _, hn0, hm0, -, -⟩
  · subst hv
    have hq0 : ((Q.length : Int) == 0) = true := by simp [hn]
    clear hn
    go_enter Tryz.func95, Tryz.ntmps95
    go_wp2_with (first | (at_builtin; refine wpList_append_run rfl _ _ _ _ rfl _ _ rfl rfl hrun ?_) | go_in)
    generalize hW : w1.setCell ⟨f, 0, none⟩ (.slice (some ⟨g, 0, none⟩) (Q.length + 1) cap) = W at wf
    have HW2 := hid hW
    clear hW hrun
    obtain ⟨hfW, hgW, e0, k0, x0, A0, A1, A2, B0, B2, B3⟩ := wf
    go_region_with ((go_at_call 118; refine (newSector_any s _).mono ?_; rintro e w' ⟨rfl, rfl⟩))
    all_goals
      go_wp2
      go_end0
      obtain rfl := HW2.out
      refine ⟨rfl, ?_⟩
      have := wrote_new tag w w1 n f F _ Q HH.out HQ.out g cap HR.out HG.out HW.out s.data.toList HS.out
      rw [← HWS.out] at this
      exact this
  · subst hv
    go_enter Tryz.func95, Tryz.ntmps95
    go_wp2_with (first | (at_builtin; refine wpList_append_run rfl _ _ _ _ rfl _ _ rfl rfl hrun ?_) | go_in)
    generalize hW : w1.setCell ⟨f, 0, none⟩ (.slice (some ⟨g, 0, none⟩) (Q.length + 1) cap) = W at wf
    have HW2 := hid hW
    clear hW hrun
    obtain ⟨hfW, hgW, e0, k0, x0, A0, A1, A2, B0, B2, B3⟩ := wf
    go_region_with ((go_at_call 118; refine (newSector_any s _).mono ?_; rintro e w' ⟨rfl, rfl⟩))
    all_goals
      go_wp2
      go_end0
      obtain rfl := HW2.out
      refine ⟨rfl, ?_⟩
      have := wrote_new tag w w1 n f F _ Q HH.out HQ.out g cap HR.out HG.out HW.out s.data.toList HS.out
      rw [← HWS.out] at this
      exact this

end Disk
end Go.Proofs.YtgmbiiocjhkpdaaGreat

/-
  Contracts of the project's files: what waits is safe.
-/
namespace Go.Proofs.YtgmbiiocjhkpdaaGreat
open Go.RowKit
namespace Disk
open Num (hid bcells)

set_option maxRecDepth 100000 in
theorem holds_any (g o b : Nat) (x y z : Value) (w : World) (c0 : w.cell? ⟨g, o, none⟩ = some x) (c1 : w.cell? ⟨g, o + 1, none⟩ = some y) (c2 : w.cell? ⟨g, o + 2, none⟩ = some z)
    (z0 : w.frozen? ⟨g, o, none⟩ = false) (z1 : w.frozen? ⟨g, o + 1, none⟩ = false) (z2 : w.frozen? ⟨g, o + 2, none⟩ = false) :
    Calls Tryz.prog 113 #[.pointer (some ⟨g, o, none⟩), ptr b] w fun e w' => e = .returned (.tuple #[]) ∧ w' = ((w.setCell ⟨g, o, none⟩ (ptr b)).setCell ⟨g, o + 1, none⟩ (ptr b)).setCell ⟨g, o + 2, none⟩ (.bool false) := by
  go_enter Tryz.func113, Tryz.ntmps113
  go_wp2
  go_end0
  exact ⟨rfl, rfl⟩

def syn (x : PQ × Plc) : PQ × Plc := (⟨x.1.now, some x.1.now, false⟩, ⟨x.2.now, some x.2.now, false⟩)
/-- The cells of a place. -/
theorem place_cells {w : World} {g m cap : Nat} {Q : Pls} (h : w.ownsRow 0 tPlace 3 (.slice (some ⟨g, 0, none⟩) m cap) m Q.cells) (i : Nat) (hi : i < Q.length) (hm : m = Q.length) :
    w.cell? ⟨g, i * 3, none⟩ = some (ptr Q[i].1.now) ∧ w.cell? ⟨g, i * 3 + 1, none⟩ = some (ptrO Q[i].1.safe) ∧ w.cell? ⟨g, i * 3 + 2, none⟩ = some (.bool Q[i].1.waits) ∧
    w.frozen? ⟨g, i * 3, none⟩ = false ∧ w.frozen? ⟨g, i * 3 + 1, none⟩ = false ∧ w.frozen? ⟨g, i * 3 + 2, none⟩ = false := by
  subst hm
  obtain ⟨q0, q1, q2⟩ := Pls.cells_at Q i hi
  rw [Nat.mul_comm 3 i] at q0 q1 q2
  exact ⟨(World.ownsRow.cellAt h _ (by omega)).trans q0, (World.ownsRow.cellAt h _ (by omega)).trans q1, (World.ownsRow.cellAt h _ (by omega)).trans q2, World.ownsRow.frozenAt h _, World.ownsRow.frozenAt h _, World.ownsRow.frozenAt h _⟩
/-- 'holds' at a place of a file. -/
theorem FileAt.held {tag : Nat → Tag} {w w' : World} {n : Nam} {f : Nat} {F : Fil} {g cap : Nat} {Q : Pls} (h : FileAt tag w n f F (.slice (some ⟨g, 0, none⟩) Q.length cap) Q) (i : Nat) (hi : i < Q.length) (b : Nat) (s : Sec)
    (hs : SecAt tag w b s) (hw : w' = ((w.setCell ⟨g, i * 3, none⟩ (ptr b)).setCell ⟨g, i * 3 + 1, none⟩ (ptr b)).setCell ⟨g, i * 3 + 2, none⟩ (.bool false)) :
    FileAt tag w' n f ⟨F.ps.set i ⟨s, some s, false⟩, F.sure⟩ (.slice (some ⟨g, 0, none⟩) Q.length cap) (Q.set i (⟨b, some b, false⟩, ⟨s, some s, false⟩)) ∧ Chg (· = g) w w' := by
  subst hw
  have hc : Chg (· = g) w (((w.setCell ⟨g, i * 3, none⟩ (ptr b)).setCell ⟨g, i * 3 + 1, none⟩ (ptr b)).setCell ⟨g, i * 3 + 2, none⟩ (.bool false)) := (((Chg.refl _ _).root (i * 3) _).root (i * 3 + 1) _).root (i * 3 + 2) _
  refine ⟨h.put i (⟨b, some b, false⟩, ⟨s, some s, false⟩) ?_ hc (fun _ _ => rfl) ?_, hc⟩
  · have r1 := (World.ownsRow.stored h.row (i * 3) (ptr b)).1
    have r2 := (World.ownsRow.stored r1 (i * 3 + 1) (ptr b)).1
    have r3 := (World.ownsRow.stored r2 (i * 3 + 2) (.bool false)).1
    have e := Pls.cells_set3 Q i hi (⟨b, some b, false⟩, ⟨s, some s, false⟩)
    rw [Nat.mul_comm 3 i] at e
    rw [← e]
    exact r3
  · have hF : ∀ k, k = g → tag k ≠ .sec := by rintro k rfl e; rw [h.tagr k rfl] at e; cases e
    exact ⟨hs.kept hc (fun _ _ => rfl) hF, hs.kept hc (fun _ _ => rfl) hF, rfl⟩

def SyncAt (tag : Nat → Tag) (n : Nam) (f g cap : Nat) (s : Bool) (Q : Pls) (k : Nat) (w0 w : World) : Prop :=
  FileAt tag w n f ⟨(part syn Q k).map (·.2), s⟩ (.slice (some ⟨g, 0, none⟩) Q.length cap) (part syn Q k) ∧ Chg (· = g) w0 w

theorem FileAt.drew {tag : Nat → Tag} {w : World} {n : Nam} {f : Nat} {F : Fil} {v : Value} {Q : Pls} (h : FileAt tag w n f F v Q) : FileAt tag w.drew n f F v Q :=
  h.kept ((Chg.refl (fun _ => False) w).drew) (fun _ _ => rfl) (fun _ h => h.elim)
theorem SyncAt.drew {tag : Nat → Tag} {n : Nam} {f g cap : Nat} {s : Bool} {Q : Pls} {k : Nat} {w0 w : World} (h : SyncAt tag n f g cap s Q k w0 w) : SyncAt tag n f g cap s Q k w0 w.drew := ⟨h.1.drew, h.2.drew⟩

theorem SyncAt.step {tag : Nat → Tag} {n : Nam} {f g cap : Nat} {s : Bool} {Q : Pls} {k : Nat} {w0 w w' : World} (h : SyncAt tag n f g cap s Q k w0 w) (hk : k < Q.length)
    (hw : w' = ((w.setCell ⟨g, k * 3, none⟩ (ptr Q[k].1.now)).setCell ⟨g, k * 3 + 1, none⟩ (ptr Q[k].1.now)).setCell ⟨g, k * 3 + 2, none⟩ (.bool false)) : SyncAt tag n f g cap s Q (k + 1) w0 w' := by
  obtain ⟨h1, h2⟩ := h
  have hl : (part syn Q k).length = Q.length := part_len _ _ _
  have hk' : k < (part syn Q k).length := by omega
  have h1' : FileAt tag w n f ⟨(part syn Q k).map (·.2), s⟩ (.slice (some ⟨g, 0, none⟩) (part syn Q k).length cap) (part syn Q k) := by rw [hl]; exact h1
  have hp := h1.pls Q[k] (by have := List.getElem_mem hk'; rw [part_get syn Q k hk] at this; exact this)
  obtain ⟨h3, h4⟩ := h1'.held k hk' Q[k].1.now Q[k].2.now hp.now hw
  rw [hl] at h3
  have e : (part syn Q k).set k (⟨Q[k].1.now, some Q[k].1.now, false⟩, ⟨Q[k].2.now, some Q[k].2.now, false⟩) = part syn Q (k + 1) := part_set syn Q k hk
  rw [e] at h3
  refine ⟨?_, h2.trans h4⟩
  rw [← e, List.map_set]
  rw [← e] at h3
  exact h3

/-- The file is sure. -/
theorem FileAt.sured {tag : Nat → Tag} {w : World} {n : Nam} {f : Nat} {F : Fil} {v : Value} {Q : Pls} (h : FileAt tag w n f F v Q) : FileAt tag (w.setCell ⟨f, 1, none⟩ (.bool true)) n f ⟨F.ps, true⟩ v Q := by
  have hc : Chg (· = f) w (w.setCell ⟨f, 1, none⟩ (.bool true)) := (Chg.refl _ _).root 1 _
  refine ⟨blk_set h.blk 1 _, h.tagb, row_kept h.row hc ?_, h.tagr, fun x hx => (h.pls x hx).kept hc (fun _ _ => rfl) ?_, h.ps, h.len⟩
  · rintro g hg rfl
    have := h.tagr _ hg
    rw [h.tagb] at this; cases this
  · rintro k rfl e
    rw [h.tagb] at e; cases e
/-- Behind 'sure', what was turned before it. -/
theorem FileTurned.of {tag tag' : Nat → Tag} {w w1 : World} {n : Nam} {f : Nat} {F' : Fil} {v : Value} {Q : Pls} (h : FileAt tag' w1 n f F' v Q) (hc : Chg (fun k => tag k = .file n ∨ tag k = .row n) w w1) (ht : ∀ k, k < w.heap.size → tag' k = tag k) (htf : tag f = .file n) :
    FileTurned tag n f ⟨F'.ps, true⟩ w (w1.setCell ⟨f, 1, none⟩ (.bool true)) :=
  ⟨tag', v, Q, h.sured, ht, hc.setCell (p := ⟨f, 1, none⟩) (Or.inr (Or.inl htf)) _⟩

theorem SyncAt.start {tag : Nat → Tag} {n : Nam} {f g cap : Nat} {F : Fil} {Q : Pls} {w : World} (h : FileAt tag w n f F (.slice (some ⟨g, 0, none⟩) Q.length cap) Q) : SyncAt tag n f g cap F.sure Q 0 w w := by
  have e : (⟨(part syn Q 0).map (·.2), F.sure⟩ : Fil) = F := by rw [part_zero, ← h.ps]
  refine ⟨?_, Chg.refl _ _⟩
  rw [e, part_zero]
  exact h
theorem SyncAt.done {tag : Nat → Tag} {n : Nam} {f g cap : Nat} {F : Fil} {Q : Pls} {w w1 : World} (h0 : FileAt tag w n f F (.slice (some ⟨g, 0, none⟩) Q.length cap) Q) (h : SyncAt tag n f g cap F.sure Q Q.length w w1) :
    FileTurned tag n f F.sync w (w1.setCell ⟨f, 1, none⟩ (.bool true)) := by
  have := FileTurned.of h.1 (h.2.mono (by rintro k _ rfl; exact Or.inr (h0.tagr k rfl))) (fun _ _ => rfl) h0.tagb
  have e : (part syn Q Q.length).map (·.2) = F.ps.map fun p => (⟨p.now, some p.now, false⟩ : Plc) := by rw [part_all, h0.ps, List.map_map, List.map_map]; rfl
  rw [e] at this
  exact this

set_option maxRecDepth 100000 in
theorem fsync_any (tag : Nat → Tag) (w : World) (n : Nam) (f : Nat) (F : Fil) (v : Value) (Q : Pls) (h : FileAt tag w n f F v Q) :
    Calls Tryz.prog 104 #[ptr f] w fun e w' => e = .returned (.tuple #[]) ∧ FileTurned tag n f F.sync w w' := by
  have c0 : w.cell? ⟨f, 0, none⟩ = some v := blk_cell h.blk 0
  have c1 : w.cell? ⟨f, 1, none⟩ = some (.bool F.sure) := blk_cell h.blk 1
  have z1 : w.frozen? ⟨f, 1, none⟩ = false := blk_free h.blk 1
  have hlen := h.len
  rcases h.row.2 with ⟨hv, hn⟩ | ⟨g, cap, cur0, hv, _, _, hn0, hm0, -, -⟩
  · subst hv
    obtain rfl : Q = [] := List.eq_nil_of_length_eq_zero hn
    have HH := hid h
    clear h hn
    go_enter Tryz.func104, Tryz.ntmps104
    go_wp2
    go_loopw [8] (fun i wr => i = .int .i64 0 ∧ wr = w) (fun _ _ => 0)
    case atStart => exact ⟨rfl, rfl⟩
    case round =>
      obtain ⟨rfl, rfl⟩ := hrel
      go_wp2
      go_end0
      have h := HH.out
      have e : F.sync = ⟨F.ps, true⟩ := by unfold Fil.sync; rw [h.ps]; rfl
      rw [e]
      exact ⟨rfl, FileTurned.of h (Chg.refl _ _) (fun _ _ => rfl) h.tagb⟩
  · subst hv
    have HH := hid h
    clear h
    go_enter Tryz.func104, Tryz.ntmps104
    go_wp2
    go_loopw [8] (fun i wr => ∃ k : Nat, k ≤ Q.length ∧ i = .int .i64 k ∧ SyncAt tag n f g cap F.sure Q k w wr) (fun i _ => Q.length - (intOf i).toNat)
    case atStart => exact ⟨0, Nat.zero_le _, rfl, SyncAt.start HH.out⟩
    case round =>
      obtain ⟨k, hk, rfl, hsa⟩ := hrel
      have d0 : wr.cell? ⟨f, 0, none⟩ = some _ := blk_cell hsa.1.blk 0
      have d1 : wr.cell? ⟨f, 1, none⟩ = some _ := blk_cell hsa.1.blk 1
      have y1 : wr.frozen? ⟨f, 1, none⟩ = false := blk_free hsa.1.blk 1
      by_cases hlt : k < Q.length
      · have hp := place_cells (i := k) (by have := hsa.1.row; rw [part_len] at this; exact this) (by rw [part_len]; exact hlt) (part_len _ _ _).symm
        rw [part_get syn Q k hlt] at hp
        obtain ⟨k0, k1, k2, x0, x1, x2⟩ := hp
        have HS := hid hsa
        clear hsa
        go_wp2
        go_region_with ((go_at_call 113; refine (holds_any g (k * 3) _ _ _ _ wr.drew k0 k1 k2 x0 x1 x2).mono ?_; rintro e w' ⟨rfl, rfl⟩))
        all_goals
          go_wp2
          go_roundw
          case rel => exact ⟨k + 1, by omega, by go_num, SyncAt.step HS.out.drew hlt rfl⟩
          case measure => simp [intOf]; omega
      · obtain rfl : k = Q.length := by omega
        have HS := hid hsa
        clear hsa
        go_wp2
        go_end0
        exact ⟨rfl, SyncAt.done HH.out HS.out⟩

end Disk
end Go.Proofs.YtgmbiiocjhkpdaaGreat

/-
  Contracts of the project's files: a cut.
-/
namespace Go.Proofs.YtgmbiiocjhkpdaaGreat
open Go.RowKit
namespace Disk
open Num (hid bcells)

theorem zeroPlaces_one {n : Nat} : ∀ v ∈ (Builtin.zeroCells #[.pointer none, .pointer none, .bool false] n).toList, v.oneCell' = true := by
  intro v hv
  have h0 : ∀ v ∈ (#[.pointer none, .pointer none, .bool false] : Array Value), v.oneCell' = true := by
    intro v hv; simp at hv; rcases hv with rfl | rfl <;> rfl
  unfold Builtin.zeroCells at hv
  obtain ⟨k, hk, rfl⟩ := List.mem_iff_getElem.1 hv
  simp
  have : k % 3 = 0 ∨ k % 3 = 1 ∨ k % 3 = 2 := by omega
  rcases this with e | e | e <;> simp [e] <;> rfl
/-- 'clear' of a part of a row of places. -/
theorem run_clear_places {w : World} {g o n c : Nat} {cur : Array Value} {t : TypeId} (ty : TypeId) (hg : w.heap[g]? = some (.cells cur t (0, 0))) (hn : 0 < n) (hfit : o + n * 3 ≤ cur.size) :
    (Builtin.clear_ #[tPlaces] ty #[.slice (some ⟨g, o, none⟩) n c]).run Tryz.prog w =
      .ok (.tuple #[]) (w.setRow g (cur.toList.take o ++ (Builtin.zeroCells #[.pointer none, .pointer none, .bool false] n).toList ++ cur.toList.drop (o + n * 3)).toArray) := by
  have hz : (Builtin.zeroCells #[.pointer none, .pointer none, .bool false] n).toList.length = n * 3 := by
    rw [Array.length_toList, size_zeroCells]; rfl
  have hst := run_storeCells_at Tryz.prog g o t (Builtin.zeroCells #[.pointer none, .pointer none, .bool false] n).toList 0 cur w hg (by rw [hz]; omega) zeroPlaces_one
  rw [hz] at hst
  simp only [Nat.add_zero] at hst
  have e : (Value.agg #[Value.pointer none, Value.pointer none, Value.bool false]).cells = #[.pointer none, .pointer none, .bool false] := rfl
  obtain ⟨k, rfl⟩ : ∃ k, n = k + 1 := ⟨n - 1, by omega⟩
  simp [Builtin.clear_, run_underlying Tryz.underlying118]
  rw [e, hst]
  simp [Result.andThen]

theorem ownsRow_cut {w : World} {e : TypeId} {g len cap : Nat} {xs : List Value} (h : w.ownsRow 0 e 3 (.slice (some ⟨g, 0, none⟩) len cap) len xs) (i : Nat) (hi : i ≤ len) :
    w.ownsRow 0 e 3 (.slice (some ⟨g, 0, none⟩) i cap) i (xs.take (i * 3)) := by
  rcases h.2 with ⟨h1, _⟩ | ⟨g', cap', cur, hv, _, hb, h1, h2, h3, h4⟩
  · cases h1
  · simp only [Value.slice.injEq, Option.some.injEq, Addr.mk.injEq, and_true, true_and] at hv
    obtain ⟨rfl, rfl⟩ := hv
    refine ⟨by rw [List.length_take, h.1]; omega, Or.inr ⟨g, cap, cur, rfl, Nat.zero_le _, hb, by omega, h2, h3, ?_⟩⟩
    rw [← h4, List.take_take, Nat.min_eq_left (by omega)]

theorem delete_end {g len cap i : Nat} {xs : List Value} {w : World} (h : w.ownsRow 0 tPlace 3 (.slice (some ⟨g, 0, none⟩) len cap) len xs) (hi : i < len) :
    ∃ cur : Array Value, (∀ ty c, (Builtin.clear_ #[tPlaces] ty #[.slice (some ⟨g, i * 3, none⟩) (len - i) c]).run Tryz.prog w.drew = .ok (.tuple #[]) (w.drew.setRow g cur)) ∧
      (w.drew.setRow g cur).ownsRow 0 tPlace 3 (.slice (some ⟨g, 0, none⟩) i cap) i (xs.take (i * 3)) ∧ Chg (· = g) w (w.drew.setRow g cur) := by
  rcases h.2 with ⟨h1, _⟩ | ⟨g', cap', cur, hv, _, hb, h1, h2, h3, h4⟩
  · cases h1
  · simp only [Value.slice.injEq, Option.some.injEq, Addr.mk.injEq, and_true, true_and] at hv
    obtain ⟨rfl, rfl⟩ := hv
    have hlt := lt_of_block hb
    refine ⟨_, fun ty c => run_clear_places (w := w.drew) ty hb (by omega) (by rw [h3]; omega), ⟨by rw [List.length_take, h.1]; omega, Or.inr ⟨g, cap, _, rfl, Nat.zero_le _, setRow_heap w.drew g cur _ tPlace (0, 0) hb, by omega, h2, ?_, ?_⟩⟩,
      ⟨rfl, rfl, rfl, by simp, fun k hk hF => setRow_other w.drew g k _ hF⟩⟩
    · simp only [List.size_toArray, List.length_append, List.length_take, List.length_drop, Array.length_toList, size_zeroCells]
      show min (i * 3) cur.size + (len - i) * 3 + (cur.size - (i * 3 + (len - i) * 3)) = cap * 3
      omega
    · rw [List.append_assoc, List.take_append_of_le_length (by rw [List.length_take, Array.length_toList]; omega), List.take_take, Nat.min_self, ← h4, List.take_take, Nat.min_eq_left (by omega)]

set_option maxRecDepth 100000 in
theorem delete_some (g len cap i : Nat) (xs : List Value) (w : World) (h : w.ownsRow 0 tPlace 3 (.slice (some ⟨g, 0, none⟩) len cap) len xs) (hi : i < len) :
    Calls Tryz.prog 132 #[.slice (some ⟨g, 0, none⟩) len cap, .int .i64 i, .int .i64 len] w fun e w' =>
      e = .returned (.slice (some ⟨g, 0, none⟩) i cap) ∧ w'.ownsRow 0 tPlace 3 (.slice (some ⟨g, 0, none⟩) i cap) i (xs.take (i * 3)) ∧ Chg (· = g) w w' := by
  obtain ⟨g', cap', hv, hle, hcap, hg⟩ := row_some h (by omega)
  simp only [Value.slice.injEq, Option.some.injEq, Addr.mk.injEq, and_true, true_and] at hv
  obtain ⟨rfl, rfl⟩ := hv
  unfold maxLen at hcap
  obtain ⟨cur, hr0, hown, hchg⟩ := delete_end h hi
  have H := hid hown
  have HC := hid hchg
  clear h hown hchg
  by_cases hc : cap = len
  · subst hc
    have hr := hr0 0 (cap - i)
    have HR := hid hr0
    clear hr0
    go_enter Tryz.func132, Tryz.ntmps132
    go_wp2
    go_region
    all_goals
      go_wp2
      go_ret
      exact ⟨rfl, H.out, HC.out⟩
  · have hr := hr0 0 (cap - i)
    have HR := hid hr0
    clear hr0
    go_enter Tryz.func132, Tryz.ntmps132
    go_wp2
    go_region
    all_goals
      go_wp2
      go_ret
      exact ⟨rfl, H.out, HC.out⟩

set_option maxRecDepth 100000 in
theorem delete_none (w : World) :
    Calls Tryz.prog 132 #[.slice none 0 0, .int .i64 0, .int .i64 0] w fun e w' => e = .returned (.slice none 0 0) ∧ w = w' := by
  go_enter Tryz.func132, Tryz.ntmps132
  go_wp2
  go_ret
  exact ⟨rfl, rfl⟩
set_option maxRecDepth 100000 in
theorem delete_same (g len cap : Nat) (w : World) (h1 : len ≤ cap) :
    Calls Tryz.prog 132 #[.slice (some ⟨g, 0, none⟩) len cap, .int .i64 len, .int .i64 len] w fun e w' => e = .returned (.slice (some ⟨g, 0, none⟩) len cap) ∧ w = w' := by
  go_enter Tryz.func132, Tryz.ntmps132
  go_wp2
  go_ret
  exact ⟨rfl, rfl⟩

theorem Chg.file {tag : Nat → Tag} {n : Nam} {f : Nat} {a w : World} (h : Chg (fun k => tag k = .file n ∨ tag k = .row n) a w) (hf : tag f = .file n) (i : Nat) (u : Value) : Chg (fun k => tag k = .file n ∨ tag k = .row n) a (w.setCell ⟨f, i, none⟩ u) :=
  h.setCell (p := ⟨f, i, none⟩) (Or.inr (Or.inl hf)) u
theorem FileTurned.drew {tag : Nat → Tag} {n : Nam} {f : Nat} {F : Fil} {w w' : World} (h : FileTurned tag n f F w w') : FileTurned tag n f F w w'.drew := by
  obtain ⟨tag', v, Q, h1, h2, h3⟩ := h
  exact ⟨tag', v, Q, h1.drew, h2, h3.drew⟩
/-- The file's slice is another one. -/
theorem FileAt.sliced {tag : Nat → Tag} {w w1 : World} {n : Nam} {f : Nat} {F : Fil} {v v' : Value} {Q Q' : Pls} (h : FileAt tag w n f F v Q) (hc : Chg (fun k => tag k = .row n) w w1) (hr : w1.ownsRow 0 tPlace 3 v' Q'.length (Pls.cells Q'))
    (hv : ∀ g, v'.ownBlock = some g → tag g = .row n) (hQ : ∀ x ∈ Q', x ∈ Q) (hl : Q'.length ≤ 16384) :
    FileAt tag (w1.setCell ⟨f, 0, none⟩ v') n f ⟨Q'.map (·.2), F.sure⟩ v' Q' := by
  have hf : tag f ≠ .row n := fun e => by rw [h.tagb] at e; cases e
  have hb : w1.heap[f]? = some (.cells #[v, .bool F.sure] tFile (0, 0)) := hc.at h.blk hf
  have hc2 : Chg (fun k => tag k = .file n ∨ tag k = .row n) w (w1.setCell ⟨f, 0, none⟩ v') := Chg.file (hc.mono (fun _ _ e => Or.inr e)) h.tagb 0 _
  refine ⟨blk_set hb 0 v', h.tagb, ownsRow_setCell_other hr (fun e => hf (hv f e)) _, hv, fun x hx => (h.pls x (hQ x hx)).kept hc2 (fun _ _ => rfl) ?_, rfl, hl⟩
  rintro k (e | e) e' <;> rw [e] at e' <;> cases e'

theorem Pls.cells_take (Q : Pls) (i : Nat) (h : i < Q.length) : Q.cells.take (i * 3) = Pls.cells (Q.take i) := by
  rw [Pls.cells_at_drop Q i h, Nat.mul_comm, List.take_append_of_le_length (by rw [take_len Q i h]; omega), List.take_of_length_le (by rw [take_len Q i h]; omega)]

theorem cut_same {tag : Nat → Tag} {w : World} {n : Nam} {f : Nat} {F : Fil} {v : Value} {Q : Pls} (h : FileAt tag w n f F v Q) {i : Nat} (hi : i = Q.length) :
    FileTurned tag n f (F.cut i) w ((w.setCell ⟨f, 0, none⟩ v).setCell ⟨f, 1, none⟩ (.bool true)) := by
  subst hi
  have h2 := h.sliced (v' := v) (Q' := Q) (Chg.refl _ _) h.row h.tagr (fun x hx => hx) h.len
  have h3 := FileTurned.of h2 (Chg.file (Chg.refl _ _) h.tagb 0 _) (fun _ _ => rfl) h.tagb
  have e : F.cut Q.length = ⟨Q.map (·.2), true⟩ := by unfold Fil.cut; rw [h.ps, List.take_of_length_le (by simp)]
  rw [e]
  exact h3
theorem cut_end {tag : Nat → Tag} {w w1 : World} {n : Nam} {f : Nat} {F : Fil} {g cap : Nat} {Q : Pls} (h : FileAt tag w n f F (.slice (some ⟨g, 0, none⟩) Q.length cap) Q) {i : Nat} (hi : i < Q.length)
    (hr : w1.ownsRow 0 tPlace 3 (.slice (some ⟨g, 0, none⟩) i cap) i (Q.cells.take (i * 3))) (hc : Chg (· = g) w w1) :
    FileTurned tag n f (F.cut i) w ((w1.setCell ⟨f, 0, none⟩ (.slice (some ⟨g, 0, none⟩) i cap)).setCell ⟨f, 1, none⟩ (.bool true)) := by
  have hg := h.tagr g rfl
  have hc' : Chg (fun k => tag k = .row n) w w1 := hc.mono (by rintro k _ rfl; exact hg)
  have hl : (Q.take i).length = i := by rw [List.length_take]; omega
  have hlen := h.len
  rw [Pls.cells_take Q i hi] at hr
  have hv : ∀ k, (Value.slice (some ⟨g, 0, none⟩) i cap).ownBlock = some k → tag k = .row n := by
    intro k hk
    have e : g = k := by simpa [Value.ownBlock] using hk
    rw [← e]; exact hg
  have h2 := h.sliced (v' := .slice (some ⟨g, 0, none⟩) i cap) (Q' := Q.take i) hc' (by rw [hl]; exact hr) hv (fun x hx => List.mem_of_mem_take hx) (by omega)
  have h3 := FileTurned.of h2 (Chg.file (hc'.mono (fun _ _ e => Or.inr e)) h.tagb 0 _) (fun _ _ => rfl) h.tagb
  have e : F.cut i = ⟨(Q.take i).map (·.2), true⟩ := by unfold Fil.cut; rw [h.ps, List.map_take]
  rw [e]
  exact h3

set_option maxRecDepth 100000 in
set_option maxHeartbeats 1000000 in
theorem fcut_any (tag : Nat → Tag) (w : World) (n : Nam) (f : Nat) (F : Fil) (v : Value) (Q : Pls) (h : FileAt tag w n f F v Q) (i : Nat) (hi : i ≤ Q.length) :
    Calls Tryz.prog 108 #[ptr f, .int .i64 i] w fun e w' => e = .returned (.tuple #[]) ∧ FileTurned tag n f (F.cut i) w w' := by
  have c0 : w.cell? ⟨f, 0, none⟩ = some v := blk_cell h.blk 0
  have c1 : w.cell? ⟨f, 1, none⟩ = some (.bool F.sure) := blk_cell h.blk 1
  have z0 : w.frozen? ⟨f, 0, none⟩ = false := blk_free h.blk 0
  have z1 : w.frozen? ⟨f, 1, none⟩ = false := blk_free h.blk 1
  have hlen := h.len
  rcases h.row.2 with ⟨hv, hn⟩ | ⟨g, cap, cur0, hv, _, _, hn0, hm0, -, -⟩
  · subst hv
    obtain rfl : Q = [] := List.eq_nil_of_length_eq_zero hn
    obtain rfl : i = 0 := by simpa using hi
    have HH := hid h
    clear h hn
    go_enter Tryz.func108, Tryz.ntmps108
    go_wp2
    go_region_with ((go_at_call 132; refine (delete_none _).mono ?_; rintro e w' ⟨rfl, rfl⟩))
    all_goals
      go_wp2
      go_end0
      exact ⟨rfl, (cut_same HH.out rfl).drew⟩
  · subst hv
    by_cases hlt : i < Q.length
    · have hrow : w.drew.ownsRow 0 tPlace 3 (.slice (some ⟨g, 0, none⟩) Q.length cap) Q.length Q.cells := h.row
      have hf : f < w.drew.heap.size := lt_of_block h.blk
      have hne : ¬ f = g := fun e => by have h1 := h.tagb; rw [e, h.tagr g rfl] at h1; cases h1
      have HH := hid h
      clear h
      go_enter Tryz.func108, Tryz.ntmps108
      go_wp2
      go_region_with ((go_at_call 132; refine (delete_some g Q.length cap i _ w.drew hrow hlt).mono ?_; rintro e w' ⟨rfl, hr, hc⟩; have d0 := (hc.cell (i := 0) hf hne).trans c0; have d1 := (hc.cell (i := 1) hf hne).trans c1; have y0 := (hc.frozen (i := 0) hf hne).trans z0; have y1 := (hc.frozen (i := 1) hf hne).trans z1))
      all_goals
        have HR := hid hr
        have HC := hid hc
        clear hr hc
        go_wp2
        go_end0
        exact ⟨rfl, cut_end HH.out hlt HR.out (((Chg.refl _ w).drew).trans HC.out)⟩
    · obtain rfl : i = Q.length := by omega
      have HH := hid h
      clear h
      go_enter Tryz.func108, Tryz.ntmps108
      go_wp2
      go_region_with ((go_at_call 132; refine (delete_same g Q.length cap _ hn0).mono ?_; rintro e w' ⟨rfl, rfl⟩))
      all_goals
        go_wp2
        go_end0
        exact ⟨rfl, (cut_same HH.out rfl).drew⟩

end Disk
end Go.Proofs.YtgmbiiocjhkpdaaGreat

/-
  Contracts of the project's On: what becomes of a place; the fates.
-/
namespace Go.Proofs.YtgmbiiocjhkpdaaGreat
open Go.RowKit
namespace Disk
open Num (hid bcells)

/-- A slice of ints, as it is read. -/
def IntsAt (w : World) (v : Value) (l : List Int) : Prop :=
  (∃ ao cap, v = .slice ao 0 cap ∧ l = []) ∨ ∃ b o cap, v = .slice (some ⟨b, o, none⟩) l.length cap ∧ b < w.heap.size ∧ ∀ j (h : j < l.length), w.cell? ⟨b, o + j, none⟩ = some (.int .i64 l[j])
theorem IntsAt.kept {w w' : World} {v : Value} {l : List Int} {F : Nat → Prop} (h : IntsAt w v l) (hc : Chg F w w') (hF : ∀ b o n cap, v = .slice (some ⟨b, o, none⟩) n cap → n ≠ 0 → ¬ F b) : IntsAt w' v l := by
  rcases h with h | ⟨b, o, cap, hv, hb, hl⟩
  · exact Or.inl h
  · exact Or.inr ⟨b, o, cap, hv, Nat.lt_of_lt_of_le hb hc.size, fun j hj => (hc.cell hb (hF b o _ cap hv (by omega))).trans (hl j hj)⟩

abbrev tInts : TypeId := 35
abbrev tInt : TypeId := 3

/-- What the closure of 'On' has captured: the fates; how many were met. -/
structure Fates (w : World) (A B : Nat) (v : Value) (l : List Int) (k : Nat) : Prop where
  ha : w.heap[A]? = some (.cells #[v] tInts (0, 0))
  hb : ∃ k' : Nat, w.heap[B]? = some (.cells #[.int .i64 k'] tInt (0, 0)) ∧ (l.length ≠ 0 → k' = k)
  ints : IntsAt w v l
  ne : A ≠ B
  nb : ∀ b o n cap, v = .slice (some ⟨b, o, none⟩) n cap → n ≠ 0 → b ≠ B

theorem Fates.kept {w w' : World} {A B : Nat} {v : Value} {l : List Int} {k : Nat} {F : Nat → Prop} (h : Fates w A B v l k) (hc : Chg F w w') (hA : ¬ F A) (hB : ¬ F B) (hF : ∀ b o n cap, v = .slice (some ⟨b, o, none⟩) n cap → n ≠ 0 → ¬ F b) : Fates w' A B v l k := by
  obtain ⟨h1, ⟨k', h2, h3⟩, h4, h5, h6⟩ := h
  exact ⟨hc.at h1 hA, ⟨k', hc.at h2 hB, h3⟩, h4.kept hc hF, h5, h6⟩

set_option maxRecDepth 100000 in
theorem fate_any (A B : Nat) (v : Value) (l : List Int) (k : Nat) (w : World) (h : Fates w A B v l k) (hk : k ≤ 1000000000) (hl : l.length ≤ maxLen) :
    Calls Tryz.prog 73 #[ptr A, ptr B] w fun e w' => e = .returned (.int .i64 (fateAt l k)) ∧ Fates w' A B v l (k + 1) ∧ Chg (· = B) w w' := by
  obtain ⟨h1, ⟨k', h2, h3⟩, h4, h5, h6⟩ := h
  unfold maxLen at hl
  have cA := cell_of_one h1
  have cB := cell_of_one h2
  have fB := free_of_one h2
  by_cases hz : l.length = 0
  · obtain rfl : l = [] := List.eq_nil_of_length_eq_zero hz
    have hv : ∃ ao cap, v = .slice ao 0 cap := by
      rcases h4 with ⟨ao, cap, hv, _⟩ | ⟨b, o, cap, hv, _⟩
      · exact ⟨ao, cap, hv⟩
      · exact ⟨_, cap, hv⟩
    have H : Fates w A B v [] (k + 1) := ⟨h1, ⟨k', h2, fun h => absurd rfl h⟩, h4, h5, h6⟩
    have HH := hid H
    clear H h1 h2 h3 h4 h5 h6 hz
    obtain ⟨ao, cap, rfl⟩ := hv
    go_enter Tryz.func73, Tryz.ntmps73
    go_wp2
    go_ret
    exact ⟨rfl, HH.out, Chg.refl _ _⟩
  · obtain rfl : k' = k := h3 hz
    rcases h4 with ⟨_, _, _, h⟩ | ⟨b, o, cap, hv, hb, hj⟩
    · exact absurd (by rw [h]; rfl) hz
    · have hm : k' % l.length < l.length := Nat.mod_lt _ (by omega)
      have hbB : b ≠ B := h6 b o _ cap hv hz
      have hh := (hj _ hm)
      have hset : (w.setCell ⟨B, 0, none⟩ (.int .i64 (k' + 1 : Nat))).heap[B]? = some (.cells #[.int .i64 (k' + 1 : Nat)] tInt (0, 0)) := one_setCell h2
      have hc : ∀ q, Chg (· = B) w ((w.setCell ⟨B, 0, none⟩ (.int .i64 (k' + 1 : Nat))).drewN q) := fun q => ((Chg.refl _ w).root 0 _).drewN q
      have HF : ∀ q, Fates ((w.setCell ⟨B, 0, none⟩ (.int .i64 (k' + 1 : Nat))).drewN q) A B v l (k' + 1) := fun q =>
        ⟨(hc q).at h1 h5, ⟨k' + 1, hset, fun _ => rfl⟩, (IntsAt.kept (Or.inr ⟨b, o, cap, hv, hb, hj⟩) (hc q) h6), h5, h6⟩
      have HI := hid HF
      have e : fateAt l k' = l[k' % l.length] := by
        unfold fateAt
        rw [if_neg hz, List.getD_eq_getElem?_getD, List.getElem?_eq_getElem hm]; rfl
      have HE := hid e
      have HC := hid hc
      have i1 : ((k' : Int) + 1 - 1).tmod (l.length : Int) = ((k' % l.length : Nat) : Int) := by
        rw [show (k' : Int) + 1 - 1 = (k' : Int) by omega, Int.ofNat_tmod]
      subst hv
      clear h1 h2 h3 hj h6 HF hc e hset
      go_enter Tryz.func73, Tryz.ntmps73
      go_wp2
      go_quiet (fail)
      go_wp2
      go_ret
      exact ⟨ret_i HE.out.symm, HI.out _, HC.out _⟩

/-- A place's safe state behind its fate, in memory. -/
def Met (g o nb : Nat) (fate : Int) (w w' : World) : Prop :=
  (fate = 1 ∧ w' = w.setCell ⟨g, o + 1, none⟩ (ptr nb)) ∨ (fate = 2 ∧ w' = (w.setCell ⟨g, o + 1, none⟩ (ptr w.heap.size)).alloc (.cells (secCells none) tSector)) ∨ (fate ≠ 1 ∧ fate ≠ 2 ∧ w' = w)
theorem tornSector : (Tryz.zeroCells141).setIfInBounds 256 (.bool true) = secCells none := by kernel_rfl

set_option maxRecDepth 100000 in
theorem meet_any (g o nb : Nat) (y : Value) (fate : Int) (w : World) (hg : g < w.heap.size) (c0 : w.cell? ⟨g, o, none⟩ = some (ptr nb)) (c1 : w.cell? ⟨g, o + 1, none⟩ = some y) (z1 : w.frozen? ⟨g, o + 1, none⟩ = false) :
    Calls Tryz.prog 112 #[.pointer (some ⟨g, o, none⟩), .int .i64 fate] w fun e w' => e = .returned (.tuple #[]) ∧ Met g o nb fate w w' := by
  by_cases h1 : fate = 1
  · subst h1
    go_enter Tryz.func112, Tryz.ntmps112
    go_wp2
    go_end0
    exact ⟨rfl, Or.inl ⟨rfl, rfl⟩⟩
  · by_cases h2 : fate = 2
    · subst h2
      go_enter Tryz.func112, Tryz.ntmps112
      go_wp2
      go_end0
      exact ⟨rfl, Or.inr (Or.inl ⟨rfl, by rw [← tornSector]⟩)⟩
    · have H1 := hid h1
      have H2 := hid h2
      have b1 : (fate == 1) = false := by simp [h1]
      have b2 : (fate == 2) = false := by simp [h2]
      clear h1 h2
      go_enter Tryz.func112, Tryz.ntmps112
      go_wp2
      go_end0
      exact ⟨rfl, Or.inr (Or.inr ⟨H1.out, H2.out, rfl⟩)⟩

end Disk
end Go.Proofs.YtgmbiiocjhkpdaaGreat

/-
  Contracts of the project's On: a file wakes.
-/
namespace Go.Proofs.YtgmbiiocjhkpdaaGreat
open Go.RowKit
namespace Disk
open Num (hid bcells)

/-- A loop over a file's places: the first k are done. -/
structure Going (F : Nat → Prop) (tag0 : Nat → Tag) (n : Nam) (f : Nat) (v : Value) (s : Bool) (Q : Pls) (k : Nat) (P1 : List Plc) (w0 w : World) (tag' : Nat → Tag) (Q1 : Pls) : Prop where
  len : Q1.length = k
  ps : Q1.map (·.2) = P1
  file : FileAt tag' w n f ⟨P1 ++ (Q.drop k).map (·.2), s⟩ v (Q1 ++ Q.drop k)
  tags : ∀ i, i < w0.heap.size → tag' i = tag0 i
  chg : Chg F w0 w

theorem Going.start {F : Nat → Prop} {tag : Nat → Tag} {n : Nam} {f : Nat} {v : Value} {G : Fil} {Q : Pls} {w : World} (h : FileAt tag w n f G v Q) : Going F tag n f v G.sure Q 0 [] w w tag [] :=
  ⟨rfl, rfl, by
    have e : (⟨[] ++ (Q.drop 0).map (·.2), G.sure⟩ : Fil) = G := by rw [List.drop_zero, List.nil_append, ← h.ps]
    rw [e, List.drop_zero, List.nil_append]; exact h, fun _ _ => rfl, Chg.refl _ _⟩
theorem Going.at {F : Nat → Prop} {tag0 : Nat → Tag} {n : Nam} {f : Nat} {v : Value} {s : Bool} {Q : Pls} {k : Nat} {P1 : List Plc} {w0 w : World} {tag' : Nat → Tag} {Q1 : Pls} (h : Going F tag0 n f v s Q k P1 w0 w tag' Q1) (hk : k < Q.length) :
    ∃ hk' : k < (Q1 ++ Q.drop k).length, (Q1 ++ Q.drop k)[k] = Q[k] ∧ (Q1 ++ Q.drop k).length = Q.length := by
  have hl := h.len
  have e : (Q1 ++ Q.drop k).length = Q.length := by rw [List.length_append, List.length_drop]; omega
  refine ⟨by omega, ?_, e⟩
  have : (Q1 ++ Q.drop k)[k]? = some Q[k] := by rw [List.getElem?_append_right (by omega), hl, Nat.sub_self, List.getElem?_drop, Nat.add_zero, List.getElem?_eq_getElem hk]
  rw [List.getElem?_eq_getElem (by omega)] at this
  exact Option.some.inj this
theorem Going.step {F : Nat → Prop} {tag0 tag' tag2 : Nat → Tag} {n : Nam} {f g cap : Nat} {s : Bool} {Q : Pls} {k : Nat} {P1 : List Plc} {w0 w w2 : World} {Q1 : Pls}
    (h : Going F tag0 n f (.slice (some ⟨g, 0, none⟩) Q.length cap) s Q k P1 w0 w tag' Q1) (hk : k < Q.length) (y : PQ × Plc)
    (hf : FileAt tag2 w2 n f ⟨(P1 ++ (Q.drop k).map (·.2)).set k y.2, s⟩ (.slice (some ⟨g, 0, none⟩) Q.length cap) ((Q1 ++ Q.drop k).set k y)) (ht : ∀ i, i < w.heap.size → tag2 i = tag' i) (hc : Chg F w0 w2) :
    Going F tag0 n f (.slice (some ⟨g, 0, none⟩) Q.length cap) s Q (k + 1) (P1 ++ [y.2]) w0 w2 tag2 (Q1 ++ [y]) := by
  have hl := h.len
  have hp : P1.length = k := by rw [← h.ps, List.length_map, hl]
  have e1 : (Q1 ++ Q.drop k).set k y = (Q1 ++ [y]) ++ Q.drop (k + 1) := by
    rw [List.set_append_right _ _ (by omega), hl, Nat.sub_self, List.drop_eq_getElem_cons hk, List.append_assoc]; rfl
  have e2 : (P1 ++ (Q.drop k).map (·.2)).set k y.2 = (P1 ++ [y.2]) ++ (Q.drop (k + 1)).map (·.2) := by
    rw [List.set_append_right _ _ (by omega), hp, Nat.sub_self, List.drop_eq_getElem_cons hk, List.map_cons, List.append_assoc]; rfl
  rw [e1, e2] at hf
  exact ⟨by rw [List.length_append, hl]; rfl, by rw [List.map_append, h.ps]; rfl, hf, fun i hi => (ht i (Nat.lt_of_lt_of_le hi h.chg.size)).trans (h.tags i hi), hc⟩

/-- A file behind the fate of one of its places. -/
theorem FileAt.met {tag : Nat → Tag} {w w' : World} {n : Nam} {f : Nat} {F : Fil} {g cap : Nat} {Q : Pls} (h : FileAt tag w n f F (.slice (some ⟨g, 0, none⟩) Q.length cap) Q) (i : Nat) (hi : i < Q.length) (fate : Int) (hm : Met g (i * 3) Q[i].1.now fate w w') :
    ∃ tag' y, y.2 = Q[i].2.meet fate ∧ FileAt tag' w' n f ⟨F.ps.set i y.2, F.sure⟩ (.slice (some ⟨g, 0, none⟩) Q.length cap) (Q.set i y) ∧ (∀ k, k < w.heap.size → tag' k = tag k) ∧ Chg (· = g) w w' := by
  have hp := h.pls Q[i] (List.getElem_mem hi)
  have hF : ∀ k, k = g → tag k ≠ .sec := by rintro k rfl e; rw [h.tagr k rfl] at e; cases e
  rcases hm with ⟨rfl, rfl⟩ | ⟨rfl, rfl⟩ | ⟨h1, h2, rfl⟩
  · have hc : Chg (· = g) w (w.setCell ⟨g, i * 3 + 1, none⟩ (ptr Q[i].1.now)) := (Chg.refl _ _).root _ _
    refine ⟨tag, (⟨Q[i].1.now, some Q[i].1.now, Q[i].1.waits⟩, Q[i].2.meet 1), rfl, h.put i _ ?_ hc (fun _ _ => rfl) ?_, fun _ _ => rfl, hc⟩
    · have r1 := (World.ownsRow.stored h.row (i * 3 + 1) (ptr Q[i].1.now)).1
      have e := Pls.cells_set1 Q i hi (some Q[i].1.now) (Q[i].2.meet 1)
      rw [Nat.mul_comm 3 i] at e
      rw [← e]
      exact r1
    · exact ⟨hp.now.kept hc (fun _ _ => rfl) hF, hp.now.kept hc (fun _ _ => rfl) hF, hp.waits⟩
  · have hc : Chg (· = g) w ((w.setCell ⟨g, i * 3 + 1, none⟩ (ptr w.heap.size)).alloc (.cells (secCells none) tSector)) := ((Chg.refl _ _).root _ _).alloc _
    have ht : ∀ k, k < w.heap.size → upd tag w.heap.size .sec k = tag k := fun k hk => upd_ne _ _ (by omega)
    refine ⟨upd tag w.heap.size .sec, (⟨Q[i].1.now, some w.heap.size, Q[i].1.waits⟩, Q[i].2.meet 2), rfl, h.put i _ ?_ hc ht ?_, ht, hc⟩
    · have r1 := (World.ownsRow.stored h.row (i * 3 + 1) (ptr w.heap.size)).1
      have e := Pls.cells_set1 Q i hi (some w.heap.size) (Q[i].2.meet 2)
      rw [Nat.mul_comm 3 i] at e
      rw [← e]
      exact World.ownsRow.alloc r1 _
    · refine ⟨hp.now.kept hc ht hF, ⟨upd_same _ _ _, zeros_len, ?_⟩, hp.waits⟩
      have := blk_new (w.setCell ⟨g, i * 3 + 1, none⟩ (ptr w.heap.size)) (.cells (secCells none) tSector)
      rw [set_size] at this
      exact this
  · refine ⟨tag, Q[i], ?_, ?_, fun _ _ => rfl, Chg.refl _ _⟩
    · unfold Plc.meet; rw [if_neg h1, if_neg h2]
    · have e1 : F.ps.set i Q[i].2 = F.ps := by
        have hi' : i < F.ps.length := by rw [h.ps, List.length_map]; exact hi
        have : Q[i].2 = F.ps[i] := by simp [h.ps]
        rw [this, List.set_getElem_self]
      rw [e1, List.set_getElem_self]
      exact h

/-- What a waking file may turn: the file, its row, the count of fates. -/
def WF0 (tag : Nat → Tag) (n : Nam) (B : Nat) : Nat → Prop := fun i => (tag i = .file n ∨ tag i = .row n) ∨ i = B
/-- The first loop of a waking file. -/
def W1 (tag : Nat → Tag) (n : Nam) (f : Nat) (v : Value) (F : Fil) (Q : Pls) (A B : Nat) (fv : Value) (l : List Int) (k : Nat) (w0 : World) (j : Nat) (w : World) : Prop :=
  ∃ tag' Q1, Going (WF0 tag n B) tag n f v F.sure Q j (mets l k (F.ps.take j)) w0 w tag' Q1 ∧ Fates w A B fv l (counts k (F.ps.take j))

/-- Who is no part of the disk. -/
structure Outer (tag : Nat → Tag) (A B : Nat) (fv : Value) : Prop where
  a : tag A = .other
  b : tag B = .other
  v : ∀ b o n cap, fv = .slice (some ⟨b, o, none⟩) n cap → n ≠ 0 → tag b = .other

theorem Fates.keptIn {tag : Nat → Tag} {w w' : World} {A B : Nat} {fv : Value} {l : List Int} {k : Nat} {F : Nat → Prop} (h : Fates w A B fv l k) (ho : Outer tag A B fv) (hc : Chg F w w') (hF : ∀ i, F i → tag i ≠ .other) : Fates w' A B fv l k :=
  h.kept hc (fun e => hF A e ho.a) (fun e => hF B e ho.b) (fun b o n cap hv hn e => hF b e (ho.v b o n cap hv hn))

theorem mets_take (l : List Int) (k : Nat) (ps : List Plc) (j : Nat) (h : j < ps.length) : mets l k (ps.take (j + 1)) = mets l k (ps.take j) ++ [met1 l (counts k (ps.take j)) ps[j]] := by
  rw [List.take_succ_eq_append_getElem h, mets_append]; rfl
theorem counts_take (k : Nat) (ps : List Plc) (j : Nat) (h : j < ps.length) : counts k (ps.take (j + 1)) = count1 (counts k (ps.take j)) ps[j] := by
  rw [List.take_succ_eq_append_getElem h, counts_append]; rfl
theorem counts_le : ∀ (l : List Plc) (k : Nat), counts k l ≤ k + l.length
  | [], k => Nat.le_refl _
  | p :: r, k => by
    have := counts_le r (count1 k p)
    have h1 : count1 k p ≤ k + 1 := by unfold count1; split <;> omega
    show counts (count1 k p) r ≤ _
    simp only [List.length_cons]; omega
theorem SafeAt.some_iff {tag : Nat → Tag} {w : World} {o : Option Nat} {s : Option Sec} (h : SafeAt tag w o s) : o.isSome = s.isSome := by
  cases o <;> cases s
  · rfl
  · exact h.elim
  · exact h.elim
  · rfl

section
variable {tag : Nat → Tag} {n : Nam} {f g cap : Nat} {F : Fil} {Q : Pls} {A B : Nat} {fv : Value} {l : List Int} {k j : Nat} {w0 wr w1 w2 : World} {tag' : Nat → Tag} {Q1 : Pls}

theorem W1.next {tag2 : Nat → Tag} (hps : F.ps = Q.map (·.2)) (hg : Going (WF0 tag n B) tag n f (.slice (some ⟨g, 0, none⟩) Q.length cap) F.sure Q j (mets l k (F.ps.take j)) w0 wr tag' Q1) (hlt : j < Q.length) (y : PQ × Plc)
    (hy : y.2 = met1 l (counts k (F.ps.take j)) Q[j].2)
    (hf : FileAt tag2 w2 n f ⟨(mets l k (F.ps.take j) ++ (Q.drop j).map (·.2)).set j y.2, F.sure⟩ (.slice (some ⟨g, 0, none⟩) Q.length cap) ((Q1 ++ Q.drop j).set j y)) (ht : ∀ i, i < wr.heap.size → tag2 i = tag' i)
    (hc : Chg (WF0 tag n B) w0 w2) (hfa : Fates w2 A B fv l (count1 (counts k (F.ps.take j)) Q[j].2)) : W1 tag n f (.slice (some ⟨g, 0, none⟩) Q.length cap) F Q A B fv l k w0 (j + 1) w2 := by
  have hl : j < F.ps.length := by rw [hps, List.length_map]; exact hlt
  have e : F.ps[j] = Q[j].2 := by simp [hps]
  refine ⟨tag2, Q1 ++ [y], ?_, ?_⟩
  · rw [mets_take l k F.ps j hl, e, ← hy]
    exact hg.step hlt y hf ht hc
  · rw [counts_take k F.ps j hl, e]
    exact hfa

theorem W1.idle (hps : F.ps = Q.map (·.2)) (hg : Going (WF0 tag n B) tag n f (.slice (some ⟨g, 0, none⟩) Q.length cap) F.sure Q j (mets l k (F.ps.take j)) w0 wr tag' Q1) (hlt : j < Q.length) (hw : Q[j].1.waits = false)
    (hfa : Fates wr A B fv l (counts k (F.ps.take j))) :
    W1 tag n f (.slice (some ⟨g, 0, none⟩) Q.length cap) F Q A B fv l k w0 (j + 1) wr ∧ Q[j].1.safe.isSome = (met1 l (counts k (F.ps.take j)) Q[j].2).safe.isSome := by
  obtain ⟨hj', hq, hql⟩ := hg.at hlt
  have hm := hg.file.pls (Q1 ++ Q.drop j)[j] (List.getElem_mem hj')
  rw [hq] at hm
  have hw2 : Q[j].2.waits = false := by rw [← hm.waits]; exact hw
  have hy : Q[j].2 = met1 l (counts k (F.ps.take j)) Q[j].2 := by unfold met1; rw [hw2]; rfl
  have hcn : count1 (counts k (F.ps.take j)) Q[j].2 = counts k (F.ps.take j) := by unfold count1; rw [hw2]; rfl
  refine ⟨W1.next hps hg hlt Q[j] hy ?_ (fun _ _ => rfl) hg.chg (by rw [hcn]; exact hfa), by rw [← hy]; exact hm.safe.some_iff⟩
  have e1 : (Q1 ++ Q.drop j).set j Q[j] = Q1 ++ Q.drop j := by rw [← hq, List.set_getElem_self]
  have e2 : (mets l k (F.ps.take j) ++ (Q.drop j).map (·.2)).set j Q[j].2 = mets l k (F.ps.take j) ++ (Q.drop j).map (·.2) := by
    have h3 := hg.file.ps
    simp only at h3
    rw [h3, ← List.map_set, e1]
  rw [e1, e2]
  exact hg.file

theorem W1.met (hps : F.ps = Q.map (·.2)) (hg : Going (WF0 tag n B) tag n f (.slice (some ⟨g, 0, none⟩) Q.length cap) F.sure Q j (mets l k (F.ps.take j)) w0 wr tag' Q1) (hlt : j < Q.length) (hw : Q[j].1.waits = true)
    (ho : Outer tag A B fv) (hB : B < w0.heap.size) (hfb : ∀ b o n cap, fv = .slice (some ⟨b, o, none⟩) n cap → n ≠ 0 → b < w0.heap.size) (hA : A < w0.heap.size) (hgr : tag' g = .row n)
    (hfa1 : Fates w1 A B fv l (counts k (F.ps.take j) + 1)) (hc1 : Chg (· = B) wr w1) (hm : Met g (j * 3) Q[j].1.now (fateAt l (counts k (F.ps.take j))) w1 w2) (hgw : g < w0.heap.size → tag g = .row n) :
    ∃ o : Option Nat, w2.cell? ⟨g, j * 3 + 1, none⟩ = some (ptrO o) ∧ W1 tag n f (.slice (some ⟨g, 0, none⟩) Q.length cap) F Q A B fv l k w0 (j + 1) w2 ∧ o.isSome = (met1 l (counts k (F.ps.take j)) Q[j].2).safe.isSome := by
  obtain ⟨hj', hq, hql⟩ := hg.at hlt
  have hsz := hg.chg.size
  have hm0 := hg.file.pls (Q1 ++ Q.drop j)[j] (List.getElem_mem hj')
  rw [hq] at hm0
  have hw2 : Q[j].2.waits = true := by rw [← hm0.waits]; exact hw
  have htB : tag' B = .other := (hg.tags B hB).trans ho.b
  have hf1 : FileAt tag' w1 n f ⟨mets l k (F.ps.take j) ++ (Q.drop j).map (·.2), F.sure⟩ (.slice (some ⟨g, 0, none⟩) (Q1 ++ Q.drop j).length cap) (Q1 ++ Q.drop j) := by
    rw [hql]
    exact hg.file.kept hc1 (fun _ _ => rfl) (by rintro i rfl; rw [htB]; exact ⟨by simp, by simp, by simp⟩)
  obtain ⟨tag2, y, hy, hf2, ht2, hc2⟩ := hf1.met j hj' (fateAt l (counts k (F.ps.take j))) (by rw [hq]; exact hm)
  rw [hq] at hy
  have hy2 : y.2 = met1 l (counts k (F.ps.take j)) Q[j].2 := by unfold met1; rw [hw2]; exact hy
  have hcn : count1 (counts k (F.ps.take j)) Q[j].2 = counts k (F.ps.take j) + 1 := by unfold count1; rw [hw2]; rfl
  have hl2 : ((Q1 ++ Q.drop j).set j y).length = Q.length := by rw [List.length_set, hql]
  rw [hql] at hf2
  have hget : ((Q1 ++ Q.drop j).set j y)[j]'(by rw [hl2]; exact hlt) = y := by rw [List.getElem_set_self]
  have hr2 := hf2.row
  rw [hl2] at hr2
  have hpc := place_cells (i := j) hr2 (by rw [hl2]; exact hlt) hl2.symm
  rw [hget] at hpc
  have hm2 := hf2.pls y (by have := List.getElem_mem (l := (Q1 ++ Q.drop j).set j y) (by rw [hl2]; exact hlt : j < _); rw [hget] at this; exact this)
  refine ⟨y.1.safe, hpc.2.1, ?_, by rw [← hy2]; exact hm2.safe.some_iff⟩
  refine W1.next hps hg hlt y hy2 hf2 (fun i hi => ht2 i (Nat.lt_of_lt_of_le hi hc1.size)) ?_ ?_
  · refine (hg.chg.then hc1 (fun i _ e => Or.inr (Or.inr e))).then hc2 ?_
    rintro i hi rfl
    by_cases hi0 : i < w0.heap.size
    · exact Or.inr (Or.inl (Or.inr (hgw hi0)))
    · exact Or.inl (by omega)
  · rw [hcn]
    refine hfa1.kept hc2 ?_ ?_ ?_
    · rintro rfl
      rw [hg.tags _ hA, ho.a] at hgr; cases hgr
    · rintro rfl
      rw [htB] at hgr; cases hgr
    · rintro b o m c hv hn rfl
      rw [hg.tags _ (hfb _ _ _ _ hv hn), ho.v _ _ _ _ hv hn] at hgr; cases hgr
end

theorem endOf_next (l : List Int) (k : Nat) (ps : List Plc) (j : Nat) (h : j < ps.length) :
    endOf (mets l k (ps.take (j + 1))) = if (met1 l (counts k (ps.take j)) ps[j]).safe.isSome then j + 1 else endOf (mets l k (ps.take j)) := by
  rw [mets_take l k ps j h, endOf_snoc, mets_len, List.length_take, Nat.min_eq_left (by omega)]

/-- The second loop: the places that are left rise. -/
def W2 (tag : Nat → Tag) (n : Nam) (f : Nat) (v : Value) (Q : Pls) (w0 : World) (j : Nat) (w : World) : Prop :=
  ∃ tag' Q1, Going (fun i => tag i = .file n ∨ tag i = .row n) tag n f v true Q j ((Q.take j).map fun x => x.2.rise) w0 w tag' Q1
theorem W2.start {tag : Nat → Tag} {n : Nam} {f : Nat} {v : Value} {ps : List Plc} {Q : Pls} {w : World} (h : FileAt tag w n f ⟨ps, true⟩ v Q) : W2 tag n f v Q w 0 w := ⟨tag, [], by rw [List.take_zero]; exact Going.start h⟩

section
variable {tag : Nat → Tag} {n : Nam} {f g cap : Nat} {Q : Pls} {j : Nat} {w0 wr w2 : World}

theorem W2.facts (h : W2 tag n f (.slice (some ⟨g, 0, none⟩) Q.length cap) Q w0 j wr) : wr.cell? ⟨f, 0, none⟩ = some (.slice (some ⟨g, 0, none⟩) Q.length cap) := by
  obtain ⟨tag', Q1, hg⟩ := h
  exact blk_cell hg.file.blk 0
theorem W2.cells (h : W2 tag n f (.slice (some ⟨g, 0, none⟩) Q.length cap) Q w0 j wr) (hlt : j < Q.length) :
    wr.cell? ⟨g, j * 3, none⟩ = some (ptr Q[j].1.now) ∧ wr.cell? ⟨g, j * 3 + 1, none⟩ = some (ptrO Q[j].1.safe) ∧ wr.cell? ⟨g, j * 3 + 2, none⟩ = some (.bool Q[j].1.waits) ∧
    wr.frozen? ⟨g, j * 3, none⟩ = false ∧ wr.frozen? ⟨g, j * 3 + 1, none⟩ = false ∧ wr.frozen? ⟨g, j * 3 + 2, none⟩ = false ∧ g < wr.heap.size := by
  obtain ⟨tag', Q1, hg⟩ := h
  obtain ⟨hj', hq, hql⟩ := hg.at hlt
  have hrow := hg.file.row
  rw [hql] at hrow
  have hp := place_cells (i := j) hrow hj' hql.symm
  rw [hq] at hp
  exact ⟨hp.1, hp.2.1, hp.2.2.1, hp.2.2.2.1, hp.2.2.2.2.1, hp.2.2.2.2.2, (hrow.lt g rfl).2⟩
/-- A place whose safe state is there. -/
theorem W2.stays (h : W2 tag n f (.slice (some ⟨g, 0, none⟩) Q.length cap) Q w0 j wr) (hlt : j < Q.length) (hgw : g < w0.heap.size → tag g = .row n) {b : Nat} (hb : Q[j].1.safe = some b)
    (hw : w2 = ((wr.setCell ⟨g, j * 3, none⟩ (ptr b)).setCell ⟨g, j * 3 + 1, none⟩ (ptr b)).setCell ⟨g, j * 3 + 2, none⟩ (.bool false)) : W2 tag n f (.slice (some ⟨g, 0, none⟩) Q.length cap) Q w0 (j + 1) w2 := by
  obtain ⟨tag', Q1, hg⟩ := h
  obtain ⟨hj', hq, hql⟩ := hg.at hlt
  have hm := hg.file.pls (Q1 ++ Q.drop j)[j] (List.getElem_mem hj')
  rw [hq] at hm
  have hsafe := hm.safe
  rw [hb] at hsafe
  cases hs : Q[j].2.safe with
  | none => rw [hs] at hsafe; exact hsafe.elim
  | some s =>
    rw [hs] at hsafe
    have hf1 := hg.file
    rw [← hql] at hf1
    obtain ⟨h3, h4⟩ := hf1.held j hj' b s hsafe hw
    rw [hql] at h3
    have hst := hg.step hlt (⟨b, some b, false⟩, ⟨s, some s, false⟩) h3 (fun _ _ => rfl) (hg.chg.then h4 (by
      rintro i hi rfl
      by_cases hi0 : i < w0.heap.size
      · exact Or.inr (Or.inr (hgw hi0))
      · exact Or.inl (by omega)))
    have e : (Q.take (j + 1)).map (fun x => x.2.rise) = (Q.take j).map (fun x => x.2.rise) ++ [⟨s, some s, false⟩] := by
      rw [List.take_succ_eq_append_getElem hlt, List.map_append]
      congr 1
      simp only [List.map_cons, List.map_nil, Plc.rise, hs, Option.getD_some]
    rw [← e] at hst
    exact ⟨_, _, hst⟩
/-- A place whose safe state is none. -/
theorem W2.fills (h : W2 tag n f (.slice (some ⟨g, 0, none⟩) Q.length cap) Q w0 j wr) (hlt : j < Q.length) (hgw : g < w0.heap.size → tag g = .row n) (hb : Q[j].1.safe = none) {w1 : World}
    (hw1 : w1 = (wr.setCell ⟨g, j * 3 + 1, none⟩ (ptr wr.heap.size)).alloc (.cells (secCells (some zeros)) tSector))
    (hw : w2 = ((w1.setCell ⟨g, j * 3, none⟩ (ptr wr.heap.size)).setCell ⟨g, j * 3 + 1, none⟩ (ptr wr.heap.size)).setCell ⟨g, j * 3 + 2, none⟩ (.bool false)) : W2 tag n f (.slice (some ⟨g, 0, none⟩) Q.length cap) Q w0 (j + 1) w2 := by
  obtain ⟨tag', Q1, hg⟩ := h
  obtain ⟨hj', hq, hql⟩ := hg.at hlt
  have hm := hg.file.pls (Q1 ++ Q.drop j)[j] (List.getElem_mem hj')
  rw [hq] at hm
  have hs : Q[j].2.safe = .none := by
    have := hm.safe.some_iff
    rw [hb] at this
    cases hs : Q[j].2.safe with
    | none => rfl
    | some s => rw [hs] at this; cases this
  have hf1 := hg.file
  rw [← hql] at hf1
  have hgr : tag' g = .row n := hf1.tagr g rfl
  have hF : ∀ k, k = g → tag' k ≠ .sec := by rintro k rfl e; rw [hgr] at e; cases e
  have ht : ∀ k, k < wr.heap.size → upd tag' wr.heap.size .sec k = tag' k := fun k hk => upd_ne _ _ (by omega)
  have hc : Chg (· = g) wr w1 := by rw [hw1]; exact ((Chg.refl _ _).root _ _).alloc _
  have hnew : w1.heap[wr.heap.size]? = .some (.cells (secCells (.some zeros)) tSector (0, 0)) := by
    have := blk_new (wr.setCell ⟨g, j * 3 + 1, .none⟩ (ptr wr.heap.size)) (.cells (secCells (.some zeros)) tSector)
    rw [set_size, ← hw1] at this
    exact this
  have hsec : SecAt (upd tag' wr.heap.size .sec) w1 wr.heap.size (.some zeros) := ⟨upd_same _ _ _, zeros_len, hnew⟩
  have h2 := hf1.put (tag' := upd tag' wr.heap.size .sec) (w' := w1) j (⟨Q[j].1.now, .some wr.heap.size, Q[j].1.waits⟩, ⟨Q[j].2.now, .some (.some zeros), Q[j].2.waits⟩) (by
    have r1 := (World.ownsRow.stored hf1.row (j * 3 + 1) (ptr wr.heap.size)).1
    have e := Pls.cells_set1 (Q1 ++ Q.drop j) j hj' (.some wr.heap.size) ⟨Q[j].2.now, .some (.some zeros), Q[j].2.waits⟩
    rw [Nat.mul_comm 3 j, hq] at e
    rw [← e, hw1]
    exact World.ownsRow.alloc r1 _) hc ht ⟨hm.now.kept hc ht hF, hsec, hm.waits⟩
  have hl2 : ((Q1 ++ Q.drop j).set j (⟨Q[j].1.now, .some wr.heap.size, Q[j].1.waits⟩, ⟨Q[j].2.now, .some (.some zeros), Q[j].2.waits⟩)).length = (Q1 ++ Q.drop j).length := List.length_set
  rw [← hl2] at h2
  obtain ⟨h3, h4⟩ := h2.held j (by rw [hl2]; exact hj') wr.heap.size (.some zeros) hsec hw
  rw [hl2, hql, List.set_set] at h3
  simp only [List.set_set] at h3
  have hst := hg.step hlt (⟨wr.heap.size, .some wr.heap.size, false⟩, ⟨.some zeros, .some (.some zeros), false⟩) h3 ht ((hg.chg.then hc (by
      rintro i hi rfl
      by_cases hi0 : i < w0.heap.size
      · exact Or.inr (Or.inr (hgw hi0))
      · exact Or.inl (by omega))).then h4 (by
      rintro i hi rfl
      by_cases hi0 : i < w0.heap.size
      · exact Or.inr (Or.inr (hgw hi0))
      · exact Or.inl (by omega)))
  have e : (Q.take (j + 1)).map (fun x => x.2.rise) = (Q.take j).map (fun x => x.2.rise) ++ [⟨.some zeros, .some (.some zeros), false⟩] := by
    rw [List.take_succ_eq_append_getElem hlt, List.map_append]
    congr 1
    simp only [List.map_cons, List.map_nil, Plc.rise, hs, Option.getD_none]
  rw [← e] at hst
  exact ⟨_, _, hst⟩
end

/-- What a file that woke is. -/
def Woken (tag : Nat → Tag) (n : Nam) (f : Nat) (F : Fil) (A B : Nat) (fv : Value) (l : List Int) (k : Nat) (w w' : World) : Prop :=
  Fates w' A B fv l (counts k F.ps) ∧ ∃ tag', (∀ i, i < w.heap.size → tag' i = tag i) ∧ Chg (WF0 tag n B) w w' ∧ (F.lives l k = true → ∃ v' Q', FileAt tag' w' n f (F.woken l k) v' Q')

theorem Fates.flt {w : World} {A B : Nat} {v : Value} {l : List Int} {k : Nat} (h : Fates w A B v l k) : ∀ b o n cap, v = .slice (some ⟨b, o, none⟩) n cap → n ≠ 0 → b < w.heap.size := by
  intro b o n cap hv hn
  rcases h.ints with ⟨ao, cap', h1, _⟩ | ⟨b', o', cap', h1, h2, _⟩
  · rw [h1] at hv; cases hv; exact absurd rfl hn
  · rw [h1] at hv; cases hv; exact h2
theorem Outer.ext {tag tag' : Nat → Tag} {w : World} {A B : Nat} {v : Value} {l : List Int} {k : Nat} (h : Outer tag A B v) (hf : Fates w A B v l k) (ht : ∀ i, i < w.heap.size → tag' i = tag i) : Outer tag' A B v := by
  obtain ⟨k', hb, _⟩ := hf.hb
  exact ⟨(ht A (lt_of_block hf.ha)).trans h.a, (ht B (lt_of_block hb)).trans h.b, fun b o n cap hv hn => (ht b (hf.flt b o n cap hv hn)).trans (h.v b o n cap hv hn)⟩

section
variable {tag : Nat → Tag} {n : Nam} {f : Nat} {F : Fil} {Q : Pls} {A B : Nat} {fv v : Value} {l : List Int} {k : Nat} {w0 wr w1 w2 : World}

/-- Behind the first loop. -/
theorem W1.out (hps : F.ps = Q.map (·.2)) (h : W1 tag n f v F Q A B fv l k w0 Q.length wr) :
    ∃ tag' Q1, FileAt tag' wr n f ⟨mets l k F.ps, F.sure⟩ v Q1 ∧ Q1.length = Q.length ∧ Fates wr A B fv l (counts k F.ps) ∧ (∀ i, i < w0.heap.size → tag' i = tag i) ∧ Chg (WF0 tag n B) w0 wr := by
  obtain ⟨tag', Q1, hg, hfa⟩ := h
  have e : F.ps.take Q.length = F.ps := List.take_of_length_le (by rw [hps, List.length_map]; exact Nat.le_refl _)
  rw [e] at hg hfa
  have hf := hg.file
  rw [List.drop_length, List.append_nil, List.map_nil, List.append_nil] at hf
  exact ⟨tag', Q1, hf, hg.len, hfa, hg.tags, hg.chg⟩
/-- Behind both loops. -/
theorem woken_end {tag1 tag2 : Nat → Tag} (hfa : Fates wr A B fv l (counts k F.ps)) (ht1 : ∀ i, i < w0.heap.size → tag1 i = tag i) (hc1 : Chg (WF0 tag n B) w0 wr)
    (ho : Outer tag A B fv) (hf0 : Fates w0 A B fv l k) {v2 : Value} {Q2 : Pls} (hf2 : FileAt tag2 w1 n f ((⟨mets l k F.ps, F.sure⟩ : Fil).cut (endOf (mets l k F.ps))) v2 Q2)
    (ht2 : ∀ i, i < wr.heap.size → tag2 i = tag1 i) (hc2 : Chg (fun i => tag1 i = .file n ∨ tag1 i = .row n) wr w1) (h : W2 tag2 n f v2 Q2 w1 Q2.length w2) : Woken tag n f F A B fv l k w0 w2 := by
  obtain ⟨tag3, Q3, hg⟩ := h
  have hF : ∀ (t : Nat → Tag) i, (t i = .file n ∨ t i = .row n) → t i ≠ .other := by rintro t i (e | e) e' <;> rw [e] at e' <;> cases e'
  have ho1 := ho.ext hf0 ht1
  have hfa1 := hfa.keptIn ho1 hc2 (hF tag1)
  have ho2 := ho1.ext hfa ht2
  have hfa2 := hfa1.keptIn ho2 hg.chg (hF tag2)
  have hs1 := hc1.size
  have hs2 := hc2.size
  refine ⟨hfa2, tag3, fun i hi => (hg.tags i (by omega)).trans ((ht2 i (by omega)).trans (ht1 i hi)), ?_, fun _ => ?_⟩
  · refine (hc1.then hc2 (fun i hi e => ?_)).then hg.chg (fun i hi e => ?_)
    · by_cases h0 : i < w0.heap.size
      · rw [ht1 i h0] at e; exact Or.inr (Or.inl e)
      · exact Or.inl (by omega)
    · by_cases h0 : i < w0.heap.size
      · rw [ht2 i (by omega), ht1 i h0] at e; exact Or.inr (Or.inl e)
      · exact Or.inl (by omega)
  · have hf := hg.file
    rw [List.drop_length, List.append_nil, List.map_nil, List.append_nil, List.take_length] at hf
    refine ⟨v2, Q3, ?_⟩
    have e : F.woken l k = ⟨Q2.map fun x => x.2.rise, true⟩ := by
      have h2 := hf2.ps
      simp only [Fil.cut] at h2
      unfold Fil.woken
      rw [h2, List.map_map]; rfl
    rw [e]
    exact hf
end

set_option maxRecDepth 100000 in
set_option maxHeartbeats 2000000 in
theorem wake_any (tag : Nat → Tag) (w : World) (n : Nam) (f : Nat) (F : Fil) (v : Value) (Q : Pls) (h : FileAt tag w n f F v Q) (A B : Nat) (fv : Value) (l : List Int) (k : Nat) (hf : Fates w A B fv l k) (hk : k + Q.length ≤ 1000000000)
    (hl : l.length ≤ maxLen) (ho : Outer tag A B fv) :
    Calls Tryz.prog 75 #[ptr f, .func (.func 73) #[] #[ptr A, ptr B]] w fun e w' => e = .returned (.bool (F.lives l k)) ∧ Woken tag n f F A B fv l k w w' := by
  have c0 : w.cell? ⟨f, 0, none⟩ = some v := blk_cell h.blk 0
  have c1 : w.cell? ⟨f, 1, none⟩ = some (.bool F.sure) := blk_cell h.blk 1
  have hlen := h.len
  rcases h.row.2 with ⟨hv, hn⟩ | ⟨g, cap, cur0, hv, _, _, hn0, hm0, -, -⟩
  · subst hv
    obtain rfl : Q = [] := List.eq_nil_of_length_eq_zero hn
    have hps : F.ps = [] := h.ps
    have hE : endOf (mets l k F.ps) = 0 := by rw [hps]; rfl
    have e1 : (⟨mets l k F.ps, F.sure⟩ : Fil) = F := by rw [hps]; show (⟨[], F.sure⟩ : Fil) = F; rw [← hps]
    have hf1 : FileAt tag w n f ⟨mets l k F.ps, F.sure⟩ (.slice none 0 0) [] := by rw [e1]; exact h
    have hfa1 : Fates w A B fv l (counts k F.ps) := by rw [hps]; exact hf
    have bE : ((endOf (mets l k F.ps) : Int) == 0) = true := by simp [hE]
    have HO := hid ho
    have HF := hid hf
    have HF2 := hid hf1
    have HFA := hid hfa1
    have HE := hid hE
    have HPS := hid hps
    clear h ho hf hn hf1 hfa1 hE e1 hps
    go_enter Tryz.func75, Tryz.ntmps75
    go_wp2
    go_loopw [5, 15] (fun e i wr => e = .int .i64 (endOf (mets l k F.ps) : Nat) ∧ i = .int .i64 0 ∧ wr = w) (fun _ _ _ => 0)
    case atStart => exact ⟨by rw [HE.out]; rfl, rfl, rfl⟩
    case round =>
      obtain ⟨rfl, rfl, rfl⟩ := hrel
      have hEle : endOf (mets l k F.ps) ≤ ([] : Pls).length := by rw [HE.out]; exact Nat.zero_le _
      cases hs : F.sure with
      | false =>
        have hlv : F.lives l k = false := by unfold Fil.lives; rw [hs, HE.out]; rfl
        rw [hs] at c1
        have HL := hid hlv
        have HR : Hid (Woken tag n f F A B fv l k wr wr) := hid ⟨HFA.out, tag, fun _ _ => rfl, Chg.refl _ _, fun e => by rw [hlv] at e; cases e⟩
        clear hlv hs
        go_wp2
        go_ret
        exact ⟨ret_b HL.out.symm, HR.out⟩
      | true =>
        rw [hs] at c1
        have hf1 := HF2.out
        have hfa1 := HFA.out
        have ht1 : ∀ i, i < wr.heap.size → tag i = tag i := fun _ _ => rfl
        have hc1 : Chg (WF0 tag n B) wr wr := Chg.refl _ _
        have hE := HE.out
        have hlv : F.lives l k = true := by unfold Fil.lives; rw [hs]; rfl
        have HL := hid hlv
        have HF1 := hid hf1
        have HEND := hid (fun (tag2 : Nat → Tag) (v2 : Value) (Q2 : Pls) (wa wb : World) (a : FileAt tag2 wa n f ((⟨mets l k F.ps, F.sure⟩ : Fil).cut (endOf (mets l k F.ps))) v2 Q2) (b : ∀ i, i < wr.heap.size → tag2 i = tag i) (c : Chg (fun i => tag i = .file n ∨ tag i = .row n) wr wa) (h : W2 tag2 n f v2 Q2 wa Q2.length wb) => woken_end (w2 := wb) hfa1 ht1 hc1 HO.out HF.out a b c h)
        clear hf1 hfa1 ht1 hc1 hlv hs hE
        go_wp2_with fail
        refine (fcut_any tag _ n f _ _ [] HF1.out (endOf (mets l k F.ps)) hEle).mono ?_
        rintro e w1 ⟨rfl, tag2, v2, Q2, hf2, ht2, hc2⟩
        have HEND2 := hid (fun (wb : World) (h : W2 tag2 n f v2 Q2 w1 Q2.length wb) => HEND.out tag2 v2 Q2 w1 wb hf2 ht2 hc2 h)
        have HW0 := hid (W2.start hf2)
        have m0 : w1.cell? ⟨f, 0, none⟩ = some v2 := blk_cell hf2.blk 0
        have hlen2 := hf2.len
        have hrow2 := hf2.row.2
        have hgt2 := hf2.tagr
        clear hf2 ht2 hc2
        rcases hrow2 with ⟨hv2, hn2⟩ | ⟨g2, cap2, cur2, hv2, _, _, hn20, hm20, -, -⟩
        · subst hv2
          obtain rfl : Q2 = [] := List.eq_nil_of_length_eq_zero hn2
          clear hn2
          go_wp2
          go_loopw [57] (fun i wr2 => i = .int .i64 0 ∧ wr2 = w1) (fun _ _ => 0)
          case atStart => exact ⟨rfl, rfl⟩
          case round =>
            obtain ⟨rfl, rfl⟩ := hrel
            go_wp2
            go_ret
            exact ⟨ret_b HL.out.symm, HEND2.out _ HW0.out⟩
        · subst hv2
          have hgt3 := hgt2 g2 rfl
          have HG2 : Hid (g2 < w1.heap.size → tag2 g2 = .row n) := hid fun _ => hgt3
          clear hgt2 hgt3
          go_wp2
          go_loopw [57] (fun i wr2 => ∃ j : Nat, j ≤ Q2.length ∧ i = .int .i64 j ∧ W2 tag2 n f (.slice (some ⟨g2, 0, none⟩) Q2.length cap2) Q2 w1 j wr2) (fun i _ => Q2.length - (intOf i).toNat)
          case atStart => exact ⟨0, Nat.zero_le _, rfl, HW0.out⟩
          case round =>
            obtain ⟨j, hj, rfl, hW2⟩ := hrel
            have p0 := hW2.facts
            have HW2 := hid hW2
            by_cases hlt2 : j < Q2.length
            · obtain ⟨q0, q1, q2, z0, z1, z2, hgl2⟩ := hW2.cells hlt2
              clear hW2
              cases hsf : Q2[j].1.safe with
              | none =>
                have HZ := hid hsf
                rw [hsf] at q1
                have q1' : _ = some (Value.pointer none) := q1
                clear hsf q1
                have hz := zeroSector
                have v1 := set_cell_same q1' (ptr wr.heap.size)
                have u0 := (alloc_cell (i := j * 3) (by rw [set_size]; exact hgl2) (.cells Tryz.zeroCells141 tSector)).trans ((set_cell_off (w := wr) (b := g2) (i := j * 3 + 1) (j := j * 3) (by omega) (ptr wr.heap.size)).trans q0)
                have u1 := (alloc_cell (i := j * 3 + 1) (by rw [set_size]; exact hgl2) (.cells Tryz.zeroCells141 tSector)).trans v1
                have u2 := (alloc_cell (i := j * 3 + 2) (by rw [set_size]; exact hgl2) (.cells Tryz.zeroCells141 tSector)).trans ((set_cell_off (w := wr) (b := g2) (i := j * 3 + 1) (j := j * 3 + 2) (by omega) (ptr wr.heap.size)).trans q2)
                have t0 := (alloc_frozen (i := j * 3) (by rw [set_size]; exact hgl2) (.cells Tryz.zeroCells141 tSector)).trans ((set_frozen (w := wr) (b := g2) (i := j * 3 + 1) (j := j * 3) (ptr wr.heap.size)).trans z0)
                have t1 := (alloc_frozen (i := j * 3 + 1) (by rw [set_size]; exact hgl2) (.cells Tryz.zeroCells141 tSector)).trans ((set_frozen (w := wr) (b := g2) (i := j * 3 + 1) (j := j * 3 + 1) (ptr wr.heap.size)).trans z1)
                have t2 := (alloc_frozen (i := j * 3 + 2) (by rw [set_size]; exact hgl2) (.cells Tryz.zeroCells141 tSector)).trans ((set_frozen (w := wr) (b := g2) (i := j * 3 + 1) (j := j * 3 + 2) (ptr wr.heap.size)).trans z2)
                have HZS := hid hz
                clear hz v1
                go_wp2_with fail
                refine (holds_any g2 (j * 3) wr.heap.size _ _ _ _ u0 u1 u2 t0 t1 t2).mono ?_
                rintro e w3 ⟨rfl, hw3⟩
                have HW3 := hid hw3
                clear hw3
                go_wp2
                go_roundw
                case rel => exact ⟨j + 1, by omega, by go_num, HW2.out.fills hlt2 HG2.out HZ.out (by rw [← HZS.out]) HW3.out⟩
                case measure => simp [intOf]; omega
              | some b =>
                have HZ := hid hsf
                rw [hsf] at q1
                have q1' : _ = some (Value.pointer (some ⟨b, 0, none⟩)) := q1
                clear hsf q1
                go_wp2_with fail
                refine (holds_any g2 (j * 3) b _ _ _ _ q0 q1' q2 z0 z1 z2).mono ?_
                rintro e w3 ⟨rfl, hw3⟩
                have HW3 := hid hw3
                clear hw3
                go_wp2
                go_roundw
                case rel => exact ⟨j + 1, by omega, by go_num, HW2.out.stays hlt2 HG2.out HZ.out HW3.out⟩
                case measure => simp [intOf]; omega
            · obtain rfl : j = Q2.length := by omega
              clear hW2
              go_wp2
              go_ret
              exact ⟨ret_b HL.out.symm, HEND2.out _ HW2.out⟩
  · subst hv
    have H0 : W1 tag n f (.slice (some ⟨g, 0, none⟩) Q.length cap) F Q A B fv l k w 0 w := ⟨tag, [], by rw [List.take_zero]; exact Going.start h, by rw [List.take_zero]; exact hf⟩
    have HH := hid h
    have HO := hid ho
    have HF := hid hf
    clear h ho hf
    go_enter Tryz.func75, Tryz.ntmps75
    go_wp2
    go_loopw [5, 15] (fun e i wr => ∃ j : Nat, j ≤ Q.length ∧ i = .int .i64 j ∧ e = .int .i64 (endOf (mets l k (F.ps.take j)) : Nat) ∧ W1 tag n f (.slice (some ⟨g, 0, none⟩) Q.length cap) F Q A B fv l k w j wr) (fun _ i _ => Q.length - (intOf i).toNat)
    case atStart => exact ⟨0, Nat.zero_le _, rfl, rfl, H0⟩
    case round =>
      obtain ⟨j, hj, rfl, rfl, hW⟩ := hrel
      have HW := hid hW
      obtain ⟨tag', Q1, hg, hfa⟩ := hW
      have d0 : wr.cell? ⟨f, 0, none⟩ = some _ := blk_cell hg.file.blk 0
      have d1 : wr.cell? ⟨f, 1, none⟩ = some _ := blk_cell hg.file.blk 1
      by_cases hlt : j < Q.length
      · obtain ⟨hj', hq, hql⟩ := hg.at hlt
        have hrow := hg.file.row
        rw [hql] at hrow
        have hp := place_cells (i := j) hrow hj' hql.symm
        rw [hq] at hp
        obtain ⟨k0, k1, k2, x0, x1, x2⟩ := hp
        have hgl := (hrow.lt g rfl).2
        have hfl := lt_of_block hg.file.blk
        have hps := HH.out.ps
        have hjp : j < F.ps.length := by rw [hps, List.length_map]; exact hlt
        have hpj : F.ps[j] = Q[j].2 := by simp [hps]
        have hend := endOf_next l k F.ps j hjp
        rw [hpj] at hend
        have HE := hid hend
        have htf : tag' f = .file n := hg.file.tagb
        have htg : tag' g = .row n := hg.file.tagr g rfl
        cases hw : Q[j].1.waits with
        | false =>
          rw [hw] at k2
          obtain ⟨hW1, hsome⟩ := W1.idle hps hg hlt hw hfa
          have HW1 := hid hW1
          have HS := hid hsome
          clear hg hfa hrow hps hjp hpj hend hql hq hj' hW1 hsome htf htg hw
          cases hs : Q[j].1.safe with
          | none =>
            have HZ := hid hs
            have k1' : wr.cell? ⟨g, j * 3 + 1, none⟩ = some (.pointer none) := by rw [hs] at k1; exact k1
            clear hs k1
            go_wp2
            go_roundw
            case rel =>
              have e := HS.out
              rw [HZ.out] at e
              have e2 := HE.out
              rw [← e] at e2
              exact ⟨j + 1, by omega, by go_num, by rw [e2]; rfl, HW1.out⟩
            case measure => simp [intOf]; omega
          | some b =>
            have HZ := hid hs
            have k1' : wr.cell? ⟨g, j * 3 + 1, none⟩ = some (.pointer (some ⟨b, 0, none⟩)) := by rw [hs] at k1; exact k1
            clear hs k1
            go_wp2
            go_roundw
            case rel =>
              have e := HS.out
              rw [HZ.out] at e
              have e2 := HE.out
              rw [← e] at e2
              exact ⟨j + 1, by omega, by go_num, by rw [e2]; rfl, HW1.out⟩
            case measure => simp [intOf]; omega
        | true =>
          rw [hw] at k2
          have hcnt : counts k (F.ps.take j) ≤ 1000000000 := by
            have := counts_le (F.ps.take j) k
            rw [List.length_take] at this; omega
          have ht0 := hg.tags
          have hgB : ¬ g = B := by
            rintro rfl
            obtain ⟨k', hb, _⟩ := HF.out.hb
            have := ht0 g (lt_of_block hb)
            rw [htg, HO.out.b] at this; cases this
          have hgw : g < w.heap.size → tag g = .row n := fun hi => by rw [← ht0 g hi]; exact htg
          have hBw : B < w.heap.size := by
            obtain ⟨k', hb, _⟩ := HF.out.hb
            exact lt_of_block hb
          have hAw : A < w.heap.size := lt_of_block HF.out.ha
          have hmet := fun (w1 w2 : World) (h1 : Fates w1 A B fv l (counts k (F.ps.take j) + 1)) (h2 : Chg (· = B) wr w1) (h3 : Met g (j * 3) Q[j].1.now (fateAt l (counts k (F.ps.take j))) w1 w2) =>
            W1.met hps hg hlt hw HO.out hBw HF.out.flt hAw htg h1 h2 h3 hgw
          have HM := hid hmet
          have HFA := hid hfa
          have HGB := hid hgB
          have HG := hid hg
          clear hg hfa hrow hps hjp hpj hend hql hq hj' htf htg hw hmet hgB hgw ht0
          go_wp2_with fail
          refine (fate_any A B fv l (counts k (F.ps.take j)) _ HFA.out hcnt hl).mono ?_
          rintro e w1 ⟨rfl, hfa1, hc1⟩
          have m0 := (hc1.cell (i := j * 3) hgl HGB.out).trans k0
          have m1 := (hc1.cell (i := j * 3 + 1) hgl HGB.out).trans k1
          have y1 := (hc1.frozen (i := j * 3 + 1) hgl HGB.out).trans x1
          have hgl1 := Nat.lt_of_lt_of_le hgl hc1.size
          have HFA1 := hid hfa1
          have HC1 := hid hc1
          clear hfa1 hc1
          go_wp2_with fail
          refine (meet_any g (j * 3) Q[j].1.now _ _ _ hgl1 m0 m1 y1).mono ?_
          rintro e w2 ⟨rfl, hm⟩
          obtain ⟨o, ho2, hW1, hsome⟩ := HM.out _ _ HFA1.out HC1.out hm
          have HW1 := hid hW1
          have HS := hid hsome
          clear hm hW1 hsome m0 m1 y1 hgl1
          cases o with
          | none =>
            have ho3 : w2.cell? ⟨g, j * 3 + 1, none⟩ = some (.pointer none) := ho2
            clear ho2
            go_wp2
            go_roundw
            case rel =>
              have e2 := HE.out
              rw [← HS.out] at e2
              exact ⟨j + 1, by omega, by go_num, by rw [e2]; rfl, HW1.out⟩
            case measure => simp [intOf]; omega
          | some b =>
            have ho3 : w2.cell? ⟨g, j * 3 + 1, none⟩ = some (.pointer (some ⟨b, 0, none⟩)) := ho2
            clear ho2
            go_wp2
            go_roundw
            case rel =>
              have e2 := HE.out
              rw [← HS.out] at e2
              exact ⟨j + 1, by omega, by go_num, by rw [e2]; rfl, HW1.out⟩
            case measure => simp [intOf]; omega
      · obtain rfl : j = Q.length := by omega
        have hps := HH.out.ps
        obtain ⟨tag1, Q4, hf1, hl1, hfa1, ht1, hc1⟩ := W1.out hps HW.out
        clear hg hfa
        have e0 : F.ps.take Q.length = F.ps := List.take_of_length_le (by rw [hps, List.length_map]; exact Nat.le_refl _)
        rw [e0]
        have hEle : endOf (mets l k F.ps) ≤ Q4.length := by
          have := endOf_le (mets l k F.ps)
          have h2 : F.ps.length = Q.length := by rw [hps, List.length_map]
          rw [mets_len, h2] at this; rw [hl1]; omega
        by_cases hE : endOf (mets l k F.ps) = 0
        · cases hs : F.sure with
          | false =>
            have hlv : F.lives l k = false := by unfold Fil.lives; rw [hs, hE]; rfl
            rw [hE]
            rw [hs] at d1
            have HL := hid hlv
            have HR : Hid (Woken tag n f F A B fv l k w wr) := hid ⟨hfa1, tag1, ht1, hc1, fun e => by rw [hlv] at e; cases e⟩
            clear hf1 hfa1 ht1 hc1 hlv hE hs hps e0
            go_wp2
            go_ret
            exact ⟨ret_b HL.out.symm, HR.out⟩
          | true =>
            have bE : ((endOf (mets l k F.ps) : Int) == 0) = true := by simp [hE]
            rw [hs] at d1
            have hlv : F.lives l k = true := by unfold Fil.lives; rw [hs]; rfl
            have HL := hid hlv
            have HF1 := hid hf1
            have HEND := hid (fun (tag2 : Nat → Tag) (v2 : Value) (Q2 : Pls) (wa wb : World) (a : FileAt tag2 wa n f ((⟨mets l k F.ps, F.sure⟩ : Fil).cut (endOf (mets l k F.ps))) v2 Q2) (b : ∀ i, i < wr.heap.size → tag2 i = tag1 i) (c : Chg (fun i => tag1 i = .file n ∨ tag1 i = .row n) wr wa) (h : W2 tag2 n f v2 Q2 wa Q2.length wb) => woken_end (w2 := wb) hfa1 ht1 hc1 HO.out HF.out a b c h)
            clear hf1 hfa1 ht1 hc1 hlv hs hps e0 hE
            go_wp2_with fail
            refine (fcut_any tag1 _ n f _ _ Q4 HF1.out (endOf (mets l k F.ps)) hEle).mono ?_
            rintro e w1 ⟨rfl, tag2, v2, Q2, hf2, ht2, hc2⟩
            have HEND2 := hid (fun (wb : World) (h : W2 tag2 n f v2 Q2 w1 Q2.length wb) => HEND.out tag2 v2 Q2 w1 wb hf2 ht2 hc2 h)
            have HW0 := hid (W2.start hf2)
            have m0 : w1.cell? ⟨f, 0, none⟩ = some v2 := blk_cell hf2.blk 0
            have hlen2 := hf2.len
            have hrow2 := hf2.row.2
            have hgt2 := hf2.tagr
            clear hf2 ht2 hc2
            rcases hrow2 with ⟨hv2, hn2⟩ | ⟨g2, cap2, cur2, hv2, _, _, hn20, hm20, -, -⟩
            · subst hv2
              obtain rfl : Q2 = [] := List.eq_nil_of_length_eq_zero hn2
              clear hn2
              go_wp2
              go_loopw [57] (fun i wr2 => i = .int .i64 0 ∧ wr2 = w1) (fun _ _ => 0)
              case atStart => exact ⟨rfl, rfl⟩
              case round =>
                obtain ⟨rfl, rfl⟩ := hrel
                go_wp2
                go_ret
                exact ⟨ret_b HL.out.symm, HEND2.out _ HW0.out⟩
            · subst hv2
              have hgt3 := hgt2 g2 rfl
              have HG2 : Hid (g2 < w1.heap.size → tag2 g2 = .row n) := hid fun _ => hgt3
              clear hgt2 hgt3
              go_wp2
              go_loopw [57] (fun i wr2 => ∃ j : Nat, j ≤ Q2.length ∧ i = .int .i64 j ∧ W2 tag2 n f (.slice (some ⟨g2, 0, none⟩) Q2.length cap2) Q2 w1 j wr2) (fun i _ => Q2.length - (intOf i).toNat)
              case atStart => exact ⟨0, Nat.zero_le _, rfl, HW0.out⟩
              case round =>
                obtain ⟨j, hj, rfl, hW2⟩ := hrel
                have p0 := hW2.facts
                have HW2 := hid hW2
                by_cases hlt2 : j < Q2.length
                · obtain ⟨q0, q1, q2, z0, z1, z2, hgl2⟩ := hW2.cells hlt2
                  clear hW2
                  cases hsf : Q2[j].1.safe with
                  | none =>
                    have HZ := hid hsf
                    rw [hsf] at q1
                    have q1' : _ = some (Value.pointer none) := q1
                    clear hsf q1
                    have hz := zeroSector
                    have v1 := set_cell_same q1' (ptr wr.heap.size)
                    have u0 := (alloc_cell (i := j * 3) (by rw [set_size]; exact hgl2) (.cells Tryz.zeroCells141 tSector)).trans ((set_cell_off (w := wr) (b := g2) (i := j * 3 + 1) (j := j * 3) (by omega) (ptr wr.heap.size)).trans q0)
                    have u1 := (alloc_cell (i := j * 3 + 1) (by rw [set_size]; exact hgl2) (.cells Tryz.zeroCells141 tSector)).trans v1
                    have u2 := (alloc_cell (i := j * 3 + 2) (by rw [set_size]; exact hgl2) (.cells Tryz.zeroCells141 tSector)).trans ((set_cell_off (w := wr) (b := g2) (i := j * 3 + 1) (j := j * 3 + 2) (by omega) (ptr wr.heap.size)).trans q2)
                    have t0 := (alloc_frozen (i := j * 3) (by rw [set_size]; exact hgl2) (.cells Tryz.zeroCells141 tSector)).trans ((set_frozen (w := wr) (b := g2) (i := j * 3 + 1) (j := j * 3) (ptr wr.heap.size)).trans z0)
                    have t1 := (alloc_frozen (i := j * 3 + 1) (by rw [set_size]; exact hgl2) (.cells Tryz.zeroCells141 tSector)).trans ((set_frozen (w := wr) (b := g2) (i := j * 3 + 1) (j := j * 3 + 1) (ptr wr.heap.size)).trans z1)
                    have t2 := (alloc_frozen (i := j * 3 + 2) (by rw [set_size]; exact hgl2) (.cells Tryz.zeroCells141 tSector)).trans ((set_frozen (w := wr) (b := g2) (i := j * 3 + 1) (j := j * 3 + 2) (ptr wr.heap.size)).trans z2)
                    have HZS := hid hz
                    clear hz v1
                    go_wp2_with fail
                    refine (holds_any g2 (j * 3) wr.heap.size _ _ _ _ u0 u1 u2 t0 t1 t2).mono ?_
                    rintro e w3 ⟨rfl, hw3⟩
                    have HW3 := hid hw3
                    clear hw3
                    go_wp2
                    go_roundw
                    case rel => exact ⟨j + 1, by omega, by go_num, HW2.out.fills hlt2 HG2.out HZ.out (by rw [← HZS.out]) HW3.out⟩
                    case measure => simp [intOf]; omega
                  | some b =>
                    have HZ := hid hsf
                    rw [hsf] at q1
                    have q1' : _ = some (Value.pointer (some ⟨b, 0, none⟩)) := q1
                    clear hsf q1
                    go_wp2_with fail
                    refine (holds_any g2 (j * 3) b _ _ _ _ q0 q1' q2 z0 z1 z2).mono ?_
                    rintro e w3 ⟨rfl, hw3⟩
                    have HW3 := hid hw3
                    clear hw3
                    go_wp2
                    go_roundw
                    case rel => exact ⟨j + 1, by omega, by go_num, HW2.out.stays hlt2 HG2.out HZ.out HW3.out⟩
                    case measure => simp [intOf]; omega
                · obtain rfl : j = Q2.length := by omega
                  clear hW2
                  go_wp2
                  go_ret
                  exact ⟨ret_b HL.out.symm, HEND2.out _ HW2.out⟩
        · have bE : ((endOf (mets l k F.ps) : Int) == 0) = false := by simp [hE]
          have hs : True := trivial
          have hlv : F.lives l k = true := by unfold Fil.lives; simp [hE]
          have HL := hid hlv
          have HF1 := hid hf1
          have HEND := hid (fun (tag2 : Nat → Tag) (v2 : Value) (Q2 : Pls) (wa wb : World) (a : FileAt tag2 wa n f ((⟨mets l k F.ps, F.sure⟩ : Fil).cut (endOf (mets l k F.ps))) v2 Q2) (b : ∀ i, i < wr.heap.size → tag2 i = tag1 i) (c : Chg (fun i => tag1 i = .file n ∨ tag1 i = .row n) wr wa) (h : W2 tag2 n f v2 Q2 wa Q2.length wb) => woken_end (w2 := wb) hfa1 ht1 hc1 HO.out HF.out a b c h)
          clear hf1 hfa1 ht1 hc1 hlv hs hps e0 hE
          go_wp2_with fail
          refine (fcut_any tag1 _ n f _ _ Q4 HF1.out (endOf (mets l k F.ps)) hEle).mono ?_
          rintro e w1 ⟨rfl, tag2, v2, Q2, hf2, ht2, hc2⟩
          have HEND2 := hid (fun (wb : World) (h : W2 tag2 n f v2 Q2 w1 Q2.length wb) => HEND.out tag2 v2 Q2 w1 wb hf2 ht2 hc2 h)
          have HW0 := hid (W2.start hf2)
          have m0 : w1.cell? ⟨f, 0, none⟩ = some v2 := blk_cell hf2.blk 0
          have hlen2 := hf2.len
          have hrow2 := hf2.row.2
          have hgt2 := hf2.tagr
          clear hf2 ht2 hc2
          rcases hrow2 with ⟨hv2, hn2⟩ | ⟨g2, cap2, cur2, hv2, _, _, hn20, hm20, -, -⟩
          · subst hv2
            obtain rfl : Q2 = [] := List.eq_nil_of_length_eq_zero hn2
            clear hn2
            go_wp2
            go_loopw [57] (fun i wr2 => i = .int .i64 0 ∧ wr2 = w1) (fun _ _ => 0)
            case atStart => exact ⟨rfl, rfl⟩
            case round =>
              obtain ⟨rfl, rfl⟩ := hrel
              go_wp2
              go_ret
              exact ⟨ret_b HL.out.symm, HEND2.out _ HW0.out⟩
          · subst hv2
            have hgt3 := hgt2 g2 rfl
            have HG2 : Hid (g2 < w1.heap.size → tag2 g2 = .row n) := hid fun _ => hgt3
            clear hgt2 hgt3
            go_wp2
            go_loopw [57] (fun i wr2 => ∃ j : Nat, j ≤ Q2.length ∧ i = .int .i64 j ∧ W2 tag2 n f (.slice (some ⟨g2, 0, none⟩) Q2.length cap2) Q2 w1 j wr2) (fun i _ => Q2.length - (intOf i).toNat)
            case atStart => exact ⟨0, Nat.zero_le _, rfl, HW0.out⟩
            case round =>
              obtain ⟨j, hj, rfl, hW2⟩ := hrel
              have p0 := hW2.facts
              have HW2 := hid hW2
              by_cases hlt2 : j < Q2.length
              · obtain ⟨q0, q1, q2, z0, z1, z2, hgl2⟩ := hW2.cells hlt2
                clear hW2
                cases hsf : Q2[j].1.safe with
                | none =>
                  have HZ := hid hsf
                  rw [hsf] at q1
                  have q1' : _ = some (Value.pointer none) := q1
                  clear hsf q1
                  have hz := zeroSector
                  have v1 := set_cell_same q1' (ptr wr.heap.size)
                  have u0 := (alloc_cell (i := j * 3) (by rw [set_size]; exact hgl2) (.cells Tryz.zeroCells141 tSector)).trans ((set_cell_off (w := wr) (b := g2) (i := j * 3 + 1) (j := j * 3) (by omega) (ptr wr.heap.size)).trans q0)
                  have u1 := (alloc_cell (i := j * 3 + 1) (by rw [set_size]; exact hgl2) (.cells Tryz.zeroCells141 tSector)).trans v1
                  have u2 := (alloc_cell (i := j * 3 + 2) (by rw [set_size]; exact hgl2) (.cells Tryz.zeroCells141 tSector)).trans ((set_cell_off (w := wr) (b := g2) (i := j * 3 + 1) (j := j * 3 + 2) (by omega) (ptr wr.heap.size)).trans q2)
                  have t0 := (alloc_frozen (i := j * 3) (by rw [set_size]; exact hgl2) (.cells Tryz.zeroCells141 tSector)).trans ((set_frozen (w := wr) (b := g2) (i := j * 3 + 1) (j := j * 3) (ptr wr.heap.size)).trans z0)
                  have t1 := (alloc_frozen (i := j * 3 + 1) (by rw [set_size]; exact hgl2) (.cells Tryz.zeroCells141 tSector)).trans ((set_frozen (w := wr) (b := g2) (i := j * 3 + 1) (j := j * 3 + 1) (ptr wr.heap.size)).trans z1)
                  have t2 := (alloc_frozen (i := j * 3 + 2) (by rw [set_size]; exact hgl2) (.cells Tryz.zeroCells141 tSector)).trans ((set_frozen (w := wr) (b := g2) (i := j * 3 + 1) (j := j * 3 + 2) (ptr wr.heap.size)).trans z2)
                  have HZS := hid hz
                  clear hz v1
                  go_wp2_with fail
                  refine (holds_any g2 (j * 3) wr.heap.size _ _ _ _ u0 u1 u2 t0 t1 t2).mono ?_
                  rintro e w3 ⟨rfl, hw3⟩
                  have HW3 := hid hw3
                  clear hw3
                  go_wp2
                  go_roundw
                  case rel => exact ⟨j + 1, by omega, by go_num, HW2.out.fills hlt2 HG2.out HZ.out (by rw [← HZS.out]) HW3.out⟩
                  case measure => simp [intOf]; omega
                | some b =>
                  have HZ := hid hsf
                  rw [hsf] at q1
                  have q1' : _ = some (Value.pointer (some ⟨b, 0, none⟩)) := q1
                  clear hsf q1
                  go_wp2_with fail
                  refine (holds_any g2 (j * 3) b _ _ _ _ q0 q1' q2 z0 z1 z2).mono ?_
                  rintro e w3 ⟨rfl, hw3⟩
                  have HW3 := hid hw3
                  clear hw3
                  go_wp2
                  go_roundw
                  case rel => exact ⟨j + 1, by omega, by go_num, HW2.out.stays hlt2 HG2.out HZ.out HW3.out⟩
                  case measure => simp [intOf]; omega
              · obtain rfl : j = Q2.length := by omega
                clear hW2
                go_wp2
                go_ret
                exact ⟨ret_b HL.out.symm, HEND2.out _ HW2.out⟩

end Disk
end Go.Proofs.YtgmbiiocjhkpdaaGreat

/-
  Contracts of the project's disk that look: sizes, room for a file, sectors together.
-/
namespace Go.Proofs.YtgmbiiocjhkpdaaGreat
open Go.RowKit
namespace Disk
open Num (hid bcells)

theorem get?_mem {α : Type} {L : List (Nam × α)} {n : Nam} {x : α} (h : get? L n = some x) : (n, x) ∈ L := by
  unfold get? at h
  cases hf : L.find? (fun e => e.1 == n) with
  | none => rw [hf] at h; cases h
  | some e =>
    rw [hf] at h
    have h1 := List.mem_of_find?_eq_some hf
    have h2 := List.find?_some hf
    simp only [Option.map_some, Option.some.injEq] at h
    have h3 : e.1 = n := by simpa using h2
    have : e = (n, x) := by rw [← h, ← h3]
    rw [← this]; exact h1
theorem DiskAt.file {tag : Nat → Tag} {w : World} {d m : Nat} {c : Ctl} {L : Ents} (h : DiskAt tag w d m c L) {n : Nam} {b : Nat} {F : Fil} (hg : get? L n = some (b, F)) : ∃ v Q, FileAt tag w n b F v Q := h.files _ (get?_mem hg)

abbrev tInt0 : TypeId := 3
def sizeN (L : Ents) (n : Nam) : Int := match get? L n with | none => -1 | some x => (x.2.ps.length : Nat)
def canB (L : Ents) (n : Nam) : Bool := (get? L n).isSome || decide (L.length < 8)

set_option maxRecDepth 100000 in
theorem size_any (tag : Nat → Tag) (w : World) (d m : Nat) (c : Ctl) (L : Ents) (D : DiskAt tag w d m c L) (s : ByteArray) (hs : s.size ≤ maxLen) :
    Calls Tryz.prog 38 #[ptr d, .string s] w fun e w' => e = .returned (.int .i64 (sizeN L s.data.toList)) ∧ w = w' := by
  obtain ⟨c0, -, -, -, -, -, -, -⟩ := root_cells D.root.blk
  have hl := D.owns.look s hs
  cases hg : get? L s.data.toList with
  | none =>
    have e : sizeN L s.data.toList = -1 := by unfold sizeN; rw [hg]
    rw [hg] at hl
    have hl2 : _ = Result.ok (Value.pointer none) w := hl
    have HE := hid e
    clear hl hg D e
    go_enter Tryz.func38, Tryz.ntmps38
    go_wp2
    go_ret
    exact ⟨ret_i HE.out.symm, rfl⟩
  | some x =>
    obtain ⟨b, F⟩ := x
    obtain ⟨v, Q, hf⟩ := D.file hg
    have hps : F.ps.length = Q.length := by rw [hf.ps, List.length_map]
    have e : sizeN L s.data.toList = (Q.length : Nat) := by unfold sizeN; rw [hg]; show ((F.ps.length : Nat) : Int) = _; rw [hps]
    rw [hg] at hl
    have hl2 : _ = Result.ok (Value.pointer (some ⟨b, 0, none⟩)) w := hl
    have d0 : w.cell? ⟨b, 0, none⟩ = some v := blk_cell hf.blk 0
    have HE := hid e
    rcases hf.row.2 with ⟨hv, hn⟩ | ⟨g, cap, cur, hv, _, _, hn0, hm0, -, -⟩
    · subst hv
      have HN := hid hn
      clear hl hg D e hf hps hn
      go_enter Tryz.func38, Tryz.ntmps38
      go_wp2
      go_ret
      exact ⟨ret_i (by rw [HE.out, HN.out]; rfl), rfl⟩
    · subst hv
      clear hl hg D e hf hps
      go_enter Tryz.func38, Tryz.ntmps38
      go_wp2
      go_ret
      exact ⟨ret_i HE.out.symm, rfl⟩

set_option maxRecDepth 100000 in
theorem canHold_any (tag : Nat → Tag) (w : World) (d m : Nat) (c : Ctl) (L : Ents) (D : DiskAt tag w d m c L) (s : ByteArray) (hs : s.size ≤ maxLen) :
    Calls Tryz.prog 85 #[ptr d, .string s] w fun e w' => e = .returned (.bool (canB L s.data.toList)) ∧ w = w' := by
  obtain ⟨c0, -, -, -, -, -, -, -⟩ := root_cells D.root.blk
  have hl := D.owns.look s hs
  have hlen : (Builtin.len_ #[tMap] tInt0 #[.map (some m)]).run Tryz.prog w = .ok (.int .i64 L.length) w := by
    have := World.ownsMap.len D.owns Tryz.underlying68 tInt0
    rw [datum_size] at this
    exact this
  cases hg : get? L s.data.toList with
  | none =>
    have e : canB L s.data.toList = decide (L.length < 8) := by unfold canB; rw [hg]; rfl
    rw [hg] at hl
    have hl2 : _ = Result.ok (Value.pointer none) w := hl
    have HE := hid e
    clear hl hg D e
    go_enter Tryz.func85, Tryz.ntmps85
    go_wp2
    go_ret
    exact ⟨ret_b (by rw [HE.out]; simp; omega), rfl⟩
  | some x =>
    obtain ⟨b, F⟩ := x
    have e : canB L s.data.toList = true := by unfold canB; rw [hg]; rfl
    rw [hg] at hl
    have hl2 : _ = Result.ok (Value.pointer (some ⟨b, 0, none⟩)) w := hl
    have HE := hid e
    clear hl hg D e
    go_enter Tryz.func85, Tryz.ntmps85
    go_wp2
    go_ret
    exact ⟨ret_b HE.out.symm, rfl⟩

/-! ### all sectors -/
def lens (L : Ents) : Nat := (L.map fun e => e.2.2.ps.length).sum
/-- The sectors of the files that have come. -/
def came (L : Ents) (left : Lit → Bool) : Nat := lens (L.filter fun e => !left (.string e.1))

theorem came_start (L : Ents) (left : Lit → Bool) (h : ∀ e ∈ L, left (.string e.1) = true) : came L left = 0 := by
  unfold came
  have : L.filter (fun e => !left (.string e.1)) = [] := by
    rw [List.filter_eq_nil_iff]
    intro e he; rw [h e he]; simp
  rw [this]; rfl
theorem came_end (L : Ents) (left : Lit → Bool) (h : ∀ kl, left kl = false) : came L left = lens L := by
  unfold came
  rw [List.filter_eq_self.2 (fun e _ => by rw [h]; rfl)]
theorem lens_cons (e : Nam × (Nat × Fil)) (L : Ents) : lens (e :: L) = e.2.2.ps.length + lens L := by simp [lens]
theorem came_step : ∀ (L : Ents) (left : Lit → Bool) (x : Nam × (Nat × Fil)), (L.map (·.1)).Nodup → x ∈ L → left (.string x.1) = true →
    came L (fun z => left z && !z.sameKey (.string x.1)) = came L left + x.2.2.ps.length
  | [], _, _, _, h, _ => by cases h
  | e :: r, left, x, hn, hx, hl => by
    have hn2 : (r.map (·.1)).Nodup := (List.nodup_cons.1 hn).2
    have hne := (List.nodup_cons.1 hn).1
    rcases List.mem_cons.1 hx with rfl | hx
    · have hr : r.filter (fun e => !(left (.string e.1) && !(Lit.string e.1).sameKey (.string x.1))) = r.filter (fun e => !left (.string e.1)) := by
        refine List.filter_congr fun e he => ?_
        have : e.1 ≠ x.1 := fun h => hne (by have := List.mem_map_of_mem (f := fun e : Nam × (Nat × Fil) => e.1) he; rw [h] at this; exact this)
        have h2 : (Lit.string e.1).sameKey (.string x.1) = false := by
          show (e.1 == x.1) = false
          simp [this]
        rw [h2]; simp
      unfold came
      have h3 : (Lit.string x.1).sameKey (.string x.1) = true := by show (x.1 == x.1) = true; simp
      rw [List.filter_cons_of_pos (by simp [h3]), List.filter_cons_of_neg (by simp [hl]), hr, lens_cons]
      omega
    · have ih := came_step r left x hn2 hx hl
      have hxe : e.1 ≠ x.1 := fun h => hne (by have := List.mem_map_of_mem (f := fun e : Nam × (Nat × Fil) => e.1) hx; rw [← h] at this; exact this)
      have h2 : (Lit.string e.1).sameKey (.string x.1) = false := by
        show (e.1 == x.1) = false
        simp [hxe]
      unfold came at ih ⊢
      by_cases he : left (.string e.1) = true
      · rw [List.filter_cons_of_neg (by simp [he, h2]), List.filter_cons_of_neg (by simp [he])]
        exact ih
      · simp only [Bool.not_eq_true] at he
        rw [List.filter_cons_of_pos (by simp [he]), List.filter_cons_of_pos (by simp [he]), lens_cons, lens_cons, ih]
        omega
theorem came_le (L : Ents) (left : Lit → Bool) : came L left ≤ lens L := by
  unfold came lens
  induction L with
  | nil => exact Nat.le_refl _
  | cons e r ih =>
    by_cases h : left (.string e.1) = true
    · rw [List.filter_cons_of_neg (by rw [h]; simp), List.map_cons, List.sum_cons]; omega
    · simp only [Bool.not_eq_true] at h
      rw [List.filter_cons_of_pos (by rw [h]; simp), List.map_cons, List.sum_cons, List.map_cons, List.sum_cons]; omega

theorem bytesBefore_irrefl : ∀ a : List UInt8, bytesBefore a a = false
  | [] => rfl
  | x :: r => by
    show (decide (x < x) || (x == x && bytesBefore r r)) = false
    rw [bytesBefore_irrefl r]
    simp
theorem Rises.nodup {L : Ents} (h : Rises L) : (L.map (·.1)).Nodup := by
  unfold List.Nodup
  rw [List.pairwise_map]
  exact h.imp fun {a b} hab e => by rw [e, bytesBefore_irrefl] at hab; cases hab
theorem lens_le (tag : Nat → Tag) (w : World) (d m : Nat) (c : Ctl) (L : Ents) (D : DiskAt tag w d m c L) : lens L ≤ 131072 := by
  have : ∀ L : Ents, (∀ e ∈ L, e.2.2.ps.length ≤ 16384) → lens L ≤ L.length * 16384 := by
    intro L h
    induction L with
    | nil => exact Nat.le_refl _
    | cons e r ih =>
      have h1 := h e (List.mem_cons_self ..)
      have h2 := ih (fun e he => h e (List.mem_cons_of_mem _ he))
      rw [lens_cons, List.length_cons]; omega
  have h1 := this L (fun e he => by
    obtain ⟨v, Q, hf⟩ := D.files e he
    rw [hf.ps, List.length_map]; exact hf.len)
  have := D.few
  omega

theorem datum_at2 (L : Ents) (n : Nam) (z : DataW Unit) : (datum L).atKey (.string n) z = match get? L n with | some x => .lit (.int .u64 (x.1 : Int)) | none => z := by
  unfold datum get? DataW.atKey
  simp only [List.find?_map]
  have e : ((fun p : Lit × DataW Unit => p.1.sameKey (.string n)) ∘ fun e : Nam × (Nat × Fil) => (Lit.string e.1, DataW.lit (.int .u64 (e.2.1 : Int)))) = fun e => e.1 == n := by funext e; rfl
  rw [e]
  cases List.find? (fun e : Nam × (Nat × Fil) => e.1 == n) L <;> rfl
theorem datum_has (L : Ents) (e : Nam × (Nat × Fil)) (he : e ∈ L) : Maps.has (datum L) (.string e.1) = true := by
  unfold datum
  rw [Maps.has_eq, List.any_eq_true]
  refine ⟨_, List.mem_map_of_mem he, ?_⟩
  show (e.1 == e.1) = true
  simp
theorem key_inv {x : ByteArray} {kl : Lit} (h : keyOf Tryz.prog tStr (.string x) = some kl) : kl = .string x.data.toList := by
  simp [keyOf, Tryz.underlying9, mapKey] at h
  exact h.2.symm
/-- Who has come. -/
theorem came_who {L : Ents} {x : ByteArray} {kl : Lit} {o : Option Nat} {y : DataW Unit} {ps : List MemPlace} (hk : keyOf Tryz.prog tStr (.string x) = some kl) (hy : RP (ptrO o) = some (y, ps)) (hat : ∀ z, (datum L).atKey kl z = y) :
    ∃ b F, kl = .string x.data.toList ∧ get? L x.data.toList = some (b, F) ∧ o = some b := by
  obtain rfl := key_inv hk
  have h1 := hat .nil
  have h2 := hat (.lit (.bool true))
  rw [datum_at2] at h1 h2
  cases hg : get? L x.data.toList with
  | none => rw [hg] at h1 h2; rw [← h1] at h2; cases h2
  | some z =>
    rw [hg] at h1
    refine ⟨z.1, z.2, rfl, rfl, ?_⟩
    have h1' : DataW.lit (.int .u64 (z.1 : Int)) = y := h1
    have h3 : RP (ptrO o) = some (.lit (.int .u64 (z.1 : Int)), ps) := by rw [hy, h1']
    have h4 := RP_lit h3
    cases o with
    | none => cases h4
    | some b => cases h4; rfl

set_option maxRecDepth 100000 in
theorem sectors_any (tag : Nat → Tag) (w : World) (d m : Nat) (c : Ctl) (L : Ents) (D : DiskAt tag w d m c L) :
    Calls Tryz.prog 94 #[ptr d] w fun e w' => e = .returned (.int .i64 (lens L : Nat)) ∧ Below w.heap.size w w' := by
  obtain ⟨c0, -, -, -, -, -, -, -⟩ := root_cells D.root.blk
  have hown : w.ownsMap Tryz.prog tStr RP m L.length (datum L) := D.owns
  have hle := lens_le tag w d m c L D
  go_enter Tryz.func94, Tryz.ntmps94
  go_wp2_with (first | (at_range; refine wpList_range_own _ rfl _ _ rfl tStr _ strKeyed Tryz.underlying68 _ m _ _ rfl hown ?_; intro w0 hrg0 hg0 hs0) | go_in)
  go_frame
  go_loopw [3] (fun s wr => ∃ left cnt, s = .int .i64 (came L left : Nat) ∧ wr.ranges Tryz.prog tStr RP m w.heap.size L.length (datum L) left cnt ∧ Below w.heap.size w wr) (fun _ wr => wr.rangeLeft m w.heap.size)
  case atStart => exact ⟨_, _, by rw [came_start L _ (fun e he => datum_has L e he)]; rfl, hrg0, (Below.refl _ w).grown hg0 (Nat.le_refl _) (fun k hk => by cases hk)⟩
  case round =>
    obtain ⟨left, cnt, rfl, hrg, hbw⟩ := hrel
    go_wp2_with (first | (at_next; refine wpList_next_ranges _ rfl _ rfl tStr strKeyed RP Value.string ptrO (fun key kl h => Maps.keyOf_string_inv Tryz.underlying9 h) (fun v y h => RP_inv h) m w.heap.size _ _ _ _ rfl hrg ?_ ?_) | go_in)
    · intro hc0 hl0
      have HL := hid hl0
      clear hl0
      go_wp2
      go_ret
      exact ⟨ret_i (by rw [came_end L left HL.out]), hbw⟩
    · intro x o kl y yp w1 cnt1 hkx hlx hy hat hrg1 hlt hg1 hs1 hen
      obtain ⟨b, F, rfl, hget, rfl⟩ := came_who hkx hy hat
      obtain ⟨v, Q, hf⟩ := D.file hget
      have hb1 : Below w.heap.size w w1 := hbw.grown hg1 hbw.size (fun k hk => by cases hk; exact Nat.le_refl _)
      have hps : F.ps.length = Q.length := by rw [hf.ps, List.length_map]
      have hqle := hf.len
      have d0 : w1.cell? ⟨b, 0, none⟩ = some v := (hb1.cell (p := ⟨b, 0, none⟩) (lt_of_block hf.blk)).trans (blk_cell hf.blk 0)
      have hstep := came_step L left _ D.owns.rises.nodup (get?_mem hget) hlx
      have hcl := came_le L left
      have HST := hid hstep
      have HB := hid hb1
      have HRG := hid hrg
      have HRG1 := hid hrg1
      have HPS := hid hps
      have hen2 : _ = Result.ok (Value.tuple #[.string x, .pointer (some ⟨b, 0, none⟩)]) w1 := hen
      have HLT := hid hlt
      rcases hf.row.2 with ⟨hv, hn⟩ | ⟨g, cap, cur, hv, _, _, hn0, hm0, -, -⟩
      · subst hv
        have HN := hid hn
        clear hrg hrg1 hkx hlx hy hat hlt hg1 hs1 hen hb1 hps hstep hget hf hbw hn
        go_wp2
        go_roundw
        case rel => exact ⟨_, _, by rw [HST.out]; show _ = Value.int .i64 ((came L left + F.ps.length : Nat) : Int); rw [HPS.out, HN.out]; rfl, HRG1.out, HB.out⟩
        case measure => rw [HRG1.out.left_eq, HRG.out.left_eq]; exact HLT.out
      · subst hv
        clear hrg hrg1 hkx hlx hy hat hlt hg1 hs1 hen hb1 hps hstep hget hf hbw
        go_wp2
        go_roundw
        case rel => exact ⟨_, _, by rw [HST.out]; show _ = Value.int .i64 ((came L left + F.ps.length : Nat) : Int); rw [HPS.out]; go_num, HRG1.out, HB.out⟩
        case measure => rw [HRG1.out.left_eq, HRG.out.left_eq]; exact HLT.out

end Disk
end Go.Proofs.YtgmbiiocjhkpdaaGreat
