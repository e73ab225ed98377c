/-
  How a disk of the project lies in memory: the struct, the map, files, rows of places, sectors; what a call may turn.
-/
import Derived.Test.YtiomojidfkpagaaDiskMath
import Derived.Test.YtiomojidfkpagaaNumBits
import Derived.Test.YtiomojidfkpagaaNumOwn
import Derived.Test.YtiomojidfkpagaaChecked
import Derived.OneCell
import Derived.Maps.OwnSet
import Derived.StringKeys
import Derived.Maps.RangeWalk
import Derived.Maps.Ext
import Derived.WalkKit
import Derived.WalkSpells
import Derived.WalkLawsBesides
namespace Go.Proofs.Ytiomojidfkpagaa
open Go.RowKit
namespace Disk
open Num (hid bcells)

/-! ### blocks -/
theorem blk_cell {w : World} {b : Nat} {c : Array Value} {t : TypeId} (h : w.heap[b]? = some (.cells c t (0, 0))) (i : Nat) : w.cell? ⟨b, i, none⟩ = c[i]? := by simp [World.cell?, h]
theorem blk_free {w : World} {b : Nat} {c : Array Value} {t : TypeId} (h : w.heap[b]? = some (.cells c t (0, 0))) (i : Nat) : w.frozen? ⟨b, i, none⟩ = false := by simp [World.frozen?, h]
theorem blk_set {w : World} {b : Nat} {c : Array Value} {t : TypeId} (h : w.heap[b]? = some (.cells c t (0, 0))) (i : Nat) (v : Value) : (w.setCell ⟨b, i, none⟩ v).heap[b]? = some (.cells (c.setIfInBounds i v) t (0, 0)) := by
  have hlt := lt_of_block h
  have h' : w.heap[b] = .cells c t (0, 0) := by simpa [Array.getElem?_eq_getElem hlt] using h
  show (w.heap.modify b _)[b]? = _
  rw [Array.getElem?_eq_getElem (by simpa using hlt), Array.getElem_modify_self, h']
  rfl
theorem blk_new (w : World) (o : Obj) : (w.alloc o).heap[w.heap.size]? = some o := by
  show (w.heap.push o)[w.heap.size]? = some o
  simp
theorem blk_other {w : World} {b : Nat} {o : Obj} (h : w.heap[b]? = some o) {p : Addr} (hp : b ≠ p.block) (v : Value) : (w.setCell p v).heap[b]? = some o := (Below.heap_setCell w p v b hp).trans h
theorem blk_alloc {w : World} {b : Nat} {o : Obj} (h : w.heap[b]? = some o) (o' : Obj) : (w.alloc o').heap[b]? = some o := (Below.heap_alloc w o' b (lt_of_block h)).trans h

theorem alloc_cell {w : World} {b i : Nat} (h : b < w.heap.size) (o : Obj) : (w.alloc o).cell? ⟨b, i, none⟩ = w.cell? ⟨b, i, none⟩ := World.cell?_of_block (Below.heap_alloc w o b h)
theorem alloc_frozen {w : World} {b i : Nat} (h : b < w.heap.size) (o : Obj) : (w.alloc o).frozen? ⟨b, i, none⟩ = w.frozen? ⟨b, i, none⟩ := World.frozen?_of_block (Below.heap_alloc w o b h)

theorem set_cell_other {w : World} {p : Addr} {b i : Nat} (h : b ≠ p.block) (v : Value) : (w.setCell p v).cell? ⟨b, i, none⟩ = w.cell? ⟨b, i, none⟩ := World.cell?_of_block (Below.heap_setCell w p v b h)
theorem set_frozen_other {w : World} {p : Addr} {b i : Nat} (h : b ≠ p.block) (v : Value) : (w.setCell p v).frozen? ⟨b, i, none⟩ = w.frozen? ⟨b, i, none⟩ := World.frozen?_of_block (Below.heap_setCell w p v b h)
theorem set_size (w : World) (p : Addr) (v : Value) : (w.setCell p v).heap.size = w.heap.size := by simp [World.setCell]

theorem set_cell_off {w : World} {b i j : Nat} (h : i ≠ j) (v : Value) : (w.setCell ⟨b, i, none⟩ v).cell? ⟨b, j, none⟩ = w.cell? ⟨b, j, none⟩ := by
  cases hb : w.heap[b]? with
  | none => simp [World.cell?, World.setCell, Array.getElem?_modify, hb]
  | some o => cases o <;> simp [World.cell?, World.setCell, Array.getElem?_modify, hb, h]
theorem set_cell_same {w : World} {b i : Nat} {x : Value} (h : w.cell? ⟨b, i, none⟩ = some x) (v : Value) : (w.setCell ⟨b, i, none⟩ v).cell? ⟨b, i, none⟩ = some v := by
  cases hb : w.heap[b]? with
  | none => simp [World.cell?, hb] at h
  | some o =>
    cases o <;> simp [World.cell?, hb] at h
    rename_i c e fr
    have hi : i < c.size := (Array.getElem?_eq_some_iff.1 h).1
    simp [World.cell?, World.setCell, Array.getElem?_modify, hb, hi]
theorem set_frozen {w : World} {b i j : Nat} (v : Value) : (w.setCell ⟨b, i, none⟩ v).frozen? ⟨b, j, none⟩ = w.frozen? ⟨b, j, none⟩ := by
  cases hb : w.heap[b]? with
  | none => simp [World.frozen?, World.setCell, Array.getElem?_modify, hb]
  | some o => cases o <;> simp [World.frozen?, World.setCell, Array.getElem?_modify, hb]

/-! ### what a call may turn -/
structure Chg (F : Nat → Prop) (w w' : World) : Prop where
  os : w'.os = w.os
  tape : w'.tape = w.tape
  output : w'.output = w.output
  size : w.heap.size ≤ w'.heap.size
  block : ∀ k, k < w.heap.size → ¬ F k → w'.heap[k]? = w.heap[k]?

theorem Chg.refl (F : Nat → Prop) (w : World) : Chg F w w := ⟨rfl, rfl, rfl, Nat.le_refl _, fun _ _ _ => rfl⟩
theorem Chg.trans {F : Nat → Prop} {a b c : World} (h : Chg F a b) (k : Chg F b c) : Chg F a c :=
  ⟨k.os.trans h.os, k.tape.trans h.tape, k.output.trans h.output, Nat.le_trans h.size k.size, fun i hi hF => (k.block i (Nat.lt_of_lt_of_le hi h.size) hF).trans (h.block i hi hF)⟩
theorem Chg.mono {F G : Nat → Prop} {w w' : World} (h : Chg F w w') (hG : ∀ k, k < w.heap.size → F k → G k) : Chg G w w' := ⟨h.os, h.tape, h.output, h.size, fun k hk hF => h.block k hk (fun e => hF (hG k hk e))⟩
theorem Chg.of_below {F : Nat → Prop} {w w' : World} (h : Below w.heap.size w w') : Chg F w w' := ⟨h.os, h.tape, h.output, h.size, fun k hk _ => h.block k hk⟩
theorem Chg.drew {F : Nat → Prop} {a w : World} (h : Chg F a w) : Chg F a w.drew := ⟨h.os, h.tape, h.output, h.size, h.block⟩
theorem Chg.drewN {F : Nat → Prop} {a w : World} (h : Chg F a w) (q : Nat) : Chg F a (w.drewN q) := ⟨h.os, h.tape, h.output, h.size, h.block⟩
theorem Chg.alloc {F : Nat → Prop} {a w : World} (h : Chg F a w) (o : Obj) : Chg F a (w.alloc o) :=
  ⟨h.os, h.tape, h.output, by have := h.size; simp; omega, fun k hk hF => (Below.heap_alloc _ _ _ (Nat.lt_of_lt_of_le hk h.size)).trans (h.block k hk hF)⟩
theorem Chg.setCell {F : Nat → Prop} {a w : World} (h : Chg F a w) {p : Addr} (hp : a.heap.size ≤ p.block ∨ F p.block) (u : Value) : Chg F a (w.setCell p u) :=
  ⟨h.os, h.tape, h.output, by have := h.size; simpa [World.setCell] using this, fun k hk hF => (Below.heap_setCell _ _ _ _ (by
    rintro rfl
    rcases hp with hp | hp
    · omega
    · exact hF hp)).trans (h.block k hk hF)⟩
theorem Chg.grown {F : Nat → Prop} {a w w' : World} {row : Option Nat} (h : Chg F a w) (hg : w.grownBy w' row) (hr : ∀ k, row = some k → a.heap.size ≤ k ∨ F k) : Chg F a w' :=
  ⟨hg.os.trans h.os, hg.tape.trans h.tape, hg.output.trans h.output, Nat.le_trans h.size hg.size, fun k hk hF => (hg.block k (Nat.lt_of_lt_of_le hk h.size) (by
    intro e
    rcases hr k e.symm with h1 | h1
    · omega
    · exact hF h1)).trans (h.block k hk hF)⟩
/-- A call on the way that turns some of the same. -/
theorem Chg.then {F G : Nat → Prop} {a b c : World} (h : Chg F a b) (k : Chg G b c) (hG : ∀ i, i < b.heap.size → G i → a.heap.size ≤ i ∨ F i) : Chg F a c :=
  ⟨k.os.trans h.os, k.tape.trans h.tape, k.output.trans h.output, Nat.le_trans h.size k.size, fun i hi hF => (k.block i (Nat.lt_of_lt_of_le hi h.size) (fun e => by
    rcases hG i (Nat.lt_of_lt_of_le hi h.size) e with h1 | h1
    · omega
    · exact hF h1)).trans (h.block i hi hF)⟩
theorem Chg.below {F : Nat → Prop} {w w' : World} {B : Nat} (h : Chg F w w') (hB : B ≤ w.heap.size) (hF : ∀ k, k < B → ¬ F k) : Below B w w' := ⟨h.os, h.tape, h.output, h.size, fun k hk => h.block k (by omega) (hF k hk)⟩
theorem Chg.at {F : Nat → Prop} {w w' : World} (h : Chg F w w') {b : Nat} {o : Obj} (hb : w.heap[b]? = some o) (hF : ¬ F b) : w'.heap[b]? = some o := (h.block b (lt_of_block hb) hF).trans hb

theorem Chg.cell {F : Nat → Prop} {w w' : World} (h : Chg F w w') {b i : Nat} (hb : b < w.heap.size) (hF : ¬ F b) : w'.cell? ⟨b, i, none⟩ = w.cell? ⟨b, i, none⟩ := World.cell?_of_block (h.block b hb hF)
theorem Chg.frozen {F : Nat → Prop} {w w' : World} (h : Chg F w w') {b i : Nat} (hb : b < w.heap.size) (hF : ¬ F b) : w'.frozen? ⟨b, i, none⟩ = w.frozen? ⟨b, i, none⟩ := World.frozen?_of_block (h.block b hb hF)

/-! ### who owns what -/
inductive Tag
  | other
  | root
  | dir
  | file (n : Nam)
  | row (n : Nam)
  | sec
def upd (tag : Nat → Tag) (b : Nat) (t : Tag) : Nat → Tag := fun k => if k = b then t else tag k
theorem upd_same (tag : Nat → Tag) (b : Nat) (t : Tag) : upd tag b t b = t := by simp [upd]
theorem upd_ne (tag : Nat → Tag) {b k : Nat} (t : Tag) (h : k ≠ b) : upd tag b t k = tag k := by simp [upd, h]

abbrev tPlace : TypeId := 139
abbrev tSector : TypeId := 142
abbrev tFile : TypeId := 99
abbrev tDisk : TypeId := 87

abbrev ptr (b : Nat) : Value := .pointer (some ⟨b, 0, none⟩)
def ptrO : Option Nat → Value
  | none => .pointer none
  | some b => ptr b
/-- Where the sectors of a place lie. -/
structure PQ where
  now : Nat
  safe : Option Nat
  waits : Bool
def PQ.cells (q : PQ) : List Value := [ptr q.now, ptrO q.safe, .bool q.waits]
def secCells (s : Sec) : Array Value := (bcells (s.getD zeros) ++ [Value.bool s.isNone]).toArray
structure SecAt (tag : Nat → Tag) (w : World) (b : Nat) (s : Sec) : Prop where
  tag : tag b = .sec
  len : (s.getD zeros).length = 256
  blk : w.heap[b]? = some (.cells (secCells s) tSector (0, 0))
def SafeAt (tag : Nat → Tag) (w : World) : Option Nat → Option Sec → Prop
  | none, none => True
  | some b, some s => SecAt tag w b s
  | _, _ => False
structure PlcAt (tag : Nat → Tag) (w : World) (q : PQ) (p : Plc) : Prop where
  now : SecAt tag w q.now p.now
  safe : SafeAt tag w q.safe p.safe
  waits : q.waits = p.waits
abbrev Pls := List (PQ × Plc)
def Pls.cells (Q : Pls) : List Value := Q.flatMap fun x => x.1.cells
structure FileAt (tag : Nat → Tag) (w : World) (n : Nam) (b : Nat) (F : Fil) (v : Value) (Q : Pls) : Prop where
  blk : w.heap[b]? = some (.cells #[v, .bool F.sure] tFile (0, 0))
  tagb : tag b = .file n
  row : w.ownsRow 0 tPlace 3 v Q.length (Pls.cells Q)
  tagr : ∀ g, v.ownBlock = some g → tag g = .row n
  pls : ∀ x ∈ Q, PlcAt tag w x.1 x.2
  ps : F.ps = Q.map (·.2)
  len : Q.length ≤ 16384

/-- A file lies as it lay where neither it nor its row nor a sector is turned, and what is marked stays so. -/
theorem SecAt.kept {tag tag' : Nat → Tag} {w w' : World} {F : Nat → Prop} {b : Nat} {s : Sec} (h : SecAt tag w b s) (hc : Chg F w w') (ht : ∀ k, k < w.heap.size → tag' k = tag k) (hF : ∀ k, F k → tag k ≠ .sec) : SecAt tag' w' b s :=
  ⟨(ht b (lt_of_block h.blk)).trans h.tag, h.len, hc.at h.blk (fun e => hF b e h.tag)⟩
theorem SafeAt.kept {tag tag' : Nat → Tag} {w w' : World} {F : Nat → Prop} {b : Option Nat} {s : Option Sec} (h : SafeAt tag w b s) (hc : Chg F w w') (ht : ∀ k, k < w.heap.size → tag' k = tag k) (hF : ∀ k, F k → tag k ≠ .sec) : SafeAt tag' w' b s := by
  cases b <;> cases s
  · trivial
  · exact h.elim
  · exact h.elim
  · exact SecAt.kept h hc ht hF
theorem PlcAt.kept {tag tag' : Nat → Tag} {w w' : World} {F : Nat → Prop} {q : PQ} {p : Plc} (h : PlcAt tag w q p) (hc : Chg F w w') (ht : ∀ k, k < w.heap.size → tag' k = tag k) (hF : ∀ k, F k → tag k ≠ .sec) : PlcAt tag' w' q p :=
  ⟨h.now.kept hc ht hF, h.safe.kept hc ht hF, h.waits⟩
theorem row_kept {w w' : World} {F : Nat → Prop} {base : Nat} {e : TypeId} {k : Nat} {v : Value} {n : Nat} {xs : List Value} (h : w.ownsRow base e k v n xs) (hc : Chg F w w') (hF : ∀ g, v.ownBlock = some g → ¬ F g) : w'.ownsRow base e k v n xs := by
  obtain ⟨h1, h2⟩ := h
  refine ⟨h1, ?_⟩
  rcases h2 with h2 | ⟨g, cap, cur, hv, hg, hh, r⟩
  · exact Or.inl h2
  · subst hv
    exact Or.inr ⟨g, cap, cur, rfl, hg, hc.at hh (hF g rfl), r⟩
theorem FileAt.kept {tag tag' : Nat → Tag} {w w' : World} {F : Nat → Prop} {n : Nam} {b : Nat} {f : Fil} {v : Value} {Q : Pls} (h : FileAt tag w n b f v Q) (hc : Chg F w w') (ht : ∀ k, k < w.heap.size → tag' k = tag k)
    (hF : ∀ k, F k → tag k ≠ .sec ∧ tag k ≠ .file n ∧ tag k ≠ .row n) : FileAt tag' w' n b f v Q := by
  refine ⟨hc.at h.blk (fun e => (hF b e).2.1 h.tagb), (ht b (lt_of_block h.blk)).trans h.tagb, row_kept h.row hc (fun g hg e => (hF g e).2.2 (h.tagr g hg)), ?_, fun x hx => (h.pls x hx).kept hc ht (fun k hk => (hF k hk).1), h.ps, h.len⟩
  intro g hg
  exact (ht g (h.row.lt g hg).2).trans (h.tagr g hg)

/-! ### the map of files -/
abbrev tStr : TypeId := 9
abbrev tMap : TypeId := 83
theorem strKeyed : Maps.Keyed Try.prog tStr := Maps.string_keyed Try.underlying9
theorem zeroFile (w : World) : (zeroValue 96).run Try.prog w = .ok (.pointer none) w := by
  have h : (Try.prog.info? 96).map (fun i => i.zero) = some (some (.pointer none)) := by kernel_rfl
  exact Try.zeroValue96 w
/-- How a pointer to a file reads. -/
def RP : Value → Option (DataW Unit × List MemPlace)
  | .pointer (some ⟨b, 0, none⟩) => some (.lit (.int .u64 (b : Int)), [])
  | .pointer none => some (.nil, [])
  | _ => none
theorem RP_inv {v : Value} {y : DataW Unit × List MemPlace} (h : RP v = some y) : ∃ o : Option Nat, v = ptrO o := by
  match v, h with
  | .pointer (some ⟨b, 0, none⟩), _ => exact ⟨some b, rfl⟩
  | .pointer none, _ => exact ⟨none, rfl⟩
theorem RP_lit {v : Value} {b : Nat} {ps : List MemPlace} (h : RP v = some (.lit (.int .u64 (b : Int)), ps)) : v = ptr b := by
  match v, h with
  | .pointer (some ⟨c, 0, none⟩), h => simp only [RP, Option.some.injEq, Prod.mk.injEq, DataW.lit.injEq, Lit.int.injEq] at h; obtain ⟨⟨_, h⟩, _⟩ := h; obtain rfl : c = b := (by omega); rfl
theorem RP_nil {v : Value} {ps : List MemPlace} (h : RP v = some (.nil, ps)) : v = .pointer none := by
  match v, h with
  | .pointer (some ⟨c, 0, none⟩), h => simp [RP] at h
  | .pointer none, _ => rfl

abbrev Ents := List (Nam × (Nat × Fil))
def datum (L : Ents) : DataW Unit := .map (L.map fun e => (Lit.string e.1, DataW.lit (.int .u64 (e.2.1 : Int))))
def Owns (w : World) (m : Nat) (L : Ents) : Prop := w.ownsMap Try.prog tStr RP m L.length (datum L)

theorem datum_size (L : Ents) : Maps.size (datum L) = L.length := by simp [datum, Maps.size]
theorem datum_at (L : Ents) (n : Nam) : (datum L).atKey (.string n) .nil = match get? L n with | some x => .lit (.int .u64 (x.1 : Int)) | none => .nil := by
  unfold datum get? DataW.atKey
  simp only [List.find?_map]
  have e : ((fun p : Lit × DataW Unit => p.1.sameKey (.string n)) ∘ fun e : Nam × (Nat × Fil) => (Lit.string e.1, DataW.lit (.int .u64 (e.2.1 : Int)))) = fun e => e.1 == n := by funext e; rfl
  rw [e]
  cases List.find? (fun e : Nam × (Nat × Fil) => e.1 == n) L <;> rfl
theorem datum_insB (x : Nam × (Nat × Fil)) : ∀ L : Ents, (DataW.insert (Lit.string x.1, DataW.lit (.int .u64 (x.2.1 : Int))) (L.map fun e => (Lit.string e.1, (DataW.lit (.int .u64 (e.2.1 : Int)) : DataW Unit)))) = (insB x L).map fun e => (Lit.string e.1, DataW.lit (.int .u64 (e.2.1 : Int)))
  | [] => rfl
  | y :: r => by
    simp only [List.map_cons, DataW.insert, insB]
    have e : Lit.before (.string x.1) (.string y.1) = bytesBefore x.1 y.1 := rfl
    rw [e]
    cases bytesBefore x.1 y.1
    · simp only [Bool.false_eq_true, if_false, List.map_cons, datum_insB x r]
    · simp
theorem datum_filter (L : Ents) (n : Nam) : (L.map fun e => (Lit.string e.1, (DataW.lit (.int .u64 (e.2.1 : Int)) : DataW Unit))).filter (ChangeMaps.notKey (.string n)) = (del L n).map fun e => (Lit.string e.1, DataW.lit (.int .u64 (e.2.1 : Int))) := by
  unfold del
  rw [List.filter_map]
  rfl
theorem datum_put (L : Ents) (n : Nam) (b : Nat) (F : Fil) : (datum L).put (.string n) (.lit (.int .u64 (b : Int))) = datum (ins L n (b, F)) := by
  unfold datum ins
  rw [DataW.put_eq]
  unfold ChangeMaps.putKey
  rw [datum_filter, datum_insB (n, (b, F))]
theorem datum_del (L : Ents) (n : Nam) : (datum L).del (.string n) = datum (del L n) := by
  unfold datum
  rw [DataW.del_eq]
  unfold ChangeMaps.delKey
  exact congrArg DataW.map (datum_filter L n)

theorem Owns.tight {w : World} {m n : Nat} {L : Ents} (h : w.ownsMap Try.prog tStr RP m n (datum L)) : Owns w m L := by
  obtain ⟨es, clock, hb, F, hs, hD⟩ := h
  refine ⟨es, clock, hb, F, ?_, hD⟩
  have e1 := congrArg Maps.size hD
  rw [datum_size] at e1
  simp [Maps.size, length_sorted] at e1
  omega
theorem keyS {s : ByteArray} (hs : s.size ≤ maxLen) : keyOf Try.prog tStr (.string s) = some (.string s.data.toList) := WideMaps.keyOf_string_mk Try.underlying9 hs
theorem Owns.look {w : World} {m : Nat} {L : Ents} (h : Owns w m L) (s : ByteArray) (hs : s.size ≤ maxLen) :
    (Instr.lookup tMap (.map (some m)) (.string s) false).run Try.prog w = .ok (ptrO ((get? L s.data.toList).map (·.1))) w := by
  obtain ⟨v, ps, hrun, hv⟩ := World.ownsMap.lookup h strKeyed Try.underlying83 (zeroFile w) (zd := .nil) (zp := []) rfl (keyS hs)
  rw [datum_at] at hv
  cases hg : get? L s.data.toList with
  | none => rw [hg] at hv; rw [hrun, RP_nil hv]; rfl
  | some x => rw [hg] at hv; rw [hrun, RP_lit hv]; rfl
theorem Owns.put {w : World} {m : Nat} {L : Ents} (h : Owns w m L) (s : ByteArray) (hs : s.size ≤ maxLen) (hL : L.length < maxLen) (b : Nat) (F : Fil) :
    ∃ w', (Instr.mapUpdate tMap (.map (some m)) (.string s) (ptr b)).run Try.prog w = .ok () w' ∧ Owns w' m (ins L s.data.toList (b, F)) ∧ w.mapTurned w' m := by
  obtain ⟨w', hrun, ho, ht⟩ := World.ownsMap.store h strKeyed Try.underlying83 hL (keyS hs) (val := ptr b) (d := .lit (.int .u64 (b : Int))) (ps := []) rfl
  rw [datum_put L _ b F] at ho
  exact ⟨w', hrun, Owns.tight ho, ht⟩
theorem Owns.drop {w : World} {m : Nat} {L : Ents} (h : Owns w m L) (s : ByteArray) (hs : s.size ≤ maxLen) (ty : TypeId) :
    ∃ w', (Builtin.delete_ #[tMap, tStr] ty #[.map (some m), .string s]).run Try.prog w = .ok (.tuple #[]) w' ∧ Owns w' m (del L s.data.toList) ∧ w.mapTurned w' m := by
  obtain ⟨w', hrun, ho, ht⟩ := World.ownsMap.drop h strKeyed Try.underlying83 (keyS hs) ty
  rw [datum_del] at ho
  exact ⟨w', hrun, Owns.tight ho, ht⟩
theorem Owns.kept {w w' : World} {m : Nat} {L : Ents} {F : Nat → Prop} (h : Owns w m L) (hc : Chg F w w') (hF : ¬ F m) : Owns w' m L := by
  obtain ⟨es, clock, hb, r⟩ := h
  exact ⟨es, clock, hc.at hb hF, r⟩
theorem Owns.at {w : World} {m : Nat} {L : Ents} (h : Owns w m L) : ∃ es clock, w.heap[m]? = some (.map es clock) := by
  obtain ⟨es, clock, hb, r⟩ := h
  exact ⟨es, clock, hb⟩
/-- The names rise. -/
def Rises (L : Ents) : Prop := L.Pairwise fun p q => bytesBefore p.1 q.1 = true
theorem Owns.rises {w : World} {m : Nat} {L : Ents} (h : Owns w m L) : Rises L := by
  obtain ⟨es, he, hp, _⟩ := World.ownsMap.canon h strKeyed
  simp only [datum, DataW.map.injEq] at he
  rw [← he, List.pairwise_map] at hp
  exact hp

/-! ### the disk -/
def rootCells (m : Nat) (c : Ctl) : Array Value := #[.map (some m), .int .i64 c.room, .int .i64 c.kind, .int .i64 c.at_, .int .i64 c.more, .bool c.down, .int .i64 c.ops, .int .i64 c.life]
structure RootAt (tag : Nat → Tag) (w : World) (d m : Nat) (c : Ctl) : Prop where
  blk : w.heap[d]? = some (.cells (rootCells m c) tDisk (0, 0))
  tagd : tag d = .root
  tagm : tag m = .dir
  ok : c.Ok
def FilesAt (tag : Nat → Tag) (w : World) (L : Ents) : Prop := ∀ e ∈ L, ∃ v Q, FileAt tag w e.1 e.2.1 e.2.2 v Q
structure DiskAt (tag : Nat → Tag) (w : World) (d m : Nat) (c : Ctl) (L : Ents) : Prop where
  root : RootAt tag w d m c
  owns : Owns w m L
  files : FilesAt tag w L
  few : L.length ≤ 8

theorem RootAt.kept {tag tag' : Nat → Tag} {w w' : World} {d m : Nat} {c : Ctl} {F : Nat → Prop} (h : RootAt tag w d m c) (hm : m < w.heap.size) (hc : Chg F w w') (ht : ∀ k, k < w.heap.size → tag' k = tag k) (hF : ¬ F d) : RootAt tag' w' d m c :=
  ⟨hc.at h.blk hF, (ht d (lt_of_block h.blk)).trans h.tagd, (ht m hm).trans h.tagm, h.ok⟩
theorem FilesAt.kept {tag tag' : Nat → Tag} {w w' : World} {L : Ents} {F : Nat → Prop} (h : FilesAt tag w L) (hc : Chg F w w') (ht : ∀ k, k < w.heap.size → tag' k = tag k)
    (hF : ∀ k, F k → tag k ≠ .sec ∧ ∀ n, tag k ≠ .file n ∧ tag k ≠ .row n) : FilesAt tag' w' L := fun e he => by
  obtain ⟨v, Q, hf⟩ := h e he
  exact ⟨v, Q, hf.kept hc ht fun k hk => ⟨(hF k hk).1, (hF k hk).2 e.1⟩⟩
theorem DiskAt.mlt {tag : Nat → Tag} {w : World} {d m : Nat} {c : Ctl} {L : Ents} (h : DiskAt tag w d m c L) : m < w.heap.size := by
  obtain ⟨es, clock, hb⟩ := h.owns.at
  exact lt_of_block hb
/-- Nothing of the disk is turned. -/
theorem DiskAt.kept {tag tag' : Nat → Tag} {w w' : World} {d m : Nat} {c : Ctl} {L : Ents} {F : Nat → Prop} (h : DiskAt tag w d m c L) (hc : Chg F w w') (ht : ∀ k, k < w.heap.size → tag' k = tag k) (hF : ∀ k, F k → tag k = .other) : DiskAt tag' w' d m c L :=
  ⟨h.root.kept h.mlt hc ht (fun e => by have := hF d e; rw [h.root.tagd] at this; cases this), h.owns.kept hc (fun e => by have := hF m e; rw [h.root.tagm] at this; cases this),
   h.files.kept hc ht (fun k hk => by rw [hF k hk]; exact ⟨by simp, fun n => ⟨by simp, by simp⟩⟩), h.few⟩

end Disk
end Go.Proofs.Ytiomojidfkpagaa
