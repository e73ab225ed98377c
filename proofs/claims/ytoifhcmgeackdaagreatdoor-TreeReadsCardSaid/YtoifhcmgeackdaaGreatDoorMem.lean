/-
  Memory, for any layer: blocks, what a call may turn, rows of the call's own, append, slices as they are read. Of the program only the types of ints and strings.
-/
import Derived.Test.YtoifhcmgeackdaaGreatDoorGrpTrNum
import Derived.Test.YtoifhcmgeackdaaGreatDoorChecked
import Derived.OneCell
import Derived.Lib.Hide
import Derived.WalkKit
import Derived.WalkSpells
import Derived.WalkLawsBesides
namespace Go.Proofs.YtoifhcmgeackdaaGreatDoor
open Go.RowKit
namespace Mem
open Num (hid)
abbrev Bs := List UInt8
abbrev ptr (b : Nat) : Value := .pointer (some ⟨b, 0, none⟩)
abbrev tI : TypeId := 3
abbrev tS : TypeId := 9
abbrev tIs : TypeId := 58
abbrev tSs : TypeId := 22

/-! ### blocks -/
theorem blk_cell {w : World} {b : Nat} {c : Array Value} {t : TypeId} (h : w.heap[b]? = some (.cells c t (0, 0))) (i : Nat) : w.cell? ⟨b, i, none⟩ = c[i]? := by simp [World.cell?, h]
theorem blk_free {w : World} {b : Nat} {c : Array Value} {t : TypeId} (h : w.heap[b]? = some (.cells c t (0, 0))) (i : Nat) : w.frozen? ⟨b, i, none⟩ = false := by simp [World.frozen?, h]
theorem blk_set {w : World} {b : Nat} {c : Array Value} {t : TypeId} (h : w.heap[b]? = some (.cells c t (0, 0))) (i : Nat) (v : Value) : (w.setCell ⟨b, i, none⟩ v).heap[b]? = some (.cells (c.setIfInBounds i v) t (0, 0)) := by
  have hlt := lt_of_block h
  have h' : w.heap[b] = .cells c t (0, 0) := by simpa [Array.getElem?_eq_getElem hlt] using h
  show (w.heap.modify b _)[b]? = _
  rw [Array.getElem?_eq_getElem (by simpa using hlt), Array.getElem_modify_self, h']
  rfl
theorem blk_new (w : World) (o : Obj) : (w.alloc o).heap[w.heap.size]? = some o := by
  show (w.heap.push o)[w.heap.size]? = some o
  simp
theorem blk_other {w : World} {b : Nat} {o : Obj} (h : w.heap[b]? = some o) {p : Addr} (hp : b ≠ p.block) (v : Value) : (w.setCell p v).heap[b]? = some o := (Below.heap_setCell w p v b hp).trans h
theorem blk_alloc {w : World} {b : Nat} {o : Obj} (h : w.heap[b]? = some o) (o' : Obj) : (w.alloc o').heap[b]? = some o := (Below.heap_alloc w o' b (lt_of_block h)).trans h

theorem alloc_cell {w : World} {b i : Nat} (h : b < w.heap.size) (o : Obj) : (w.alloc o).cell? ⟨b, i, none⟩ = w.cell? ⟨b, i, none⟩ := World.cell?_of_block (Below.heap_alloc w o b h)
theorem alloc_frozen {w : World} {b i : Nat} (h : b < w.heap.size) (o : Obj) : (w.alloc o).frozen? ⟨b, i, none⟩ = w.frozen? ⟨b, i, none⟩ := World.frozen?_of_block (Below.heap_alloc w o b h)

theorem set_cell_other {w : World} {p : Addr} {b i : Nat} (h : b ≠ p.block) (v : Value) : (w.setCell p v).cell? ⟨b, i, none⟩ = w.cell? ⟨b, i, none⟩ := World.cell?_of_block (Below.heap_setCell w p v b h)
theorem set_frozen_other {w : World} {p : Addr} {b i : Nat} (h : b ≠ p.block) (v : Value) : (w.setCell p v).frozen? ⟨b, i, none⟩ = w.frozen? ⟨b, i, none⟩ := World.frozen?_of_block (Below.heap_setCell w p v b h)
theorem set_size (w : World) (p : Addr) (v : Value) : (w.setCell p v).heap.size = w.heap.size := by simp [World.setCell]

theorem set_cell_off {w : World} {b i j : Nat} (h : i ≠ j) (v : Value) : (w.setCell ⟨b, i, none⟩ v).cell? ⟨b, j, none⟩ = w.cell? ⟨b, j, none⟩ := by
  cases hb : w.heap[b]? with
  | none => simp [World.cell?, World.setCell, Array.getElem?_modify, hb]
  | some o => cases o <;> simp [World.cell?, World.setCell, Array.getElem?_modify, hb, h]
theorem set_cell_same {w : World} {b i : Nat} {x : Value} (h : w.cell? ⟨b, i, none⟩ = some x) (v : Value) : (w.setCell ⟨b, i, none⟩ v).cell? ⟨b, i, none⟩ = some v := by
  cases hb : w.heap[b]? with
  | none => simp [World.cell?, hb] at h
  | some o =>
    cases o <;> simp [World.cell?, hb] at h
    rename_i c e fr
    have hi : i < c.size := (Array.getElem?_eq_some_iff.1 h).1
    simp [World.cell?, World.setCell, Array.getElem?_modify, hb, hi]
theorem set_frozen {w : World} {b i j : Nat} (v : Value) : (w.setCell ⟨b, i, none⟩ v).frozen? ⟨b, j, none⟩ = w.frozen? ⟨b, j, none⟩ := by
  cases hb : w.heap[b]? with
  | none => simp [World.frozen?, World.setCell, Array.getElem?_modify, hb]
  | some o => cases o <;> simp [World.frozen?, World.setCell, Array.getElem?_modify, hb]

/-! ### what a call may turn -/
structure Chg (F : Nat → Prop) (w w' : World) : Prop where
  os : w'.os = w.os
  tape : w'.tape = w.tape
  output : w'.output = w.output
  size : w.heap.size ≤ w'.heap.size
  block : ∀ k, k < w.heap.size → ¬ F k → w'.heap[k]? = w.heap[k]?

theorem Chg.refl (F : Nat → Prop) (w : World) : Chg F w w := ⟨rfl, rfl, rfl, Nat.le_refl _, fun _ _ _ => rfl⟩
theorem Chg.trans {F : Nat → Prop} {a b c : World} (h : Chg F a b) (k : Chg F b c) : Chg F a c :=
  ⟨k.os.trans h.os, k.tape.trans h.tape, k.output.trans h.output, Nat.le_trans h.size k.size, fun i hi hF => (k.block i (Nat.lt_of_lt_of_le hi h.size) hF).trans (h.block i hi hF)⟩
theorem Chg.mono {F G : Nat → Prop} {w w' : World} (h : Chg F w w') (hG : ∀ k, k < w.heap.size → F k → G k) : Chg G w w' := ⟨h.os, h.tape, h.output, h.size, fun k hk hF => h.block k hk (fun e => hF (hG k hk e))⟩
theorem Chg.of_below {F : Nat → Prop} {w w' : World} (h : Below w.heap.size w w') : Chg F w w' := ⟨h.os, h.tape, h.output, h.size, fun k hk _ => h.block k hk⟩
theorem Chg.drew {F : Nat → Prop} {a w : World} (h : Chg F a w) : Chg F a w.drew := ⟨h.os, h.tape, h.output, h.size, h.block⟩
theorem Chg.drewN {F : Nat → Prop} {a w : World} (h : Chg F a w) (q : Nat) : Chg F a (w.drewN q) := ⟨h.os, h.tape, h.output, h.size, h.block⟩
theorem Chg.alloc {F : Nat → Prop} {a w : World} (h : Chg F a w) (o : Obj) : Chg F a (w.alloc o) :=
  ⟨h.os, h.tape, h.output, by have := h.size; simp; omega, fun k hk hF => (Below.heap_alloc _ _ _ (Nat.lt_of_lt_of_le hk h.size)).trans (h.block k hk hF)⟩
theorem Chg.setCell {F : Nat → Prop} {a w : World} (h : Chg F a w) {p : Addr} (hp : a.heap.size ≤ p.block ∨ F p.block) (u : Value) : Chg F a (w.setCell p u) :=
  ⟨h.os, h.tape, h.output, by have := h.size; simpa [World.setCell] using this, fun k hk hF => (Below.heap_setCell _ _ _ _ (by
    rintro rfl
    rcases hp with hp | hp
    · omega
    · exact hF hp)).trans (h.block k hk hF)⟩
theorem Chg.grown {F : Nat → Prop} {a w w' : World} {row : Option Nat} (h : Chg F a w) (hg : w.grownBy w' row) (hr : ∀ k, row = some k → a.heap.size ≤ k ∨ F k) : Chg F a w' :=
  ⟨hg.os.trans h.os, hg.tape.trans h.tape, hg.output.trans h.output, Nat.le_trans h.size hg.size, fun k hk hF => (hg.block k (Nat.lt_of_lt_of_le hk h.size) (by
    intro e
    rcases hr k e.symm with h1 | h1
    · omega
    · exact hF h1)).trans (h.block k hk hF)⟩
/-- A call on the way that turns some of the same. -/
theorem Chg.then {F G : Nat → Prop} {a b c : World} (h : Chg F a b) (k : Chg G b c) (hG : ∀ i, i < b.heap.size → G i → a.heap.size ≤ i ∨ F i) : Chg F a c :=
  ⟨k.os.trans h.os, k.tape.trans h.tape, k.output.trans h.output, Nat.le_trans h.size k.size, fun i hi hF => (k.block i (Nat.lt_of_lt_of_le hi h.size) (fun e => by
    rcases hG i (Nat.lt_of_lt_of_le hi h.size) e with h1 | h1
    · omega
    · exact hF h1)).trans (h.block i hi hF)⟩
theorem Chg.below {F : Nat → Prop} {w w' : World} {B : Nat} (h : Chg F w w') (hB : B ≤ w.heap.size) (hF : ∀ k, k < B → ¬ F k) : Below B w w' := ⟨h.os, h.tape, h.output, h.size, fun k hk => h.block k (by omega) (hF k hk)⟩
theorem Chg.at {F : Nat → Prop} {w w' : World} (h : Chg F w w') {b : Nat} {o : Obj} (hb : w.heap[b]? = some o) (hF : ¬ F b) : w'.heap[b]? = some o := (h.block b (lt_of_block hb) hF).trans hb

theorem Chg.cell {F : Nat → Prop} {w w' : World} (h : Chg F w w') {b i : Nat} (hb : b < w.heap.size) (hF : ¬ F b) : w'.cell? ⟨b, i, none⟩ = w.cell? ⟨b, i, none⟩ := World.cell?_of_block (h.block b hb hF)
theorem Chg.frozen {F : Nat → Prop} {w w' : World} (h : Chg F w w') {b i : Nat} (hb : b < w.heap.size) (hF : ¬ F b) : w'.frozen? ⟨b, i, none⟩ = w.frozen? ⟨b, i, none⟩ := World.frozen?_of_block (h.block b hb hF)

theorem row_kept {w w' : World} {F : Nat → Prop} {base : Nat} {e : TypeId} {k : Nat} {v : Value} {n : Nat} {xs : List Value} (h : w.ownsRow base e k v n xs) (hc : Chg F w w') (hF : ∀ g, v.ownBlock = some g → ¬ F g) : w'.ownsRow base e k v n xs := by
  obtain ⟨h1, h2⟩ := h
  refine ⟨h1, ?_⟩
  rcases h2 with h2 | ⟨g, cap, cur, hv, hg, hh, r⟩
  · exact Or.inl h2
  · subst hv
    exact Or.inr ⟨g, cap, cur, rfl, hg, hc.at hh (hF g rfl), r⟩
theorem Chg.root {d : Nat} {a w : World} (h : Chg (· = d) a w) (i : Nat) (u : Value) : Chg (· = d) a (w.setCell ⟨d, i, none⟩ u) := h.setCell (Or.inr rfl) u

/-! ### append -/
theorem run_append_who {P : Program} {w : World} (t ty e : TypeId) (i : TypeInfo) (z : Value) (size bytes : Nat) (ht : P.underlying t = some (.slice e)) (hi : P.info? e = some i) (hz : i.zero = some z)
    (hsize : i.size = size) (hby : i.bytes = bytes) (hzs : z.cells.size = size) (hsz : 0 < size)
    (v : Value) (n : Nat) (xs : List Value) (hown : w.ownsRow 0 e size v n xs)
    (a : Addr) (m c : Nat) (news : List Value) (hl : news.length = m * size) (hnews : ∀ j u, news[j]? = some u → w.cell? (a.add j) = some u) (h1 : ∀ u ∈ news, u.oneCell' = true)
    (h63 : n + m ≤ maxLen) (hbytes : (n + m) * bytes ≤ 140737488355328) :
    ∃ v' w', (Builtin.append_ #[t, t] ty #[v, .slice (some a) m c]).run P w = .ok v' w' ∧ w'.ownsRow 0 e size v' (n + m) (xs ++ news) ∧ w.grownBy w' v.ownBlock ∧
      (∀ k, v'.ownBlock = some k → v.ownBlock = some k ∨ w.heap.size ≤ k) := by
  obtain ⟨v', w', h2, h3, h4, -⟩ := run_append_own (P := P) w 0 t ty e i z size bytes ht hi hz hsize hby hzs hsz v n xs hown a m c news hl hnews h1 h63 hbytes (Nat.zero_le _)
  refine ⟨v', w', h2, h3, h4, ?_⟩
  rcases hown.2 with ⟨rfl, rfl⟩ | ⟨g, cap, cur, rfl, hbg, hg, hnc, hcm, hcs, htake⟩
  · obtain ⟨v2, w2, e1, e2, -⟩ := run_append_own (P := P) w w.heap.size t ty e i z size bytes ht hi hz hsize hby hzs hsz (.slice none 0 0) 0 xs ⟨hown.1, .inl ⟨rfl, rfl⟩⟩ a m c news hl hnews h1 h63 hbytes (Nat.le_refl _)
    rw [h2] at e1
    cases e1
    exact fun k hk => Or.inr ((e2.lt k hk).1)
  · subst hsize
    subst hby
    by_cases hroom : n + m ≤ cap
    · have hfit : n * i.size + news.length ≤ cur.size := by rw [hl, hcs, ← Nat.add_mul]; exact Nat.mul_le_mul_right _ hroom
      have hr := run_append_room (P := P) w t ty e i ht hi g n cap cur hg a m c news hl hnews h1 hroom hfit
      rw [h2] at hr
      cases hr
      exact fun k hk => Or.inl hk
    · have holds : ∀ j u, xs[j]? = some u → w.cell? ((⟨g, 0, none⟩ : Addr).add j) = some u := hown.cells (g := g) rfl
      have hr := run_append_grow (P := P) w t ty e i z ht hi hz ⟨g, 0, none⟩ n cap xs hown.1 holds a m c news hl hnews (by unfold maxLen at h63; omega) (by unfold maxLen at h63; omega) (growslice_fits (by unfold maxLen at h63; omega) hbytes)
      rw [h2] at hr
      cases hr
      intro k hk
      simp only [Value.ownBlock, Option.some.injEq] at hk
      exact Or.inr (by omega)

/-- 'append' at the operation, where its run is known by an equation. -/
theorem wpList_append_run {P : Program} {w : World} {ops : Array Oper} {rest : List Oper} {o : Oper} {a : Act} {Q : Exit → Act → World → Prop} (hgd : o.guard = none) (d s : Operand) (t t' : TypeId)
    (ho : o.op = .call { callee := .builtin .append, args := #[d, s], argTypes := #[t, t'] }) (v u : Value) (hd : a.eval d = v) (hs : a.eval s = u) {v' : Value} {w' : World}
    (hr : (Builtin.append_ #[t, t'] o.type #[v, u]).run P w = .ok v' w') (h : wpList P ops Q rest (a.put o.dst v') w') : wpList P ops Q (o :: rest) a w := by
  refine wpList_plain hgd fun K hK => ?_
  unfold Oper.wp execOp
  simp only [ho, resolve, invoke, builtin, Sem.run_bind, Sem.run_pure, Result.andThen_ok, List.map_toArray, List.map_cons, List.map_nil, hd, hs, hr]
  exact hK _ _ h

theorem step_append_run {P : Program} {ops : Array Oper} {o : Oper} {a : Act} {w : World} {K : Act → World → Prop} {Q : Exit → Act → World → Prop} {E : Prop} (hgd : o.guard = none) (d s : Operand) (t t' : TypeId)
    (ho : o.op = .call { callee := .builtin .append, args := #[d, s], argTypes := #[t, t'] }) (v u : Value) (hd : a.eval d = v) (hs : a.eval s = u) {v' : Value} {w' : World}
    (hr : (Builtin.append_ #[t, t'] o.type #[v, u]).run P w = .ok v' w') (h : K (a.put o.dst v') w') : if Region.wanted o (yielded ops a.tmps) = true then Oper.wp P o a w K Q else E := by
  have hw : Region.wanted o (yielded ops a.tmps) = true := by simp [Region.wanted, hgd]
  rw [if_pos hw]
  unfold Oper.wp execOp
  simp only [ho, resolve, invoke, builtin, Sem.run_bind, Sem.run_pure, Result.andThen_ok, List.map_toArray, List.map_cons, List.map_nil, hd, hs, hr]
  exact h

theorem append_from (t e : TypeId) (i : TypeInfo) (z : Value) (size bytes : Nat) (ht : Tryz.prog.underlying t = some (.slice e)) (hi : Tryz.prog.info? e = some i) (hz : i.zero = some z) (h1 : i.size = size) (h2 : i.bytes = bytes) (hzs : z.cells.size = size) (hsz : 0 < size) (hby : bytes ≤ 100)
    {w : World} {v : Value} {n : Nat} {xs : List Value} (hown : w.ownsRow 0 e size v n xs) {b o m c : Nat} {ys : List Value} (hl : ys.length = m * size) (hc : ∀ j (h : j < ys.length), w.cell? ⟨b, o + j, none⟩ = some ys[j]) (ho : ∀ u ∈ ys, u.oneCell' = true) (hn : n + m ≤ 1000000) :
    ∃ v' w', (Builtin.append_ #[t, t] t #[v, .slice (some ⟨b, o, none⟩) m c]).run Tryz.prog w = .ok v' w' ∧ w'.ownsRow 0 e size v' (n + m) (xs ++ ys) ∧ Chg (fun k => v.ownBlock = some k) w w' ∧ (∀ k, v'.ownBlock = some k → v.ownBlock = some k ∨ w.heap.size ≤ k) := by
  obtain ⟨v', w', hr, ho', hg, hw⟩ := run_append_who t t e i z size bytes ht hi hz h1 h2 hzs hsz v n xs hown ⟨b, o, none⟩ m c ys hl (by
    intro j u hj
    have hjl := (List.getElem?_eq_some_iff.1 hj).1
    rw [show (⟨b, o, none⟩ : Addr).add j = ⟨b, o + j, none⟩ from by simp [Addr.add], hc j hjl]
    rw [List.getElem?_eq_getElem hjl] at hj
    exact hj) ho (by unfold maxLen; omega) (by have := Nat.mul_le_mul_left (n + m) hby; omega)
  exact ⟨v', w', hr, ho', (Chg.refl _ w).grown hg (fun k hk => Or.inr hk), hw⟩
/-- A row that is copied behind an empty one: append([]T{}, v...). -/
theorem copy_row (t e : TypeId) (i : TypeInfo) (z : Value) (size bytes : Nat) (ht : Tryz.prog.underlying t = some (.slice e)) (hi : Tryz.prog.info? e = some i) (hz : i.zero = some z) (h1 : i.size = size) (h2 : i.bytes = bytes) (hzs : z.cells.size = size) (hsz : 0 < size) (hby : bytes ≤ 100)
    {w : World} {v0 v : Value} {n0 n : Nat} {xs0 xs : List Value} (hown : w.ownsRow 0 e size v0 n0 xs0) (hv : w.ownsRow 0 e size v n xs) (ho : ∀ u ∈ xs, u.oneCell' = true) (hn : n0 + n ≤ 1000000) :
    ∃ v' w', (Builtin.append_ #[t, t] t #[v0, v]).run Tryz.prog w = .ok v' w' ∧ w'.ownsRow 0 e size v' (n0 + n) (xs0 ++ xs) ∧ Chg (fun k => v0.ownBlock = some k) w w' ∧ (∀ k, v'.ownBlock = some k → v0.ownBlock = some k ∨ w.heap.size ≤ k) := by
  rcases hv.2 with ⟨rfl, rfl⟩ | ⟨g, cap, cur, rfl, _, hb, _⟩
  · have hx : xs = [] := List.eq_nil_of_length_eq_zero (by have := hv.1; omega)
    subst hx
    rw [List.append_nil, Nat.add_zero]
    exact ⟨v0, w, run_append_owned_none (P := Tryz.prog) (w := w) 0 t t e i size ht hi v0 n0 xs0 hown, hown, Chg.refl _ _, fun k hk => Or.inl hk⟩
  · refine append_from t e i z size bytes ht hi hz h1 h2 hzs hsz hby hown hv.1 (fun j hj => ?_) ho hn
    have := hv.cellAt j (by have := hv.1; omega)
    rw [Nat.zero_add, this, List.getElem?_eq_getElem hj]

/-! ### rows whose blocks are of a set -/
/-- A row of the call's own: its block is one of R. -/
def Row (R : Nat → Prop) (w : World) (t : TypeId) (k : Nat) (v : Value) (n : Nat) (xs : List Value) : Prop := w.ownsRow 0 t k v n xs ∧ ∀ g, v.ownBlock = some g → R g
theorem Row.kept {R F : Nat → Prop} {w w' : World} {t : TypeId} {k : Nat} {v : Value} {n : Nat} {xs : List Value} (h : Row R w t k v n xs) (hc : Chg F w w') (hF : ∀ g, v.ownBlock = some g → ¬ F g) : Row R w' t k v n xs := ⟨row_kept h.1 hc hF, h.2⟩
theorem Row.mono {R R' : Nat → Prop} {w : World} {t : TypeId} {k : Nat} {v : Value} {n : Nat} {xs : List Value} (h : Row R w t k v n xs) (hR : ∀ g, g < w.heap.size → R g → R' g) : Row R' w t k v n xs := ⟨h.1, fun g hg => hR g (h.1.lt g hg).2 (h.2 g hg)⟩
theorem row_type {w : World} {base : Nat} {e : TypeId} {k : Nat} {v : Value} {n g : Nat} {xs : List Value} (h : w.ownsRow base e k v n xs) (hg : v.ownBlock = some g) : ∃ cur, w.heap[g]? = some (.cells cur e (0, 0)) := by
  rcases h.2 with ⟨rfl, _⟩ | ⟨g', cap, cur, rfl, _, hh, _⟩
  · cases hg
  · have : g' = g := by simpa [Value.ownBlock] using hg
    subst this
    exact ⟨cur, hh⟩
theorem row_shape {w : World} {t : TypeId} {k : Nat} {v : Value} {n : Nat} {xs : List Value} (h : w.ownsRow 0 t k v n xs) : ∃ ao cap, v = .slice ao n cap ∧ (0 < n → ∃ g, ao = some ⟨g, 0, none⟩ ∧ g < w.heap.size) := by
  rcases h.2 with ⟨rfl, rfl⟩ | ⟨g, cap, cur, rfl, _, hb, _⟩
  · exact ⟨none, 0, rfl, fun h => absurd h (Nat.lt_irrefl _)⟩
  · exact ⟨_, cap, rfl, fun _ => ⟨g, rfl, lt_of_block hb⟩⟩
/-! ### ints, strings -/
theorem intInfo : ∃ i, Tryz.prog.info? tI = some i ∧ i.zero = some (.int .i64 0) ∧ i.size = 1 ∧ i.bytes = 8 := by
  have h : (Tryz.prog.info? tI).map (fun i => (i.zero, i.size, i.bytes)) = some (some (.int .i64 0), 1, 8) := by kernel_rfl
  cases e : Tryz.prog.info? tI with
  | none => rw [e] at h; cases h
  | some i =>
    rw [e] at h
    simp only [Option.map_some, Option.some.injEq, Prod.mk.injEq] at h
    exact ⟨i, rfl, h.1, h.2.1, h.2.2⟩
theorem strInfo : ∃ i, Tryz.prog.info? tS = some i ∧ i.zero = some (.string ⟨#[]⟩) ∧ i.size = 1 ∧ i.bytes = 16 := by
  have h : (Tryz.prog.info? tS).map (fun i => (i.zero, i.size, i.bytes)) = some (some (.string ⟨#[]⟩), 1, 16) := by kernel_rfl
  cases e : Tryz.prog.info? tS with
  | none => rw [e] at h; cases h
  | some i =>
    rw [e] at h
    simp only [Option.map_some, Option.some.injEq, Prod.mk.injEq] at h
    exact ⟨i, rfl, h.1, h.2.1, h.2.2⟩
/-- append(row, x), x one cell in a new block. -/
theorem push_one (t e : TypeId) (i : TypeInfo) (z : Value) (bytes : Nat) (ht : Tryz.prog.underlying t = some (.slice e)) (hi : Tryz.prog.info? e = some i) (hz : i.zero = some z) (h1 : i.size = 1) (h2 : i.bytes = bytes) (hzs : z.cells.size = 1) (hby : bytes ≤ 100)
    {w : World} {v : Value} {n : Nat} {xs : List Value} (hown : w.ownsRow 0 e 1 v n xs) {x : Value} (hx : x.oneCell' = true) (hn : n ≤ 900000) :
    ∃ v' w', (Builtin.append_ #[t, t] t #[v, .slice (some ⟨w.heap.size, 0, none⟩) 1 1]).run Tryz.prog (w.alloc (.cells #[x] e)) = .ok v' w' ∧ w'.ownsRow 0 e 1 v' (n + 1) (xs ++ [x]) ∧ Chg (fun k => v.ownBlock = some k) w w' ∧ (∀ k, v'.ownBlock = some k → v.ownBlock = some k ∨ w.heap.size ≤ k) := by
  obtain ⟨v', w', hr, ho, hc, hw⟩ := append_from t e i z 1 bytes ht hi hz h1 h2 hzs (by decide) hby (hown.alloc (.cells #[x] e)) (b := w.heap.size) (o := 0) (m := 1) (c := 1) (ys := [x]) rfl (by
    intro j hj
    have : j = 0 := by simpa using hj
    subst this
    rw [Nat.zero_add, blk_cell (blk_new w _) 0]
    rfl) (by
    intro u hu
    simp only [List.mem_singleton] at hu
    subst hu
    exact hx) (by omega)
  refine ⟨v', w', hr, ho, ((Chg.refl _ w).alloc _).trans hc, fun k hk => ?_⟩
  rcases hw k hk with h | h
  · exact Or.inl h
  · right; simp at h; omega
theorem push_int {w : World} {v : Value} {n : Nat} {xs : List Value} (hown : w.ownsRow 0 tI 1 v n xs) (x : Int) (hn : n ≤ 900000) :
    ∃ v' w', (Builtin.append_ #[tIs, tIs] tIs #[v, .slice (some ⟨w.heap.size, 0, none⟩) 1 1]).run Tryz.prog (w.alloc (.cells #[.int .i64 x] tI)) = .ok v' w' ∧ w'.ownsRow 0 tI 1 v' (n + 1) (xs ++ [.int .i64 x]) ∧ Chg (fun k => v.ownBlock = some k) w w' ∧ (∀ k, v'.ownBlock = some k → v.ownBlock = some k ∨ w.heap.size ≤ k) := by
  obtain ⟨i, hi, h0, h1, h2⟩ := intInfo
  exact push_one tIs tI i _ 8 Tryz.underlying58 hi h0 h1 h2 rfl (by decide) hown rfl hn
theorem push_str {w : World} {v : Value} {n : Nat} {xs : List Value} (hown : w.ownsRow 0 tS 1 v n xs) (x : ByteArray) (hn : n ≤ 900000) :
    ∃ v' w', (Builtin.append_ #[tSs, tSs] tSs #[v, .slice (some ⟨w.heap.size, 0, none⟩) 1 1]).run Tryz.prog (w.alloc (.cells #[.string x] tS)) = .ok v' w' ∧ w'.ownsRow 0 tS 1 v' (n + 1) (xs ++ [.string x]) ∧ Chg (fun k => v.ownBlock = some k) w w' ∧ (∀ k, v'.ownBlock = some k → v.ownBlock = some k ∨ w.heap.size ≤ k) := by
  obtain ⟨i, hi, h0, h1, h2⟩ := strInfo
  exact push_one tSs tS i _ 16 Tryz.underlying22 hi h0 h1 h2 rfl (by decide) hown rfl hn
/-! ### slices as they are read -/
def bs (l : Bs) : ByteArray := ⟨l.toArray⟩
def sV (k : Bs) : List Value := [.string (bs k)]
def iV (p : Int) : List Value := [.int .i64 p]
section
variable {α : Type}
/-- A slice, as it is read: k cells an element. -/
def LAt (k : Nat) (enc : α → List Value) (w : World) (x : Value) (l : List α) : Prop :=
  ((∃ ao cap, x = .slice ao 0 cap ∧ l = []) ∨ ∃ b o cap, x = .slice (some ⟨b, o, none⟩) l.length cap ∧ l.length ≤ cap ∧ b < w.heap.size ∧ ∀ j (h : j < l.length) i, i < k → w.cell? ⟨b, o + j * k + i, none⟩ = (enc l[j])[i]?) ∧ l.length ≤ maxLen
variable {k : Nat} {enc : α → List Value} {w w' : World} {x : Value} {l : List α}
theorem LAt.nil (w : World) (ao : Option Addr) (cap : Nat) : LAt k enc w (.slice ao 0 cap) [] := ⟨Or.inl ⟨ao, cap, rfl, rfl⟩, Nat.zero_le _⟩
theorem LAt.on (h : LAt k enc w x l) (hb : Below w.heap.size w w') : LAt k enc w' x l := by
  obtain ⟨h1, h2⟩ := h
  refine ⟨?_, h2⟩
  rcases h1 with h1 | ⟨b, o, cap, hv, hc, hlt, hj⟩
  · exact Or.inl h1
  · exact Or.inr ⟨b, o, cap, hv, hc, Nat.lt_of_lt_of_le hlt hb.size, fun j h i hi => (hb.cell (p := ⟨b, o + j * k + i, none⟩) hlt).trans (hj j h i hi)⟩
theorem LAt.ways (h : LAt k enc w x l) : ∃ ao cap, x = .slice ao l.length cap ∧ l.length ≤ maxLen ∧ l.length ≤ cap ∧ ∀ j (hj : j < l.length), ∃ b o, ao = some ⟨b, o, none⟩ ∧ b < w.heap.size ∧ ∀ i, i < k → w.cell? ⟨b, o + j * k + i, none⟩ = (enc l[j])[i]? := by
  obtain ⟨h1, h2⟩ := h
  rcases h1 with ⟨ao, cap, rfl, rfl⟩ | ⟨b, o, cap, rfl, hc, hlt, hj⟩
  · exact ⟨ao, cap, rfl, h2, Nat.zero_le _, fun j hj => absurd hj (Nat.not_lt_zero _)⟩
  · exact ⟨_, cap, rfl, h2, hc, fun j h => ⟨b, o, rfl, hlt, hj j h⟩⟩
theorem LAt.room {ao : Option Addr} {n cap : Nat} (h : LAt k enc w (.slice ao n cap) l) : n = l.length ∧ n ≤ cap := by
  obtain ⟨ao', cap', hv, -, hc, -⟩ := h.ways
  cases hv
  exact ⟨rfl, hc⟩
theorem LAt.take {ao : Option Addr} {n cap : Nat} (h : LAt k enc w (.slice ao n cap) l) {m : Nat} (hm : m ≤ n) : LAt k enc w (.slice ao m cap) (l.take m) := by
  obtain ⟨h1, h2⟩ := h
  have hl : (l.take m).length ≤ maxLen := by rw [List.length_take]; omega
  refine ⟨?_, hl⟩
  rcases h1 with ⟨ao', cap', hv, rfl⟩ | ⟨b, o, cap', hv, hc, hlt, hj⟩
  · cases hv
    have : m = 0 := by omega
    subst this
    exact Or.inl ⟨ao, cap, rfl, rfl⟩
  · cases hv
    have hml : (l.take m).length = m := by rw [List.length_take]; omega
    refine Or.inr ⟨b, o, cap, by rw [hml], by rw [hml]; omega, hlt, fun j hj' => ?_⟩
    have e : (l.take m)[j] = l[j]'(by omega) := by simp
    rw [e]
    exact hj j (by omega)
/-- a[m:]. -/
def dropS (k : Nat) (ao : Option Addr) (n cap m : Nat) : Value := .slice (if cap = m then ao else ao.map (·.add (m * k))) (n - m) (cap - m)
theorem LAt.drop {ao : Option Addr} {n cap : Nat} (h : LAt k enc w (.slice ao n cap) l) {m : Nat} (hm : m ≤ n) : LAt k enc w (dropS k ao n cap m) (l.drop m) := by
  obtain ⟨h1, h2⟩ := h
  have hl : (l.drop m).length ≤ maxLen := by rw [List.length_drop]; omega
  refine ⟨?_, hl⟩
  unfold dropS
  rcases h1 with ⟨ao', cap', hv, rfl⟩ | ⟨b, o, cap', hv, hc, hlt, hj⟩
  · cases hv
    have : m = 0 := by omega
    subst this
    exact Or.inl ⟨_, _, rfl, rfl⟩
  · cases hv
    by_cases hck : cap = m
    · have e : l.drop m = [] := List.drop_of_length_le (by omega)
      rw [if_pos hck, e]
      exact Or.inl ⟨some ⟨b, o, none⟩, cap - m, by rw [show l.length - m = 0 by omega], rfl⟩
    · rw [if_neg hck]
      refine Or.inr ⟨b, o + m * k, cap - m, by rw [List.length_drop]; simp [Addr.add], by rw [List.length_drop]; omega, hlt, fun j hj' i hi => ?_⟩
      have hjl : m + j < l.length := by rw [List.length_drop] at hj'; omega
      have e : (l.drop m)[j] = l[m + j] := by simp
      rw [e]
      have h3 := hj (m + j) hjl i hi
      rw [show o + (m + j) * k + i = o + m * k + j * k + i by rw [Nat.add_mul]; omega] at h3
      exact h3
end
abbrev SAt (w : World) (x : Value) (l : List Bs) : Prop := LAt 1 sV w x l
abbrev IAt (w : World) (x : Value) (l : List Int) : Prop := LAt 1 iV w x l
theorem SAt.ways1 {w : World} {x : Value} {l : List Bs} (h : SAt w x l) : ∃ ao cap, x = .slice ao l.length cap ∧ l.length ≤ maxLen ∧ l.length ≤ cap ∧ ∀ j (hj : j < l.length), ∃ b o, ao = some ⟨b, o, none⟩ ∧ b < w.heap.size ∧ w.cell? ⟨b, o + j, none⟩ = some (.string (bs l[j])) := by
  obtain ⟨ao, cap, h1, h2, h3, h4⟩ := LAt.ways h
  refine ⟨ao, cap, h1, h2, h3, fun j hj => ?_⟩
  obtain ⟨b, o, e1, e2, e3⟩ := h4 j hj
  have := e3 0 Nat.one_pos
  rw [Nat.mul_one] at this
  exact ⟨b, o, e1, e2, this⟩
theorem IAt.ways1 {w : World} {x : Value} {l : List Int} (h : IAt w x l) : ∃ ao cap, x = .slice ao l.length cap ∧ l.length ≤ maxLen ∧ l.length ≤ cap ∧ ∀ j (hj : j < l.length), ∃ b o, ao = some ⟨b, o, none⟩ ∧ b < w.heap.size ∧ w.cell? ⟨b, o + j, none⟩ = some (.int .i64 l[j]) := by
  obtain ⟨ao, cap, h1, h2, h3, h4⟩ := LAt.ways h
  refine ⟨ao, cap, h1, h2, h3, fun j hj => ?_⟩
  obtain ⟨b, o, e1, e2, e3⟩ := h4 j hj
  have := e3 0 Nat.one_pos
  rw [Nat.mul_one] at this
  exact ⟨b, o, e1, e2, this⟩
/-! ### Lists of the call's own -/
section
variable {α : Type}
abbrev OwnL (t : TypeId) (k : Nat) (enc : α → List Value) (w : World) (base : Nat) (x : Value) (l : List α) : Prop := w.ownsRow base t k x l.length (l.flatMap enc)
theorem flat_len {k : Nat} {enc : α → List Value} (he : ∀ a, (enc a).length = k) : ∀ l : List α, (l.flatMap enc).length = l.length * k
  | [] => (Nat.zero_mul _).symm
  | a :: l => by rw [List.flatMap_cons, List.length_append, he, flat_len he l, List.length_cons, Nat.add_mul, Nat.one_mul, Nat.add_comm]
theorem flat_at {k : Nat} {enc : α → List Value} (he : ∀ a, (enc a).length = k) : ∀ (l : List α) (j : Nat) (h : j < l.length) (i : Nat), i < k → (l.flatMap enc)[j * k + i]? = (enc l[j])[i]?
  | a :: l, 0, _, i, hi => by
    rw [List.flatMap_cons, Nat.zero_mul, Nat.zero_add, List.getElem?_append_left (by rw [he]; exact hi)]
    rfl
  | a :: l, j + 1, h, i, hi => by
    have ih := flat_at he l j (by simpa using h) i hi
    rw [List.flatMap_cons, List.getElem?_append_right (by rw [he, Nat.add_mul]; omega), he, show (j + 1) * k + i - k = j * k + i by rw [Nat.add_mul]; omega]
    exact ih
variable {t : TypeId} {k : Nat} {enc : α → List Value} {w w' : World} {base : Nat} {x : Value} {l : List α}
theorem OwnL.row (he : ∀ a, (enc a).length = k) (h : OwnL t k enc w base x l) (hl : l.length ≤ maxLen) : LAt k enc w x l := by
  refine ⟨?_, hl⟩
  rcases h.2 with ⟨rfl, h0⟩ | ⟨g, cap, cur, rfl, h1, h2, h3, h4, h5, h6⟩
  · exact Or.inl ⟨none, 0, rfl, List.length_eq_zero_iff.1 h0⟩
  · refine Or.inr ⟨g, 0, cap, rfl, h3, lt_of_block h2, fun j hj i hi => ?_⟩
    rw [Nat.zero_add, ← flat_at he l j hj i hi]
    refine h.cellAt _ ?_
    have := Nat.mul_le_mul_right k (show j + 1 ≤ l.length by omega)
    rw [Nat.add_mul] at this
    omega
theorem OwnL.on (h : OwnL t k enc w base x l) (hb : Below w.heap.size w w') : OwnL t k enc w' base x l := by
  obtain ⟨h1, h2⟩ := h
  refine ⟨h1, ?_⟩
  rcases h2 with h2 | ⟨g, cap, cur, e1, e2, e3, e4⟩
  · exact Or.inl h2
  · exact Or.inr ⟨g, cap, cur, e1, e2, (hb.block _ (lt_of_block e3)).trans e3, e4⟩
theorem OwnL.empty (w : World) (base : Nat) : OwnL t k enc w base (.slice none 0 0) [] := World.ownsRow_nil w base t k
end
theorem sV_len (a : Bs) : (sV a).length = 1 := rfl
theorem iV_len (a : Int) : (iV a).length = 1 := rfl
theorem flat_iV : ∀ l : List Int, l.flatMap iV = l.map (Value.int .i64)
  | [] => rfl
  | a :: l => by rw [List.flatMap_cons, flat_iV l]; rfl
theorem flat_sV : ∀ l : List Bs, l.flatMap sV = l.map fun s => Value.string (bs s)
  | [] => rfl
  | a :: l => by rw [List.flatMap_cons, flat_sV l]; rfl
/-- A row of ints of the call's own, as it is read. -/
theorem ints_row {w : World} {base : Nat} {v : Value} {l : List Int} (h : w.ownsRow base tI 1 v l.length (l.map (Value.int .i64))) (hl : l.length ≤ maxLen) : IAt w v l := by
  rw [← flat_iV] at h
  exact OwnL.row (t := tI) (enc := iV) iV_len h hl
end Mem
end Go.Proofs.YtoifhcmgeackdaaGreatDoor
