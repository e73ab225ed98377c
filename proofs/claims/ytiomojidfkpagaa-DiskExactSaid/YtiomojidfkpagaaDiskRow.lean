/-
  append on an owned row, and whose the block behind it is; what else rows of three cells want.
-/
import Derived.Test.YtiomojidfkpagaaDiskSec
namespace Go.Proofs.Ytiomojidfkpagaa
open Go.RowKit
namespace Disk
open Num (hid bcells)

theorem run_append_who {P : Program} {w : World} (t ty e : TypeId) (i : TypeInfo) (z : Value) (size bytes : Nat) (ht : P.underlying t = some (.slice e)) (hi : P.info? e = some i) (hz : i.zero = some z)
    (hsize : i.size = size) (hby : i.bytes = bytes) (hzs : z.cells.size = size) (hsz : 0 < size)
    (v : Value) (n : Nat) (xs : List Value) (hown : w.ownsRow 0 e size v n xs)
    (a : Addr) (m c : Nat) (news : List Value) (hl : news.length = m * size) (hnews : ∀ j u, news[j]? = some u → w.cell? (a.add j) = some u) (h1 : ∀ u ∈ news, u.oneCell' = true)
    (h63 : n + m ≤ maxLen) (hbytes : (n + m) * bytes ≤ 140737488355328) :
    ∃ v' w', (Builtin.append_ #[t, t] ty #[v, .slice (some a) m c]).run P w = .ok v' w' ∧ w'.ownsRow 0 e size v' (n + m) (xs ++ news) ∧ w.grownBy w' v.ownBlock ∧
      (∀ k, v'.ownBlock = some k → v.ownBlock = some k ∨ w.heap.size ≤ k) := by
  obtain ⟨v', w', h2, h3, h4, -⟩ := run_append_own (P := P) w 0 t ty e i z size bytes ht hi hz hsize hby hzs hsz v n xs hown a m c news hl hnews h1 h63 hbytes (Nat.zero_le _)
  refine ⟨v', w', h2, h3, h4, ?_⟩
  rcases hown.2 with ⟨rfl, rfl⟩ | ⟨g, cap, cur, rfl, hbg, hg, hnc, hcm, hcs, htake⟩
  · obtain ⟨v2, w2, e1, e2, -⟩ := run_append_own (P := P) w w.heap.size t ty e i z size bytes ht hi hz hsize hby hzs hsz (.slice none 0 0) 0 xs ⟨hown.1, .inl ⟨rfl, rfl⟩⟩ a m c news hl hnews h1 h63 hbytes (Nat.le_refl _)
    rw [h2] at e1
    cases e1
    exact fun k hk => Or.inr ((e2.lt k hk).1)
  · subst hsize
    subst hby
    by_cases hroom : n + m ≤ cap
    · have hfit : n * i.size + news.length ≤ cur.size := by rw [hl, hcs, ← Nat.add_mul]; exact Nat.mul_le_mul_right _ hroom
      have hr := run_append_room (P := P) w t ty e i ht hi g n cap cur hg a m c news hl hnews h1 hroom hfit
      rw [h2] at hr
      cases hr
      exact fun k hk => Or.inl hk
    · have holds : ∀ j u, xs[j]? = some u → w.cell? ((⟨g, 0, none⟩ : Addr).add j) = some u := hown.cells (g := g) rfl
      have hr := run_append_grow (P := P) w t ty e i z ht hi hz ⟨g, 0, none⟩ n cap xs hown.1 holds a m c news hl hnews (by unfold maxLen at h63; omega) (by unfold maxLen at h63; omega) (growslice_fits (by unfold maxLen at h63; omega) hbytes)
      rw [h2] at hr
      cases hr
      intro k hk
      simp only [Value.ownBlock, Option.some.injEq] at hk
      exact Or.inr (by omega)

/-- 'append' at the operation, where its run is known by an equation. -/
theorem wpList_append_run {P : Program} {w : World} {ops : Array Oper} {rest : List Oper} {o : Oper} {a : Act} {Q : Exit → Act → World → Prop} (hgd : o.guard = none) (d s : Operand) (t t' : TypeId)
    (ho : o.op = .call { callee := .builtin .append, args := #[d, s], argTypes := #[t, t'] }) (v u : Value) (hd : a.eval d = v) (hs : a.eval s = u) {v' : Value} {w' : World}
    (hr : (Builtin.append_ #[t, t'] o.type #[v, u]).run P w = .ok v' w') (h : wpList P ops Q rest (a.put o.dst v') w') : wpList P ops Q (o :: rest) a w := by
  refine wpList_plain hgd fun K hK => ?_
  unfold Oper.wp execOp
  simp only [ho, resolve, invoke, builtin, Sem.run_bind, Sem.run_pure, Result.andThen_ok, List.map_toArray, List.map_cons, List.map_nil, hd, hs, hr]
  exact hK _ _ h

/-- The facts of a place's type. -/
theorem placeInfo : ∃ i, Try.prog.info? tPlace = some i ∧ i.zero = some (.agg #[.pointer none, .pointer none, .bool false]) ∧ i.size = 3 ∧ i.bytes = 24 := by
  have h : (Try.prog.info? tPlace).map (fun i => (i.zero, i.size, i.bytes)) = some (some (.agg #[.pointer none, .pointer none, .bool false]), 3, 24) := by kernel_rfl
  cases e : Try.prog.info? tPlace with
  | none => rw [e] at h; cases h
  | some i =>
    rw [e] at h
    simp only [Option.map_some, Option.some.injEq, Prod.mk.injEq] at h
    exact ⟨i, rfl, h.1, h.2.1, h.2.2⟩

abbrev tPlaces : TypeId := 97
/-- 'append(row, place)', the place's three cells in a block. -/
theorem append_place {w : World} {v : Value} {n : Nat} {xs : List Value} (hown : w.ownsRow 0 tPlace 3 v n xs) {a : Nat} {x y z : Value} (hb : w.heap[a]? = some (.cells #[x, y, z] tPlace (0, 0)))
    (hx : x.oneCell' = true) (hy : y.oneCell' = true) (hz : z.oneCell' = true) (hn : n ≤ 1000000) :
    ∃ v' w', (Builtin.append_ #[tPlaces, tPlaces] tPlaces #[v, .slice (some ⟨a, 0, none⟩) 1 1]).run Try.prog w = .ok v' w' ∧ w'.ownsRow 0 tPlace 3 v' (n + 1) (xs ++ [x, y, z]) ∧ w.grownBy w' v.ownBlock ∧
      (∀ k, v'.ownBlock = some k → v.ownBlock = some k ∨ w.heap.size ≤ k) := by
  obtain ⟨i, hi, h0, h1, h2⟩ := placeInfo
  refine run_append_who tPlaces tPlaces tPlace i _ 3 24 Try.underlying97 hi h0 h1 h2 rfl (by decide) v n xs hown ⟨a, 0, none⟩ 1 1 [x, y, z] rfl ?_ ?_ (by unfold maxLen; omega) (by omega)
  · intro j u hj
    rw [show (⟨a, 0, none⟩ : Addr).add j = ⟨a, j, none⟩ from by simp [Addr.add]; omega, blk_cell hb j]
    simpa using hj
  · intro u hu
    simp only [List.mem_cons, List.not_mem_nil, or_false] at hu
    rcases hu with rfl | rfl | rfl
    · exact hx
    · exact hy
    · exact hz

theorem row_some {w : World} {e : TypeId} {k : Nat} {v : Value} {n : Nat} {xs : List Value} (h : w.ownsRow 0 e k v n xs) (hn : 0 < n) :
    ∃ g cap, v = .slice (some ⟨g, 0, none⟩) n cap ∧ n ≤ cap ∧ cap ≤ maxLen ∧ g < w.heap.size := by
  rcases h.2 with ⟨_, h0⟩ | ⟨g, cap, cur, hv, _, hb, h1, h2, _⟩
  · omega
  · exact ⟨g, cap, hv, h1, h2, lt_of_block hb⟩

theorem Pls.cells_len : ∀ Q : Pls, Q.cells.length = 3 * Q.length
  | [] => rfl
  | x :: r => by
    have := Pls.cells_len r
    unfold Pls.cells at this ⊢
    rw [List.flatMap_cons, List.length_append, this, List.length_cons]
    simp [PQ.cells]; omega
theorem Pls.cells_append (a b : Pls) : Pls.cells (a ++ b) = Pls.cells a ++ Pls.cells b := List.flatMap_append ..
theorem Pls.cells_set : ∀ (Q : Pls) (i : Nat) (h : i < Q.length) (b : Nat) (p : Plc), ((Q.cells.set (3 * i) (ptr b)).set (3 * i + 2) (.bool true)) = Pls.cells (Q.set i (⟨b, Q[i].1.safe, true⟩, p))
  | x :: r, 0, _, b, p => by rfl
  | x :: r, i + 1, h, b, p => by
    have := Pls.cells_set r i (by simpa using h) b p
    unfold Pls.cells at this ⊢
    simp only [List.flatMap_cons, List.getElem_cons_succ, List.set_cons_succ]
    rw [← this]
    have e1 : 3 * (i + 1) = 3 * i + 3 := by omega
    have hl : (PQ.cells x.1).length = 3 := rfl
    rw [e1, List.set_append_right _ _ (by omega), List.set_append_right _ _ (by rw [hl]; omega), hl]
    have e2 : 3 * i + 3 - 3 = 3 * i := by omega
    have e3 : 3 * i + 3 + 2 - 3 = 3 * i + 2 := by omega
    rw [e2, e3]
theorem Pls.cells_at (Q : Pls) (i : Nat) (h : i < Q.length) : Q.cells[3 * i]? = some (ptr Q[i].1.now) ∧ Q.cells[3 * i + 1]? = some (ptrO Q[i].1.safe) ∧ Q.cells[3 * i + 2]? = some (.bool Q[i].1.waits) := by
  induction Q generalizing i with
  | nil => simp at h
  | cons x r ih =>
    have hl : (PQ.cells x.1).length = 3 := rfl
    unfold Pls.cells at ih ⊢
    cases i with
    | zero => exact ⟨rfl, rfl, rfl⟩
    | succ i =>
      obtain ⟨h1, h2, h3⟩ := ih i (by simpa using h)
      simp only [List.flatMap_cons, List.getElem_cons_succ]
      rw [List.getElem?_append_right (by omega), List.getElem?_append_right (by omega), List.getElem?_append_right (by omega), hl]
      have e1 : 3 * (i + 1) - 3 = 3 * i := by omega
      have e2 : 3 * (i + 1) + 1 - 3 = 3 * i + 1 := by omega
      have e3 : 3 * (i + 1) + 2 - 3 = 3 * i + 2 := by omega
      rw [e1, e2, e3]
      exact ⟨h1, h2, h3⟩

theorem Pls.cells_at_drop (Q : Pls) (i : Nat) (h : i < Q.length) : Q.cells = (Pls.cells (Q.take i)) ++ (Q[i].1.cells ++ Pls.cells (Q.drop (i + 1))) := by
  have e : Q = Q.take i ++ (Q[i] :: Q.drop (i + 1)) := by rw [List.getElem_cons_drop, List.take_append_drop]
  have e2 := congrArg Pls.cells e
  rw [Pls.cells_append] at e2
  exact e2
theorem take_len (Q : Pls) (i : Nat) (h : i < Q.length) : (Pls.cells (Q.take i)).length = 3 * i := by
  rw [Pls.cells_len, List.length_take]; omega
theorem set_split {α : Type} (a b : List α) (n : Nat) (h : a.length = n) (j : Nat) (x : α) : (a ++ b).set (n + j) x = a ++ b.set j x := by
  subst h
  rw [List.set_append_right _ _ (by omega), show a.length + j - a.length = j by omega]
theorem Pls.cells_setq (Q : Pls) (i : Nat) (h : i < Q.length) (y : PQ × Plc) : Pls.cells (Q.set i y) = Pls.cells (Q.take i) ++ (y.1.cells ++ Pls.cells (Q.drop (i + 1))) := by
  rw [List.set_eq_take_append_cons_drop, if_pos h, Pls.cells_append]
  rfl
/-- Three stores at a place. -/
theorem Pls.cells_set3 (Q : Pls) (i : Nat) (h : i < Q.length) (y : PQ × Plc) :
    (((Q.cells.set (3 * i) (ptr y.1.now)).set (3 * i + 1) (ptrO y.1.safe)).set (3 * i + 2) (.bool y.1.waits)) = Pls.cells (Q.set i y) := by
  have hl := take_len Q i h
  rw [Pls.cells_setq Q i h, Pls.cells_at_drop Q i h]
  have e : (Pls.cells (Q.take i) ++ (Q[i].1.cells ++ Pls.cells (Q.drop (i + 1)))).set (3 * i) (ptr y.1.now) = _ := set_split (Pls.cells (Q.take i)) (Q[i].1.cells ++ Pls.cells (Q.drop (i + 1))) (3 * i) hl 0 (ptr y.1.now)
  rw [e, set_split _ _ _ hl 1, set_split _ _ _ hl 2]
  rfl
/-- One store at a place: its safe state. -/
theorem Pls.cells_set1 (Q : Pls) (i : Nat) (h : i < Q.length) (o : Option Nat) (p : Plc) :
    (Q.cells.set (3 * i + 1) (ptrO o)) = Pls.cells (Q.set i (⟨Q[i].1.now, o, Q[i].1.waits⟩, p)) := by
  have hl := take_len Q i h
  rw [Pls.cells_setq Q i h, Pls.cells_at_drop Q i h, set_split _ _ _ hl 1]
  rfl

theorem mem_set {α : Type} {l : List α} {i : Nat} {a x : α} (h : x ∈ l.set i a) : x ∈ l ∨ x = a := List.mem_or_eq_of_mem_set h
/-- A place of a file is another one. -/
theorem FileAt.put {tag tag' : Nat → Tag} {w w' : World} {n : Nam} {f : Nat} {F : Fil} {g cap : Nat} {Q : Pls} (h : FileAt tag w n f F (.slice (some ⟨g, 0, none⟩) Q.length cap) Q) (i : Nat) (y : PQ × Plc)
    (hrow : w'.ownsRow 0 tPlace 3 (.slice (some ⟨g, 0, none⟩) Q.length cap) Q.length (Pls.cells (Q.set i y))) (hc : Chg (· = g) w w') (ht : ∀ k, k < w.heap.size → tag' k = tag k) (hy : PlcAt tag' w' y.1 y.2) :
    FileAt tag' w' n f ⟨F.ps.set i y.2, F.sure⟩ (.slice (some ⟨g, 0, none⟩) Q.length cap) (Q.set i y) := by
  have hf := lt_of_block h.blk
  have hg := (h.row.lt g rfl).2
  have hne : f ≠ g := fun e => by have h1 := h.tagb; rw [e, h.tagr g rfl] at h1; cases h1
  refine ⟨hc.at h.blk hne, (ht f hf).trans h.tagb, ?_, ?_, ?_, ?_, ?_⟩
  · rw [List.length_set]; exact hrow
  · intro k hk
    have e : g = k := by simpa [Value.ownBlock] using hk
    rw [ht k (by omega)]
    exact h.tagr k hk
  · intro x hx
    rcases mem_set hx with hx | rfl
    · exact (h.pls x hx).kept hc ht (by rintro k rfl e; rw [h.tagr k rfl] at e; cases e)
    · exact hy
  · rw [List.map_set, h.ps]
  · rw [List.length_set]; exact h.len

/-- The first k have been done. -/
def part {α : Type} (h : α → α) (Q : List α) (k : Nat) : List α := (Q.take k).map h ++ Q.drop k
theorem part_len {α : Type} (h : α → α) (Q : List α) (k : Nat) : (part h Q k).length = Q.length := by simp [part]; omega
theorem part_zero {α : Type} (h : α → α) (Q : List α) : part h Q 0 = Q := by simp [part]
theorem part_all {α : Type} (h : α → α) (Q : List α) : part h Q Q.length = Q.map h := by simp [part]
theorem part_get {α : Type} (h : α → α) (Q : List α) (k : Nat) (hk : k < Q.length) : (part h Q k)[k]'(by rw [part_len]; exact hk) = Q[k] := by
  have hl : ((Q.take k).map h).length = k := by simp; omega
  have : (part h Q k)[k]? = some Q[k] := by
    unfold part
    rw [List.getElem?_append_right (by omega), hl, Nat.sub_self, List.getElem?_drop, Nat.add_zero, List.getElem?_eq_getElem hk]
  rw [List.getElem?_eq_getElem (by rw [part_len]; exact hk)] at this
  exact Option.some.inj this
theorem part_set {α : Type} (h : α → α) (Q : List α) (k : Nat) (hk : k < Q.length) : (part h Q k).set k (h Q[k]) = part h Q (k + 1) := by
  have hl : ((Q.take k).map h).length = k := by simp; omega
  unfold part
  rw [List.set_append_right _ _ (by omega), hl, Nat.sub_self, List.take_succ_eq_append_getElem hk, List.map_append, List.append_assoc, List.drop_eq_getElem_cons hk]
  rfl

end Disk
end Go.Proofs.Ytiomojidfkpagaa
