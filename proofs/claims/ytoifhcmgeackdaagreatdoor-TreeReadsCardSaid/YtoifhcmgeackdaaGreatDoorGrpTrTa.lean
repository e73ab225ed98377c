/-
  Put together: TreeRowK, TreeRowL.
-/
import Derived.Laws.CopyRow
import Derived.Laws.AppendOwn
import Derived.Lib.AppendZerosOnto
import Derived.Lib.Overlaps
import Derived.ProofKit
import Derived.Test.YtoifhcmgeackdaaGreatDoorGrpTrNoA
import Derived.Test.YtoifhcmgeackdaaGreatDoorMem
/-
  Rows whose elements have k cells: copy and clear within a block.
-/
namespace Go.Proofs.YtoifhcmgeackdaaGreatDoor
open Go.RowKit
namespace Tr
variable {P : Program}
theorem run_copyK (w : World) (dT sT ty elem : TypeId) (k g o dLen dCap : Nat) (a : Addr) (sLen sCap : Nat) (cur : Array Value) (t : TypeId) (cs : List Value)
    (hu : P.underlying dT = some (.slice elem)) (hs : (P.info? elem).map (·.size) = some k)
    (hg : w.heap[g]? = some (.cells cur t (0, 0))) (hn : cs.length = min sLen dLen * k)
    (hsrc : ∀ j v, cs[j]? = some v → w.cell? (a.add j) = some v) (hfit : o + cs.length ≤ cur.size) (h1 : ∀ v ∈ cs, v.oneCell' = true) :
    (Builtin.copy_ #[dT, sT] ty #[.slice (some ⟨g, o, none⟩) dLen dCap, .slice (some a) sLen sCap]).run P w =
      .ok (goInt ((min sLen dLen : Nat) : Int)) (w.setRow g (cur.toList.take o ++ cs ++ cur.toList.drop (o + cs.length)).toArray) := by
  have hl := run_loadCells_list (P := P) w a cs hsrc
  have hst := run_storeCells_at P g o t cs 0 cur w hg (by simpa using hfit) h1
  cases hq : P.info? elem with
  | none => simp [hq] at hs
  | some i =>
    have hi : i.size = k := by simpa [hq] using hs
    rw [hn] at hl
    simp [Builtin.copy_, run_underlying hu, Builtin.lenOf, Builtin.firstCells, sizeOf, typeInfo, hq, hi, hl, hst]
theorem run_clearK (w : World) (t ty e : TypeId) (z : Value) (k g o n c : Nat) (cur : Array Value) (hu : P.underlying t = some (.slice e)) (hz : (zeroValue e).run P w = .ok z w) (hk : z.cells.size = k) (h1 : ∀ v ∈ z.cells.toList, v.oneCell' = true)
    (hg : w.heap[g]? = some (.cells cur e (0, 0))) (hfit : o + n * k ≤ cur.size) (hn : n ≠ 0) :
    (Builtin.clear_ #[t] ty #[.slice (some ⟨g, o, none⟩) n c]).run P w = .ok (.tuple #[]) (w.setRow g (cur.toList.take o ++ (Builtin.zeroCells z.cells n).toList ++ cur.toList.drop (o + n * k)).toArray) := by
  have hlen : (Builtin.zeroCells z.cells n).toList.length = n * k := by rw [Array.length_toList, size_zeroCells, hk]
  have hall : ∀ v ∈ (Builtin.zeroCells z.cells n).toList, v.oneCell' = true := by
    intro v hv
    obtain ⟨j, hj, rfl⟩ := List.getElem_of_mem hv
    refine h1 _ ?_
    have hpos : 0 < z.cells.size := by
      rcases Nat.eq_zero_or_pos z.cells.size with h0 | h0
      · rw [hlen, ← hk, h0] at hj; omega
      · exact h0
    have hm := Nat.mod_lt j hpos
    simp only [Builtin.zeroCells, Array.getElem_toList, Array.getElem_map, Array.getElem_range]
    rw [getElem!_pos z.cells _ hm]
    exact Array.getElem_mem_toList hm
  have hst := run_storeCells_at P g o e (Builtin.zeroCells z.cells n).toList 0 cur w hg (by rw [hlen]; omega) hall
  rw [hlen] at hst
  cases n with
  | zero => exact absurd rfl hn
  | succ n => simp [Builtin.clear_, run_underlying hu, hz, hst]
/-- 'clear' at the operation, where its run is known by an equation. -/
theorem wpList_clear_run {w : World} {ops : Array Oper} {rest : List Oper} {o : Oper} {a : Act} {Q : Exit → Act → World → Prop} (hgd : o.guard = none) (d : Operand) (t : TypeId)
    (ho : o.op = .call { callee := .builtin .clear, args := #[d], argTypes := #[t] }) (v : Value) (hd : a.eval d = v) {v' : Value} {w' : World}
    (hr : (Builtin.clear_ #[t] o.type #[v]).run P w = .ok v' w') (h : wpList P ops Q rest (a.put o.dst v') w') : wpList P ops Q (o :: rest) a w := by
  refine wpList_plain hgd fun K hK => ?_
  unfold Oper.wp execOp
  simp only [ho, resolve, invoke, builtin, Sem.run_bind, Sem.run_pure, Result.andThen_ok, List.map_toArray, List.map_cons, List.map_nil, hd, hr]
  exact hK _ _ h
end Tr
end Go.Proofs.YtoifhcmgeackdaaGreatDoor

/-
  Rows of the call's own whose elements have k cells: what Insert and Delete leave.
-/
namespace Go.Proofs.YtoifhcmgeackdaaGreatDoor
open Go.RowKit
namespace Tr
open Num (hid)
open Mem (Chg)
open No (OwnL)
variable {α : Type} {k : Nat} {enc : α → List Value} {t : TypeId}
theorem flat_take (he : ∀ a, (enc a).length = k) : ∀ (l : List α) (i : Nat), (l.take i).flatMap enc = (l.flatMap enc).take (i * k)
  | [], i => by simp
  | a :: l, 0 => by simp
  | a :: l, i + 1 => by
    rw [List.take_succ_cons, List.flatMap_cons, List.flatMap_cons, flat_take he l i, Nat.add_mul, Nat.one_mul, Nat.add_comm (i * k) k, List.take_append, he, List.take_of_length_le (l := enc a) (by rw [he]; omega), Nat.add_sub_cancel_left]
theorem flat_drop (he : ∀ a, (enc a).length = k) : ∀ (l : List α) (i : Nat), (l.drop i).flatMap enc = (l.flatMap enc).drop (i * k)
  | [], i => by simp
  | a :: l, 0 => by simp
  | a :: l, i + 1 => by
    rw [List.drop_succ_cons, List.flatMap_cons, flat_drop he l i, Nat.add_mul, Nat.one_mul, Nat.add_comm (i * k) k, List.drop_append, he, List.drop_of_length_le (l := enc a) (by rw [he]; omega), Nat.add_sub_cancel_left, List.nil_append]
theorem flat_len' (he : ∀ a, (enc a).length = k) (l : List α) : (l.flatMap enc).length = l.length * k := No.flat_len he l
theorem own_form {base : Nat} {x : Value} {l : List α} {w : World} (h : OwnL t k enc w base x l) : ∃ ao cap, x = .slice ao l.length cap := by
  rcases h.2 with ⟨rfl, h0⟩ | ⟨g, cap, cur, rfl, _⟩
  · exact ⟨none, 0, by rw [h0]⟩
  · exact ⟨_, cap, rfl⟩
theorem own_snoc {base : Nat} {v : Value} {l : List α} {x : α} {w : World} (h : w.ownsRow base t k v (l.length + 1) (l.flatMap enc ++ enc x)) : OwnL t k enc w base v (l ++ [x]) := by
  unfold OwnL
  rw [List.flatMap_append, List.length_append, List.flatMap_cons, List.flatMap_nil, List.append_nil]
  exact h
theorem cells_at {w : World} {b : Nat} {xs : List Value} {t : TypeId} (h : w.heap[b]? = some (.cells xs.toArray t (0, 0))) (j : Nat) (hj : j < xs.length) : w.cell? ⟨b, 0 + j, none⟩ = some xs[j] := by
  rw [Nat.zero_add, Mem.blk_cell h j]
  simp
/-- What Insert leaves: a row with x at i; no block but the row's own has turned. -/
def InsPost (t : TypeId) (k : Nat) (enc : α → List Value) (w : World) (v : Value) (l : List α) (i : Nat) (x : α) (e : Ending) (w' : World) : Prop :=
  ∃ v', e = .returned v' ∧ OwnL t k enc w' 0 v' (l.take i ++ x :: l.drop i) ∧ (∀ g, v'.ownBlock = some g → v.ownBlock = some g ∨ w.heap.size ≤ g) ∧ Chg (fun g => v.ownBlock = some g) w w'
/-- What Delete leaves: a row without its element i. -/
def DelPost (t : TypeId) (k : Nat) (enc : α → List Value) (w : World) (v : Value) (l : List α) (i : Nat) (e : Ending) (w' : World) : Prop :=
  ∃ v', e = .returned v' ∧ OwnL t k enc w' 0 v' (l.take i ++ l.drop (i + 1)) ∧ (∀ g, v'.ownBlock = some g → v.ownBlock = some g) ∧ Chg (fun g => v.ownBlock = some g) w w'
theorem setRow_size (w : World) (g : Nat) (cs : Array Value) : (w.setRow g cs).heap.size = w.heap.size := by simp [World.setRow]
theorem Chg.setRow {F : Nat → Prop} {a w : World} (h : Chg F a w) {g : Nat} (hg : a.heap.size ≤ g ∨ F g) (cs : Array Value) : Chg F a (w.setRow g cs) :=
  ⟨h.os, h.tape, h.output, by simpa [World.setRow] using h.size, fun j hj hF => by
    rw [setRow_other _ _ _ _ (fun e => by rcases hg with h1 | h1; omega; exact hF (e ▸ h1))]
    exact h.block j hj hF⟩
end Tr
end Go.Proofs.YtoifhcmgeackdaaGreatDoor
