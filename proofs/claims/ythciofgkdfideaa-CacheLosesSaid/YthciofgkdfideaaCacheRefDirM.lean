/-
  The reference's Dirty, its plain part: one page put into those that rise, as the loop does it; the row that it makes.
-/
import Derived.Test.YthciofgkdfideaaCacheRefWo
namespace Go.Proofs.Ythciofgkdfideaa
open Go.RowKit
namespace Ca
open Num (hid)
open Mem (Bs bs tI tS Chg Row ptr blk_cell blk_free blk_new row_shape row_type)
theorem ins_pass {x : Pg} {a : List Pg} (h : ∀ y ∈ a, ¬ x.1 < y.1) (b : List Pg) : ins x (a ++ b) = a ++ ins x b := by
  induction a with
  | nil => rfl
  | cons y a ih =>
    have e : ins x (y :: (a ++ b)) = y :: ins x (a ++ b) := if_neg (h y List.mem_cons_self)
    rw [List.cons_append, e, ih (fun z hz => h z (List.mem_cons_of_mem _ hz)), List.cons_append]
theorem ins_snoc {x : Pg} {a : List Pg} (h : ∃ y ∈ a, x.1 < y.1) (b : List Pg) : ins x (a ++ b) = ins x a ++ b := by
  induction a with
  | nil => obtain ⟨y, hy, -⟩ := h; cases hy
  | cons y a ih =>
    by_cases hy : x.1 < y.1
    · have e1 : ins x (y :: (a ++ b)) = x :: y :: (a ++ b) := if_pos hy
      have e2 : ins x (y :: a) = x :: y :: a := if_pos hy
      rw [List.cons_append, e1, e2]
      rfl
    · have e1 : ins x (y :: (a ++ b)) = y :: ins x (a ++ b) := if_neg hy
      have e2 : ins x (y :: a) = y :: ins x a := if_neg hy
      obtain ⟨z, hz, hl⟩ := h
      rcases List.mem_cons.1 hz with rfl | hz
      · exact absurd hl hy
      · rw [List.cons_append, e1, e2, ih ⟨z, hz, hl⟩]
        rfl
/-- Whether the page has been put in already, and what stands there then. -/
def putK (x : Pg) (O : List Pg) (k : Nat) : Bool := (O.take k).any (fun y => decide (x.1 < y.1))
def nextK (x : Pg) (O : List Pg) (k : Nat) : List Pg := if putK x O k then ins x (O.take k) else O.take k
theorem put_mem {x : Pg} {O : List Pg} {k : Nat} (h : putK x O k = true) : ∃ y ∈ O.take k, x.1 < y.1 := by
  unfold putK at h
  obtain ⟨y, hy, e⟩ := List.any_eq_true.1 h
  exact ⟨y, hy, of_decide_eq_true e⟩
theorem put_none {x : Pg} {O : List Pg} {k : Nat} (h : putK x O k = false) : ∀ y ∈ O.take k, ¬ x.1 < y.1 := by
  intro y hy e
  unfold putK at h
  rw [List.any_eq_false] at h
  exact h y hy (decide_eq_true e)
theorem put_succ {x : Pg} {O : List Pg} {k : Nat} (h : k < O.length) : putK x O (k + 1) = (putK x O k || decide (x.1 < O[k].1)) := by
  unfold putK
  rw [take_succ_at h, List.any_append]
  simp
theorem next_on {x : Pg} {O : List Pg} {k : Nat} (h : k < O.length) (hp : putK x O k = true) : putK x O (k + 1) = true ∧ nextK x O (k + 1) = nextK x O k ++ [O[k]] := by
  have h2 : putK x O (k + 1) = true := by rw [put_succ h, hp]; rfl
  refine ⟨h2, ?_⟩
  unfold nextK
  rw [h2, hp, if_pos rfl, if_pos rfl, take_succ_at h, ins_snoc (put_mem hp)]
theorem next_in {x : Pg} {O : List Pg} {k : Nat} (h : k < O.length) (hp : putK x O k = false) (hl : x.1 < O[k].1) : putK x O (k + 1) = true ∧ nextK x O (k + 1) = (nextK x O k ++ [x]) ++ [O[k]] := by
  have h2 : putK x O (k + 1) = true := by rw [put_succ h, hp, decide_eq_true hl]; rfl
  refine ⟨h2, ?_⟩
  unfold nextK
  rw [h2, hp, if_pos rfl, if_neg (by simp), take_succ_at h, ins_pass (put_none hp)]
  have e : ins x [O[k]] = [x, O[k]] := if_pos hl
  rw [e]
  simp
theorem next_off {x : Pg} {O : List Pg} {k : Nat} (h : k < O.length) (hp : putK x O k = false) (hl : ¬ x.1 < O[k].1) : putK x O (k + 1) = false ∧ nextK x O (k + 1) = nextK x O k ++ [O[k]] := by
  have h2 : putK x O (k + 1) = false := by rw [put_succ h, hp, decide_eq_false hl]; rfl
  refine ⟨h2, ?_⟩
  unfold nextK
  rw [h2, hp, if_neg (by simp), if_neg (by simp), take_succ_at h]
theorem next_end {x : Pg} {O : List Pg} : (putK x O O.length = true ∧ nextK x O O.length = ins x O) ∨ (putK x O O.length = false ∧ nextK x O O.length ++ [x] = ins x O) := by
  cases hp : putK x O O.length with
  | true =>
    refine Or.inl ⟨rfl, ?_⟩
    unfold nextK
    rw [hp, if_pos rfl, List.take_length]
  | false =>
    refine Or.inr ⟨rfl, ?_⟩
    have h2 := put_none hp
    unfold nextK
    rw [hp, if_neg (by simp), List.take_length]
    rw [List.take_length] at h2
    have h3 := ins_pass h2 []
    rw [List.append_nil] at h3
    exact h3.symm
theorem ins_len (x : Pg) (l : List Pg) : (ins x l).length = l.length + 1 := by
  induction l with
  | nil => rfl
  | cons y l ih =>
    unfold ins
    split
    · rfl
    · rw [List.length_cons, ih, List.length_cons]
theorem next_len (x : Pg) (O : List Pg) (k : Nat) : (nextK x O k).length ≤ O.length + 1 := by
  unfold nextK
  split
  · rw [ins_len, List.length_take]; omega
  · rw [List.length_take]; omega
theorem dirty_zero : dirtyM [] = [] := rfl
theorem dirty_no {l : Row} {i : Nat} (h : i < l.length) (e : l[i].w = false) : dirtyM (l.take (i + 1)) = dirtyM (l.take i) := by
  unfold dirtyM
  rw [take_succ_at h, List.filter_append, List.filter_cons_of_neg (by simp [e]), List.filter_nil, List.append_nil]
theorem dirty_yes {l : Row} {i : Nat} (h : i < l.length) (e : l[i].w = true) : dirtyM (l.take (i + 1)) = ins (pgOf l[i]) (dirtyM (l.take i)) := by
  unfold dirtyM
  rw [take_succ_at h, List.filter_append, List.filter_cons_of_pos e, List.filter_nil, List.map_append, List.foldl_append]
  rfl
theorem fold_len (a o : List Pg) : (a.foldl (fun o x => ins x o) o).length = o.length + a.length := by
  induction a generalizing o with
  | nil => rfl
  | cons x a ih => rw [List.foldl_cons, ih, ins_len, List.length_cons]; omega
theorem dirty_len (l : Row) : (dirtyM l).length ≤ l.length := by
  unfold dirtyM
  rw [fold_len, List.length_map, List.length_nil, Nat.zero_add]
  exact List.length_filter_le _ _
/-- The row that a round of the loop makes. -/
structure NS (w1 : World) (vn : Value) (N : List Pg) (wr : World) : Prop where
  bel : Below w1.heap.size w1 wr
  row : PR (fun g => w1.heap.size ≤ g) wr vn N
theorem NS.new (w1 : World) : NS w1 (.slice (some ⟨w1.heap.size, 0, none⟩) 0 0) [] (w1.alloc (.cells #[] tP)) := by
  refine ⟨(Below.refl _ w1).alloc (Nat.le_refl _) _, ⟨rfl, Or.inr ⟨w1.heap.size, 0, #[], rfl, Nat.zero_le _, blk_new w1 _, Nat.le_refl _, Nat.zero_le _, rfl, rfl⟩⟩, fun g hg => ?_⟩
  have e : w1.heap.size = g := by simpa [Value.ownBlock] using hg
  show w1.heap.size ≤ g
  omega
theorem NS.push {w1 wr wq : World} {vn : Value} {N : List Pg} (k : NS w1 vn N wr) (hb : Below wr.heap.size wr wq) (x : Pg) (hN : N.length ≤ 2000) :
    ∃ v' w', (Builtin.append_ #[tPs, tPs] tPs #[vn, .slice (some ⟨wq.heap.size, 0, none⟩) 1 1]).run Try.prog (wq.alloc (.cells #[.int .i64 x.1, .string (bs x.2)] tP)) = .ok v' w' ∧ NS w1 v' (N ++ [x]) w' := by
  have hs := k.bel.size
  have hs2 := hb.size
  have hp : PR (fun g => w1.heap.size ≤ g) wq vn N := k.row.kept (F := fun _ => False) (Chg.of_below hb) (fun _ _ h => h.elim)
  obtain ⟨v', w', hr, ho, hc, -⟩ := push_p hp (fun j hj => by show w1.heap.size ≤ j; omega) x (by omega)
  exact ⟨v', w', hr, (k.bel.trans (hb.mono hs)).trans (hc.below (by omega) (fun j hj e => by have := hp.2 j e; omega)), ho⟩
theorem PR.cells {Q : Nat → Prop} {w : World} {v : Value} {O : List Pg} (h : PR Q w v O) : ∃ ao cap, v = .slice ao O.length cap ∧ ∀ k (hk : k < O.length), ∃ g, ao = some ⟨g, 0, none⟩ ∧ g < w.heap.size ∧ w.cell? ⟨g, k * 2, none⟩ = some (.int .i64 O[k].1) ∧ w.cell? ⟨g, k * 2 + 1, none⟩ = some (.string (bs O[k].2)) := by
  obtain ⟨ao, cap, rfl, hao⟩ := row_shape h.1
  refine ⟨ao, cap, rfl, fun k hk => ?_⟩
  obtain ⟨g, rfl, hg⟩ := hao (by omega)
  have hf := fun j (hj : j < 2) => Mem.flat_at pV_len O k hk j hj
  have hc := fun j (hj : j < 2) => h.1.cellAt (k * 2 + j) (by omega)
  refine ⟨g, rfl, hg, ?_, ?_⟩
  · have := hc 0 (by decide)
    rw [hf 0 (by decide)] at this
    exact this
  · have := hc 1 (by decide)
    rw [hf 1 (by decide)] at this
    exact this
end Ca
end Go.Proofs.Ythciofgkdfideaa
