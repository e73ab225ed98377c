/-
  The reference's cache in memory: the box and its row of pages, every block in a set R; rows of pages of the call's own.
-/
import Derived.Test.YthciofgkdfideaaCacheMath
namespace Go.Proofs.Ythciofgkdfideaa
open Go.RowKit
namespace Ca
open Num (hid)
open Mem (Bs bs tI tS Chg Row ptr blk_cell blk_free blk_new blk_set blk_other blk_alloc row_kept row_shape row_type append_from)
abbrev tO : TypeId := 60
abbrev tOs : TypeId := 36
abbrev tU : TypeId := 38
abbrev tP : TypeId := 44
abbrev tPs : TypeId := 33
def oV (x : One) : List Value := [.int .i64 x.n, .string (bs x.d), .bool x.w]
def pV (x : Pg) : List Value := [.int .i64 x.1, .string (bs x.2)]
theorem oV_len (x : One) : (oV x).length = 3 := rfl
theorem pV_len (x : Pg) : (pV x).length = 2 := rfl
theorem oneInfo : ∃ i, Try.prog.info? tO = some i ∧ i.zero = some (.agg #[.int .i64 0, .string ⟨#[]⟩, .bool false]) ∧ i.size = 3 ∧ i.bytes = 32 := by
  refine ⟨_, rfl, ?_⟩
  refine ⟨?_, ?_, ?_⟩ <;> rfl
theorem pgInfo : ∃ i, Try.prog.info? tP = some i ∧ i.zero = some (.agg #[.int .i64 0, .string ⟨#[]⟩]) ∧ i.size = 2 ∧ i.bytes = 24 := by
  refine ⟨_, rfl, ?_⟩
  refine ⟨?_, ?_, ?_⟩ <;> rfl
/-- A row of pages of the call's own, every block of it in R. -/
abbrev OR (R : Nat → Prop) (w : World) (v : Value) (l : Row) : Prop := Mem.Row R w tO 3 v l.length (l.flatMap oV)
abbrev PR (R : Nat → Prop) (w : World) (v : Value) (l : List Pg) : Prop := Mem.Row R w tP 2 v l.length (l.flatMap pV)
theorem flat_one {α : Type} {enc : α → List Value} (h : ∀ a, ∀ u ∈ enc a, u.oneCell' = true) (l : List α) : ∀ u ∈ l.flatMap enc, u.oneCell' = true := by
  intro u hu
  obtain ⟨x, -, hx⟩ := List.mem_flatMap.1 hu
  exact h x u hx
theorem oV_one (x : One) : ∀ u ∈ oV x, u.oneCell' = true := by
  intro u hu
  simp only [oV, List.mem_cons, List.not_mem_nil, or_false] at hu
  rcases hu with rfl | rfl | rfl <;> rfl
theorem pV_one (x : Pg) : ∀ u ∈ pV x, u.oneCell' = true := by
  intro u hu
  simp only [pV, List.mem_cons, List.not_mem_nil, or_false] at hu
  rcases hu with rfl | rfl <;> rfl
/-- One page more. -/
theorem push_o {R : Nat → Prop} {w : World} {v : Value} {l : Row} (h : OR R w v l) (hR : ∀ k, w.heap.size ≤ k → R k) (x : One) (hn : l.length ≤ 100000) :
    ∃ v' w', (Builtin.append_ #[tOs, tOs] tOs #[v, .slice (some ⟨w.heap.size, 0, none⟩) 1 1]).run Try.prog (w.alloc (.cells #[.int .i64 x.n, .string (bs x.d), .bool x.w] tO)) = .ok v' w' ∧ OR R w' v' (l ++ [x]) ∧ Chg (fun k => v.ownBlock = some k) w w' ∧ (∀ k, v'.ownBlock = some k → v.ownBlock = some k ∨ w.heap.size ≤ k) := by
  obtain ⟨i, hi, h0, h1, h2⟩ := oneInfo
  obtain ⟨v', w', hr, ho, hc, hw⟩ := append_from tOs tO i _ 3 32 Try.underlying36 hi h0 h1 h2 rfl (by decide) (by decide) (h.1.alloc (.cells #[.int .i64 x.n, .string (bs x.d), .bool x.w] tO)) (b := w.heap.size) (o := 0) (m := 1) (c := 1) (ys := oV x) rfl (by
    intro j hj
    rw [Nat.zero_add, blk_cell (blk_new w _) j, List.getElem?_toArray]
    exact List.getElem?_eq_getElem hj) (oV_one x) (by omega)
  have hk : ∀ k, v'.ownBlock = some k → v.ownBlock = some k ∨ w.heap.size ≤ k := fun k hk => by
    rcases hw k hk with h | h
    · exact Or.inl h
    · right; simp at h; omega
  refine ⟨v', w', hr, ⟨?_, fun g hg => ?_⟩, ((Chg.refl _ w).alloc _).trans hc, hk⟩
  · rw [List.flatMap_append, List.length_append]
    simpa using ho
  · rcases hk g hg with h2 | h2
    · exact h.2 g h2
    · exact hR g h2
theorem push_p {R : Nat → Prop} {w : World} {v : Value} {l : List Pg} (h : PR R w v l) (hR : ∀ k, w.heap.size ≤ k → R k) (x : Pg) (hn : l.length ≤ 100000) :
    ∃ v' w', (Builtin.append_ #[tPs, tPs] tPs #[v, .slice (some ⟨w.heap.size, 0, none⟩) 1 1]).run Try.prog (w.alloc (.cells #[.int .i64 x.1, .string (bs x.2)] tP)) = .ok v' w' ∧ PR R w' v' (l ++ [x]) ∧ Chg (fun k => v.ownBlock = some k) w w' ∧ (∀ k, v'.ownBlock = some k → v.ownBlock = some k ∨ w.heap.size ≤ k) := by
  obtain ⟨i, hi, h0, h1, h2⟩ := pgInfo
  obtain ⟨v', w', hr, ho, hc, hw⟩ := append_from tPs tP i _ 2 24 Try.underlying33 hi h0 h1 h2 rfl (by decide) (by decide) (h.1.alloc (.cells #[.int .i64 x.1, .string (bs x.2)] tP)) (b := w.heap.size) (o := 0) (m := 1) (c := 1) (ys := pV x) rfl (by
    intro j hj
    rw [Nat.zero_add, blk_cell (blk_new w _) j, List.getElem?_toArray]
    exact List.getElem?_eq_getElem hj) (pV_one x) (by omega)
  have hk : ∀ k, v'.ownBlock = some k → v.ownBlock = some k ∨ w.heap.size ≤ k := fun k hk => by
    rcases hw k hk with h | h
    · exact Or.inl h
    · right; simp at h; omega
  refine ⟨v', w', hr, ⟨?_, fun g hg => ?_⟩, ((Chg.refl _ w).alloc _).trans hc, hk⟩
  · rw [List.flatMap_append, List.length_append]
    simpa using ho
  · rcases hk g hg with h2 | h2
    · exact h.2 g h2
    · exact hR g h2
/-- A row as it is read: three cells a page, its block in R and of the row's type. -/
def LR (R : Nat → Prop) (w : World) (v : Value) (l : Row) : Prop :=
  (v = .slice none 0 0 ∧ l = []) ∨ ∃ b o cap cur, v = .slice (some ⟨b, o, none⟩) l.length cap ∧ l.length ≤ cap ∧ R b ∧ w.heap[b]? = some (.cells cur tO (0, 0)) ∧ ∀ j (h : j < l.length) i, i < 3 → w.cell? ⟨b, o + j * 3 + i, none⟩ = (oV l[j])[i]?
theorem LR.nil (R : Nat → Prop) (w : World) : LR R w (.slice none 0 0) [] := Or.inl ⟨rfl, rfl⟩
theorem LR.at {R F : Nat → Prop} {w w' : World} {v : Value} {l : Row} (h : LR R w v l) (hc : Chg F w w') (hF : ∀ b cur, R b → w.heap[b]? = some (.cells cur tO (0, 0)) → ¬ F b) : LR R w' v l := by
  rcases h with h | ⟨b, o, cap, cur, h1, h2, h3, h4, h5⟩
  · exact Or.inl h
  · exact Or.inr ⟨b, o, cap, cur, h1, h2, h3, hc.at h4 (hF b cur h3 h4), fun j hj i hi => (hc.cell (lt_of_block h4) (hF b cur h3 h4)).trans (h5 j hj i hi)⟩
theorem LR.mono {R R' : Nat → Prop} {w : World} {v : Value} {l : Row} (h : LR R w v l) (hR : ∀ g, g < w.heap.size → R g → R' g) : LR R' w v l := by
  rcases h with h | ⟨b, o, cap, cur, h1, h2, h3, h4, h5⟩
  · exact Or.inl h
  · exact Or.inr ⟨b, o, cap, cur, h1, h2, hR b (lt_of_block h4) h3, h4, h5⟩
theorem OR.read {R : Nat → Prop} {w : World} {v : Value} {l : Row} (h : OR R w v l) : LR R w v l := by
  rcases h.1.2 with ⟨rfl, h0⟩ | ⟨g, cap, cur, rfl, h1, h2, h3, h4, h5, h6⟩
  · exact Or.inl ⟨rfl, List.length_eq_zero_iff.1 h0⟩
  · refine Or.inr ⟨g, 0, cap, cur, rfl, h3, h.2 g rfl, h2, fun j hj i hi => ?_⟩
    rw [Nat.zero_add, ← Mem.flat_at oV_len l j hj i hi]
    refine h.1.cellAt _ ?_
    omega
/-- l[1:]. -/
theorem LR.tail {R : Nat → Prop} {w : World} {ao : Option Addr} {n cap : Nat} {l : Row} (h : LR R w (.slice ao n cap) l) (hn : 1 ≤ n) : LR R w (Mem.dropS 3 ao n cap 1) (l.drop 1) := by
  rcases h with ⟨hv, rfl⟩ | ⟨b, o, cap', cur, hv, h2, h3, h4, h5⟩
  · cases hv
    omega
  · cases hv
    unfold Mem.dropS
    by_cases hck : cap = 1
    · rw [if_pos hck, List.drop_of_length_le (by omega)]
      exact Or.inr ⟨b, o, cap - 1, cur, by rw [show l.length - 1 = 0 by omega]; rfl, Nat.zero_le _, h3, h4, fun j hj => absurd hj (Nat.not_lt_zero _)⟩
    · rw [if_neg hck]
      refine Or.inr ⟨b, o + 1 * 3, cap - 1, cur, by rw [List.length_drop]; simp [Addr.add], by rw [List.length_drop]; omega, h3, h4, fun j hj i hi => ?_⟩
      have hjl : 1 + j < l.length := by rw [List.length_drop] at hj; omega
      have e : (l.drop 1)[j] = l[1 + j] := List.getElem_drop ..
      rw [e]
      have h6 := h5 (1 + j) hjl i hi
      rw [show o + (1 + j) * 3 + i = o + 1 * 3 + j * 3 + i by omega] at h6
      exact h6
theorem LR.ways {R : Nat → Prop} {w : World} {v : Value} {l : Row} (h : LR R w v l) : ∃ ao cap, v = .slice ao l.length cap ∧ l.length ≤ cap ∧ ∀ j (hj : j < l.length), ∃ b o, ao = some ⟨b, o, none⟩ ∧ b < w.heap.size ∧
    w.cell? ⟨b, o + j * 3, none⟩ = some (.int .i64 l[j].n) ∧ w.cell? ⟨b, o + j * 3 + 1, none⟩ = some (.string (bs l[j].d)) ∧ w.cell? ⟨b, o + j * 3 + 2, none⟩ = some (.bool l[j].w) := by
  rcases h with ⟨rfl, rfl⟩ | ⟨b, o, cap, cur, rfl, h2, h3, h4, h5⟩
  · exact ⟨none, 0, rfl, Nat.zero_le _, fun j hj => absurd hj (Nat.not_lt_zero _)⟩
  · exact ⟨_, cap, rfl, h2, fun j hj => ⟨b, o, rfl, lt_of_block h4, h5 j hj 0 (by decide), h5 j hj 1 (by decide), h5 j hj 2 (by decide)⟩⟩
/-- The reference's cache. -/
structure RU (R : Nat → Prop) (w : World) (u : Nat) (size : Nat) (l : Row) : Prop where
  own : R u
  box : ∃ v, w.heap[u]? = some (.cells #[.int .i64 (size : Int), v] tU (0, 0)) ∧ LR R w v l
theorem RU.apart {R F : Nat → Prop} {w w' : World} {u size : Nat} {l : Row} (h : RU R w u size l) (hc : Chg F w w') (hF : ∀ k, F k → ¬ R k) : RU R w' u size l := by
  obtain ⟨v, h1, h2⟩ := h.box
  exact ⟨h.own, v, hc.at h1 (fun e => hF u e h.own), h2.at hc (fun b _ hb _ e => hF b e hb)⟩
theorem RU.on {R : Nat → Prop} {w w' : World} {u size : Nat} {l : Row} (h : RU R w u size l) (hb : Below w.heap.size w w') : RU R w' u size l := h.apart (F := fun _ => False) (Chg.of_below hb) (fun _ h => h.elim)
theorem RU.mono {R R' : Nat → Prop} {w : World} {u size : Nat} {l : Row} (h : RU R w u size l) (hR : ∀ g, g < w.heap.size → R g → R' g) : RU R' w u size l := by
  obtain ⟨v, h1, h2⟩ := h.box
  exact ⟨hR u (lt_of_block h1) h.own, v, h1, h2.mono hR⟩
theorem RU.lt {R : Nat → Prop} {w : World} {u size : Nat} {l : Row} (h : RU R w u size l) : u < w.heap.size := by
  obtain ⟨v, h1, -⟩ := h.box
  exact lt_of_block h1
theorem ne_box {w : World} {u b : Nat} {c cur : Array Value} (h1 : w.heap[u]? = some (.cells c tU (0, 0))) (h2 : w.heap[b]? = some (.cells cur tO (0, 0))) : b ≠ u := by
  rintro rfl
  rw [h1] at h2
  simp only [Option.some.injEq, Obj.cells.injEq] at h2
  exact absurd h2.2.1 (by decide)
/-- c.L = l. -/
theorem RU.turn {R : Nat → Prop} {w : World} {u size : Nat} {l l' : Row} (h : RU R w u size l) {v : Value} (hv : LR R w v l') : RU R (w.setCell ⟨u, 1, none⟩ v) u size l' ∧ Chg (· = u) w (w.setCell ⟨u, 1, none⟩ v) := by
  obtain ⟨v0, h1, h2⟩ := h.box
  have hs : Chg (· = u) w (w.setCell ⟨u, 1, none⟩ v) := (Chg.refl _ w).root 1 _
  exact ⟨⟨h.own, v, blk_set h1 1 v, hv.at hs (fun b cur _ hb e => ne_box h1 hb e)⟩, hs⟩
end Ca
end Go.Proofs.Ythciofgkdfideaa
