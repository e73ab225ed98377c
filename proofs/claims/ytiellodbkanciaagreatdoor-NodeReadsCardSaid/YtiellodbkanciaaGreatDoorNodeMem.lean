/-
  Nodes in memory: lists of keys, of cells and of pages as they are read; lists that the call itself makes.
-/
import Derived.Test.YtiellodbkanciaaGreatDoorNodeMath
import Derived.Test.YtiellodbkanciaaGreatDoorGrpNum
import Derived.Lib.Hide
import Derived.ProofKit
namespace Go.Proofs.YtiellodbkanciaaGreatDoor
open Go.RowKit
namespace No
open Num (hid)
abbrev tS : TypeId := 9
abbrev tI : TypeId := 3
abbrev tC : TypeId := 57
abbrev tN : TypeId := 26
abbrev tSs : TypeId := 22
abbrev tIs : TypeId := 24
abbrev tCs : TypeId := 23
def sV (k : Bs) : List Value := [.string (bs k)]
def iV (p : Int) : List Value := [.int .i64 p]
def C.vals (c : C) : List Value := [.int .i64 c.z, .string (bs c.d), .int .i64 c.p]
def C.agg (c : C) : Value := .agg #[.int .i64 c.z, .string (bs c.d), .int .i64 c.p]
section
variable {α : Type}
/-- A slice, as it is read: k cells an element. -/
def LAt (k : Nat) (enc : α → List Value) (w : World) (x : Value) (l : List α) : Prop :=
  ((∃ ao cap, x = .slice ao 0 cap ∧ l = []) ∨ ∃ b o cap, x = .slice (some ⟨b, o, none⟩) l.length cap ∧ l.length ≤ cap ∧ b < w.heap.size ∧ ∀ j (h : j < l.length) i, i < k → w.cell? ⟨b, o + j * k + i, none⟩ = (enc l[j])[i]?) ∧ l.length ≤ maxLen
variable {k : Nat} {enc : α → List Value} {w w' : World} {x : Value} {l : List α}
theorem LAt.nil (w : World) (ao : Option Addr) (cap : Nat) : LAt k enc w (.slice ao 0 cap) [] := ⟨Or.inl ⟨ao, cap, rfl, rfl⟩, Nat.zero_le _⟩
theorem LAt.on (h : LAt k enc w x l) (hb : Below w.heap.size w w') : LAt k enc w' x l := by
  obtain ⟨h1, h2⟩ := h
  refine ⟨?_, h2⟩
  rcases h1 with h1 | ⟨b, o, cap, hv, hc, hlt, hj⟩
  · exact Or.inl h1
  · exact Or.inr ⟨b, o, cap, hv, hc, Nat.lt_of_lt_of_le hlt hb.size, fun j h i hi => (hb.cell (p := ⟨b, o + j * k + i, none⟩) hlt).trans (hj j h i hi)⟩
theorem LAt.ways (h : LAt k enc w x l) : ∃ ao cap, x = .slice ao l.length cap ∧ l.length ≤ maxLen ∧ l.length ≤ cap ∧ ∀ j (hj : j < l.length), ∃ b o, ao = some ⟨b, o, none⟩ ∧ b < w.heap.size ∧ ∀ i, i < k → w.cell? ⟨b, o + j * k + i, none⟩ = (enc l[j])[i]? := by
  obtain ⟨h1, h2⟩ := h
  rcases h1 with ⟨ao, cap, rfl, rfl⟩ | ⟨b, o, cap, rfl, hc, hlt, hj⟩
  · exact ⟨ao, cap, rfl, h2, Nat.zero_le _, fun j hj => absurd hj (Nat.not_lt_zero _)⟩
  · exact ⟨_, cap, rfl, h2, hc, fun j h => ⟨b, o, rfl, hlt, hj j h⟩⟩
theorem LAt.room {ao : Option Addr} {n cap : Nat} (h : LAt k enc w (.slice ao n cap) l) : n = l.length ∧ n ≤ cap := by
  obtain ⟨ao', cap', hv, -, hc, -⟩ := h.ways
  cases hv
  exact ⟨rfl, hc⟩
theorem LAt.take {ao : Option Addr} {n cap : Nat} (h : LAt k enc w (.slice ao n cap) l) {m : Nat} (hm : m ≤ n) : LAt k enc w (.slice ao m cap) (l.take m) := by
  obtain ⟨h1, h2⟩ := h
  have hl : (l.take m).length ≤ maxLen := by rw [List.length_take]; omega
  refine ⟨?_, hl⟩
  rcases h1 with ⟨ao', cap', hv, rfl⟩ | ⟨b, o, cap', hv, hc, hlt, hj⟩
  · cases hv
    have : m = 0 := by omega
    subst this
    exact Or.inl ⟨ao, cap, rfl, rfl⟩
  · cases hv
    have hml : (l.take m).length = m := by rw [List.length_take]; omega
    refine Or.inr ⟨b, o, cap, by rw [hml], by rw [hml]; omega, hlt, fun j hj' => ?_⟩
    have e : (l.take m)[j] = l[j]'(by omega) := by simp
    rw [e]
    exact hj j (by omega)
/-- a[m:]. -/
def dropS (k : Nat) (ao : Option Addr) (n cap m : Nat) : Value := .slice (if cap = m then ao else ao.map (·.add (m * k))) (n - m) (cap - m)
theorem LAt.drop {ao : Option Addr} {n cap : Nat} (h : LAt k enc w (.slice ao n cap) l) {m : Nat} (hm : m ≤ n) : LAt k enc w (dropS k ao n cap m) (l.drop m) := by
  obtain ⟨h1, h2⟩ := h
  have hl : (l.drop m).length ≤ maxLen := by rw [List.length_drop]; omega
  refine ⟨?_, hl⟩
  unfold dropS
  rcases h1 with ⟨ao', cap', hv, rfl⟩ | ⟨b, o, cap', hv, hc, hlt, hj⟩
  · cases hv
    have : m = 0 := by omega
    subst this
    exact Or.inl ⟨_, _, rfl, rfl⟩
  · cases hv
    by_cases hck : cap = m
    · have e : l.drop m = [] := List.drop_of_length_le (by omega)
      rw [if_pos hck, e]
      exact Or.inl ⟨some ⟨b, o, none⟩, cap - m, by rw [show l.length - m = 0 by omega], rfl⟩
    · rw [if_neg hck]
      refine Or.inr ⟨b, o + m * k, cap - m, by rw [List.length_drop]; simp [Addr.add], by rw [List.length_drop]; omega, hlt, fun j hj' i hi => ?_⟩
      have hjl : m + j < l.length := by rw [List.length_drop] at hj'; omega
      have e : (l.drop m)[j] = l[m + j] := by simp
      rw [e]
      have h3 := hj (m + j) hjl i hi
      rw [show o + (m + j) * k + i = o + m * k + j * k + i by rw [Nat.add_mul]; omega] at h3
      exact h3
end
abbrev SAt (w : World) (x : Value) (l : List Bs) : Prop := LAt 1 sV w x l
abbrev IAt (w : World) (x : Value) (l : List Int) : Prop := LAt 1 iV w x l
abbrev CAt (w : World) (x : Value) (l : List C) : Prop := LAt 3 C.vals w x l
theorem SAt.ways1 {w : World} {x : Value} {l : List Bs} (h : SAt w x l) : ∃ ao cap, x = .slice ao l.length cap ∧ l.length ≤ maxLen ∧ l.length ≤ cap ∧ ∀ j (hj : j < l.length), ∃ b o, ao = some ⟨b, o, none⟩ ∧ b < w.heap.size ∧ w.cell? ⟨b, o + j, none⟩ = some (.string (bs l[j])) := by
  obtain ⟨ao, cap, h1, h2, h3, h4⟩ := LAt.ways h
  refine ⟨ao, cap, h1, h2, h3, fun j hj => ?_⟩
  obtain ⟨b, o, e1, e2, e3⟩ := h4 j hj
  have := e3 0 Nat.one_pos
  rw [Nat.mul_one] at this
  exact ⟨b, o, e1, e2, this⟩
theorem IAt.ways1 {w : World} {x : Value} {l : List Int} (h : IAt w x l) : ∃ ao cap, x = .slice ao l.length cap ∧ l.length ≤ maxLen ∧ l.length ≤ cap ∧ ∀ j (hj : j < l.length), ∃ b o, ao = some ⟨b, o, none⟩ ∧ b < w.heap.size ∧ w.cell? ⟨b, o + j, none⟩ = some (.int .i64 l[j]) := by
  obtain ⟨ao, cap, h1, h2, h3, h4⟩ := LAt.ways h
  refine ⟨ao, cap, h1, h2, h3, fun j hj => ?_⟩
  obtain ⟨b, o, e1, e2, e3⟩ := h4 j hj
  have := e3 0 Nat.one_pos
  rw [Nat.mul_one] at this
  exact ⟨b, o, e1, e2, this⟩
theorem CAt.ways3 {w : World} {x : Value} {l : List C} (h : CAt w x l) : ∃ ao cap, x = .slice ao l.length cap ∧ l.length ≤ maxLen ∧ l.length ≤ cap ∧ ∀ j (hj : j < l.length), ∃ b o, ao = some ⟨b, o, none⟩ ∧ b < w.heap.size ∧ w.cell? ⟨b, o + j * 3, none⟩ = some (.int .i64 l[j].z) ∧ w.cell? ⟨b, o + j * 3 + 1, none⟩ = some (.string (bs l[j].d)) ∧ w.cell? ⟨b, o + j * 3 + 2, none⟩ = some (.int .i64 l[j].p) := by
  obtain ⟨ao, cap, h1, h2, h3, h4⟩ := LAt.ways h
  refine ⟨ao, cap, h1, h2, h3, fun j hj => ?_⟩
  obtain ⟨b, o, e1, e2, e3⟩ := h4 j hj
  exact ⟨b, o, e1, e2, e3 0 (by decide), e3 1 (by decide), e3 2 (by decide)⟩
/-! ### Lists of the call's own -/
section
variable {α : Type}
abbrev OwnL (t : TypeId) (k : Nat) (enc : α → List Value) (w : World) (base : Nat) (x : Value) (l : List α) : Prop := w.ownsRow base t k x l.length (l.flatMap enc)
theorem flat_len {k : Nat} {enc : α → List Value} (he : ∀ a, (enc a).length = k) : ∀ l : List α, (l.flatMap enc).length = l.length * k
  | [] => (Nat.zero_mul _).symm
  | a :: l => by rw [List.flatMap_cons, List.length_append, he, flat_len he l, List.length_cons, Nat.add_mul, Nat.one_mul, Nat.add_comm]
theorem flat_at {k : Nat} {enc : α → List Value} (he : ∀ a, (enc a).length = k) : ∀ (l : List α) (j : Nat) (h : j < l.length) (i : Nat), i < k → (l.flatMap enc)[j * k + i]? = (enc l[j])[i]?
  | a :: l, 0, _, i, hi => by
    rw [List.flatMap_cons, Nat.zero_mul, Nat.zero_add, List.getElem?_append_left (by rw [he]; exact hi)]
    rfl
  | a :: l, j + 1, h, i, hi => by
    have ih := flat_at he l j (by simpa using h) i hi
    rw [List.flatMap_cons, List.getElem?_append_right (by rw [he, Nat.add_mul]; omega), he, show (j + 1) * k + i - k = j * k + i by rw [Nat.add_mul]; omega]
    exact ih
variable {t : TypeId} {k : Nat} {enc : α → List Value} {w w' : World} {base : Nat} {x : Value} {l : List α}
theorem OwnL.row (he : ∀ a, (enc a).length = k) (h : OwnL t k enc w base x l) (hl : l.length ≤ maxLen) : LAt k enc w x l := by
  refine ⟨?_, hl⟩
  rcases h.2 with ⟨rfl, h0⟩ | ⟨g, cap, cur, rfl, h1, h2, h3, h4, h5, h6⟩
  · exact Or.inl ⟨none, 0, rfl, List.length_eq_zero_iff.1 h0⟩
  · refine Or.inr ⟨g, 0, cap, rfl, h3, lt_of_block h2, fun j hj i hi => ?_⟩
    rw [Nat.zero_add, ← flat_at he l j hj i hi]
    refine h.cellAt _ ?_
    have := Nat.mul_le_mul_right k (show j + 1 ≤ l.length by omega)
    rw [Nat.add_mul] at this
    omega
theorem OwnL.on (h : OwnL t k enc w base x l) (hb : Below w.heap.size w w') : OwnL t k enc w' base x l := by
  obtain ⟨h1, h2⟩ := h
  refine ⟨h1, ?_⟩
  rcases h2 with h2 | ⟨g, cap, cur, e1, e2, e3, e4⟩
  · exact Or.inl h2
  · exact Or.inr ⟨g, cap, cur, e1, e2, (hb.block _ (lt_of_block e3)).trans e3, e4⟩
theorem OwnL.empty (w : World) (base : Nat) : OwnL t k enc w base (.slice none 0 0) [] := World.ownsRow_nil w base t k
end
theorem sV_len (a : Bs) : (sV a).length = 1 := rfl
theorem iV_len (a : Int) : (iV a).length = 1 := rfl
theorem vals_len (a : C) : a.vals.length = 3 := rfl
abbrev OwnS (w : World) (base : Nat) (x : Value) (l : List Bs) : Prop := OwnL tS 1 sV w base x l
abbrev OwnI (w : World) (base : Nat) (x : Value) (l : List Int) : Prop := OwnL tI 1 iV w base x l
abbrev OwnC (w : World) (base : Nat) (x : Value) (l : List C) : Prop := OwnL tC 3 C.vals w base x l
theorem infoS : (Tryz.prog.info? tS).map (fun i => (i.zero, i.size, i.bytes)) = some (some (.string ⟨#[]⟩), 1, 16) := by kernel_rfl
theorem infoI : (Tryz.prog.info? tI).map (fun i => (i.zero, i.size, i.bytes)) = some (some (.int .i64 0), 1, 8) := by kernel_rfl
theorem infoC : (Tryz.prog.info? tC).map (fun i => (i.zero, i.size, i.bytes)) = some (some (.agg #[.int .i64 0, .string ⟨#[]⟩, .int .i64 0]), 3, 32) := by kernel_rfl
/-- 'out = append(out, v..)', what is put behind read as a list. -/
theorem append_list {α : Type} {P : Program} {w w0 : World} {ops : Array Oper} {rest : List Oper} {o : Oper} {a : Act} {Q : Exit → Act → World → Prop} (hgd : o.guard = none) (s x : Operand) (t : TypeId)
    (ho : o.op = .call { callee := .builtin .append, args := #[s, x], argTypes := #[t, t] })
    (base : Nat) (e : TypeId) (i : TypeInfo) (z : Value) (k bytes : Nat) (enc : α → List Value) (he : ∀ a, (enc a).length = k) (h1e : ∀ a, ∀ u ∈ enc a, u.oneCell' = true)
    (ht : P.underlying t = some (.slice e)) (hi : P.info? e = some i) (hz : i.zero = some z) (hsize : i.size = k) (hby : i.bytes = bytes) (hzs : z.cells.size = k) (hk : 0 < k) (hb48 : bytes ≤ 32)
    (d : Value) (l : List α) (hs : a.eval s = d) (hown : OwnL e k enc w base d l) (hbel : Below base w0 w) (hbase : base ≤ w.heap.size)
    (g of : Nat) (cap : Nat) (news : List α) (hx : a.eval x = .slice (some ⟨g, of, none⟩) news.length cap) (hcell : ∀ j (h : j < news.length) i, i < k → w.cell? ⟨g, of + j * k + i, none⟩ = (enc news[j])[i]?) (hlen : l.length + news.length ≤ 4000000000000)
    (h : ∀ d' w', OwnL e k enc w' base d' (l ++ news) → Below base w0 w' → wpList P ops Q rest (a.put o.dst d') w') : wpList P ops Q (o :: rest) a w := by
  refine wpList_append_own w hgd s x t ho base e i z k bytes ht hi hz hsize hby hzs hk d l.length (l.flatMap enc) hs hown ⟨g, of, none⟩ news.length cap (news.flatMap enc) hx (flat_len he news) ?_ ?_ ?_ ?_ hbase ?_
  · intro j u hj
    have hjl : j < news.length * k := by
      have := (List.getElem?_eq_some_iff.1 hj).1
      rwa [flat_len he news] at this
    have hq : j / k < news.length := Nat.div_lt_of_lt_mul (by rw [Nat.mul_comm]; exact hjl)
    have hr : j % k < k := Nat.mod_lt _ hk
    have ej : j = j / k * k + j % k := by rw [Nat.mul_comm]; exact (Nat.div_add_mod _ _).symm
    rw [ej, flat_at he news _ hq _ hr, ← hcell _ hq _ hr] at hj
    have ea : (⟨g, of, none⟩ : Addr).add j = ⟨g, of + j, none⟩ := by simp [Addr.add]
    have eo : of + j = of + j / k * k + j % k := by omega
    rw [ea, eo]
    exact hj
  · intro u hu
    obtain ⟨b, _, hb⟩ := List.mem_flatMap.1 hu
    exact h1e b u hb
  · unfold maxLen; omega
  · have := Nat.mul_le_mul (Nat.le_refl (l.length + news.length)) hb48
    omega
  · intro d' w' ho' hg' _
    refine h d' w' ?_ (hbel.grown hg' hbase (fun k hk => (hown.lt k hk).1))
    unfold OwnL
    rw [List.flatMap_append, List.length_append]
    exact ho'
theorem sV_one (a : Bs) : ∀ u ∈ sV a, u.oneCell' = true := by intro u hu; simp [sV] at hu; subst hu; rfl
theorem iV_one (a : Int) : ∀ u ∈ iV a, u.oneCell' = true := by intro u hu; simp [iV] at hu; subst hu; rfl
theorem vals_one (a : C) : ∀ u ∈ a.vals, u.oneCell' = true := by intro u hu; simp [C.vals] at hu; rcases hu with rfl | rfl | rfl <;> rfl
/-- 'keys = append(keys, news...)'. -/
theorem append_keys {w w0 : World} {ops : Array Oper} {rest : List Oper} {o : Oper} {a : Act} {Q : Exit → Act → World → Prop} (hgd : o.guard = none) (s x : Operand)
    (ho : o.op = .call { callee := .builtin .append, args := #[s, x], argTypes := #[tSs, tSs] })
    (base : Nat) (d : Value) (l : List Bs) (hs : a.eval s = d) (hown : OwnS w base d l) (hbel : Below base w0 w) (hbase : base ≤ w.heap.size)
    (g of cap : Nat) (news : List Bs) (hx : a.eval x = .slice (some ⟨g, of, none⟩) news.length cap) (hcell : ∀ j (h : j < news.length) i, i < 1 → w.cell? ⟨g, of + j * 1 + i, none⟩ = (sV news[j])[i]?) (hlen : l.length + news.length ≤ 4000000000000)
    (h : ∀ d' w', OwnS w' base d' (l ++ news) → Below base w0 w' → wpList Tryz.prog ops Q rest (a.put o.dst d') w') : wpList Tryz.prog ops Q (o :: rest) a w := by
  obtain ⟨i, hi, h0, h1, h2⟩ := info_parts infoS
  exact append_list hgd s x tSs ho base tS i _ 1 16 sV sV_len sV_one Tryz.underlying22 hi h0 h1 h2 rfl (by decide) (by decide) d l hs hown hbel hbase g of cap news hx hcell hlen h
/-- 'kids = append(kids, news...)'. -/
theorem append_kids {w w0 : World} {ops : Array Oper} {rest : List Oper} {o : Oper} {a : Act} {Q : Exit → Act → World → Prop} (hgd : o.guard = none) (s x : Operand)
    (ho : o.op = .call { callee := .builtin .append, args := #[s, x], argTypes := #[tIs, tIs] })
    (base : Nat) (d : Value) (l : List Int) (hs : a.eval s = d) (hown : OwnI w base d l) (hbel : Below base w0 w) (hbase : base ≤ w.heap.size)
    (g of cap : Nat) (news : List Int) (hx : a.eval x = .slice (some ⟨g, of, none⟩) news.length cap) (hcell : ∀ j (h : j < news.length) i, i < 1 → w.cell? ⟨g, of + j * 1 + i, none⟩ = (iV news[j])[i]?) (hlen : l.length + news.length ≤ 4000000000000)
    (h : ∀ d' w', OwnI w' base d' (l ++ news) → Below base w0 w' → wpList Tryz.prog ops Q rest (a.put o.dst d') w') : wpList Tryz.prog ops Q (o :: rest) a w := by
  obtain ⟨i, hi, h0, h1, h2⟩ := info_parts infoI
  exact append_list hgd s x tIs ho base tI i _ 1 8 iV iV_len iV_one Tryz.underlying24 hi h0 h1 h2 rfl (by decide) (by decide) d l hs hown hbel hbase g of cap news hx hcell hlen h
/-- 'cells = append(cells, news...)'. -/
theorem append_cells {w w0 : World} {ops : Array Oper} {rest : List Oper} {o : Oper} {a : Act} {Q : Exit → Act → World → Prop} (hgd : o.guard = none) (s x : Operand)
    (ho : o.op = .call { callee := .builtin .append, args := #[s, x], argTypes := #[tCs, tCs] })
    (base : Nat) (d : Value) (l : List C) (hs : a.eval s = d) (hown : OwnC w base d l) (hbel : Below base w0 w) (hbase : base ≤ w.heap.size)
    (g of cap : Nat) (news : List C) (hx : a.eval x = .slice (some ⟨g, of, none⟩) news.length cap) (hcell : ∀ j (h : j < news.length) i, i < 3 → w.cell? ⟨g, of + j * 3 + i, none⟩ = (news[j].vals)[i]?) (hlen : l.length + news.length ≤ 4000000000000)
    (h : ∀ d' w', OwnC w' base d' (l ++ news) → Below base w0 w' → wpList Tryz.prog ops Q rest (a.put o.dst d') w') : wpList Tryz.prog ops Q (o :: rest) a w := by
  obtain ⟨i, hi, h0, h1, h2⟩ := info_parts infoC
  exact append_list hgd s x tCs ho base tC i _ 3 32 C.vals vals_len vals_one Tryz.underlying23 hi h0 h1 h2 rfl (by decide) (by decide) d l hs hown hbel hbase g of cap news hx hcell hlen h
/-! ### Nodes -/
/-- A node, as it is handed over: its four parts. -/
structure NAt (w : World) (ks cs ps : Value) (n : N) : Prop where
  k : SAt w ks n.ks
  c : CAt w cs n.cs
  p : IAt w ps n.ps
def nV (f : Bool) (ks cs ps : Value) : Value := .agg #[.bool f, ks, cs, ps]
theorem NAt.on {w w' : World} {ks cs ps : Value} {n : N} (h : NAt w ks cs ps n) (hb : Below w.heap.size w w') : NAt w' ks cs ps n := ⟨h.k.on hb, h.c.on hb, h.p.on hb⟩
end No
end Go.Proofs.YtiellodbkanciaaGreatDoor
