/-
  Put together: LogRL, LogRSmall, LogRGet, LogRPages, LogRBack, LogRPush.
-/
import Derived.Test.YtgmbiiocjhkpdaaGreatRefCalls
import Derived.Test.YtgmbiiocjhkpdaaGreatGrpLgA
import Derived.Test.YtgmbiiocjhkpdaaGreatMem
import Derived.Test.YtgmbiiocjhkpdaaGreatGrpJSea
import Derived.Test.YtgmbiiocjhkpdaaGreatQuietTail
/-
  The reference's log in memory: a box (disk, numbers, sums), its two rows, beside the reference's disk.
-/
namespace Go.Proofs.YtgmbiiocjhkpdaaGreat
open Go.RowKit
namespace Lr
open Lo
open Disk (Mod Fil)
open Ref (Refs RQ Good)
open Mem (Bs bs tI tIs ptr blk_cell blk_free blk_new blk_set blk_other blk_alloc row_kept row_shape row_type push_int push_one)
abbrev tU : TypeId := 53
abbrev tUs : TypeId := 84
abbrev tLg : TypeId := 86


abbrev nV (n : Nat) : Value := .int .i64 (n : Int)
abbrev uV (n : Nat) : Value := .int .u64 (n : Int)
theorem toMem {F : Nat → Prop} {w w' : World} (h : Disk.Chg F w w') : Mem.Chg F w w' := ⟨h.os, h.tape, h.output, h.size, h.block⟩
theorem toDisk {F : Nat → Prop} {w w' : World} (h : Mem.Chg F w w') : Disk.Chg F w w' := ⟨h.os, h.tape, h.output, h.size, h.block⟩
theorem u64Info : ∃ i, Tryz.prog.info? tU = some i ∧ i.zero = some (.int .u64 0) ∧ i.size = 1 ∧ i.bytes = 8 := by
  have h : (Tryz.prog.info? tU).map (fun i => (i.zero, i.size, i.bytes)) = some (some (.int .u64 0), 1, 8) := by kernel_rfl
  cases hi : Tryz.prog.info? tU with
  | none => rw [hi] at h; cases h
  | some i =>
    rw [hi] at h
    simp only [Option.map_some, Option.some.injEq, Prod.mk.injEq] at h
    exact ⟨i, rfl, h.1, h.2.1, h.2.2⟩
theorem push_u64 {w : World} {v : Value} {n : Nat} {xs : List Value} (hown : w.ownsRow 0 tU 1 v n xs) (x : Nat) (hn : n ≤ 900000) :
    ∃ v' w', (Builtin.append_ #[tUs, tUs] tUs #[v, .slice (some ⟨w.heap.size, 0, none⟩) 1 1]).run Tryz.prog (w.alloc (.cells #[uV x] tU)) = .ok v' w' ∧ w'.ownsRow 0 tU 1 v' (n + 1) (xs ++ [uV x]) ∧ Mem.Chg (fun k => v.ownBlock = some k) w w' ∧ (∀ k, v'.ownBlock = some k → v.ownBlock = some k ∨ w.heap.size ≤ k) := by
  obtain ⟨i, hi, h0, h1, h2⟩ := u64Info
  exact push_one tUs tU i _ 8 Tryz.underlying84 hi h0 h1 h2 rfl (by decide) hown rfl hn
/-- The first ones of a row of single cells. -/
theorem one_cut {w : World} {t : TypeId} {α : Type} {f : α → Value} {l : List α} {n cap : Nat} {ao : Option Addr} (h : w.ownsRow 0 t 1 (.slice ao n cap) l.length (l.map f)) {c : Nat} (hc : c ≤ l.length) :
    n = l.length ∧ c ≤ cap ∧ w.ownsRow 0 t 1 (.slice ao c cap) (l.take c).length ((l.take c).map f) := by
  have hl : (l.take c).length = c := by rw [List.length_take]; omega
  rw [hl]
  obtain ⟨h1, h2⟩ := h
  refine ⟨?_, ?_, by rw [List.length_map, hl, Nat.mul_one], ?_⟩
  · rcases h2 with ⟨h2, h3⟩ | ⟨g, cap', cur, h2, _⟩
    · cases h2; omega
    · cases h2; rfl
  · rcases h2 with ⟨h2, h3⟩ | ⟨g, cap', cur, h2, h3, h4, h5, _⟩
    · cases h2; omega
    · cases h2; omega
  · rcases h2 with ⟨h2, h3⟩ | ⟨g, cap', cur, h2, h3, h4, h5, h6, h7, h8⟩
    · cases h2
      exact Or.inl ⟨by have : c = 0 := by omega
                       subst this; rfl, by omega⟩
    · cases h2
      refine Or.inr ⟨g, cap, cur, rfl, h3, h4, by omega, h6, h7, ?_⟩
      have e := congrArg (List.take (c * 1)) h8
      rw [List.take_take, ← List.map_take] at e
      have e2 : min (c * 1) (l.length * 1) = c * 1 := by omega
      rw [e2] at e
      rw [e, Nat.mul_one]
/-- A cell of such a row. -/
theorem one_at {w : World} {t : TypeId} {α : Type} {f : α → Value} {l : List α} {n cap : Nat} {ao : Option Addr} (h : w.ownsRow 0 t 1 (.slice ao n cap) l.length (l.map f)) (j : Nat) (hj : j < l.length) :
    ∃ g, ao = some ⟨g, 0, none⟩ ∧ (j : Int) < (cap : Int) ∧ w.cell? ⟨g, j, none⟩ = some (f l[j]) := by
  obtain ⟨h1, h2⟩ := h
  rcases h2 with ⟨h2, h3⟩ | ⟨g, cap', cur, h2, h3, h4, h5, h6, h7, h8⟩
  · omega
  · cases h2
    refine ⟨g, rfl, by omega, ?_⟩
    have hx : (cur.toList.take (l.length * 1))[j]? = some (f l[j]) := by rw [h8]; simp [hj]
    rw [List.getElem?_take_of_lt (by omega)] at hx
    rw [blk_cell h4 j]
    simpa using hx
theorem one_len {w : World} {t : TypeId} {v : Value} {n : Nat} {xs : List Value} (h : w.ownsRow 0 t 1 v n xs) : ∃ ao cap, v = .slice ao n cap := by
  obtain ⟨ao, cap, e, _⟩ := row_shape h
  exact ⟨ao, cap, e⟩

/-- The blocks of a log. -/
def lgX (b : Nat) (v u : Value) : Nat → Prop := fun k => k = b ∨ v.ownBlock = some k ∨ u.ownBlock = some k
structure RL (R0 : Nat → Prop) (r b : Nat) (M : Mod) (l : Lg) (w0 : World) (v u : Value) (w : World) : Prop where
  q : RQ R0 (lgX b v u) r M w0 w
  box : w.heap[b]? = some (.cells #[ptr r, v, u] tLg (0, 0))
  rowN : w.ownsRow 0 tI 1 v l.ns.length (l.ns.map nV)
  rowS : w.ownsRow 0 tU 1 u l.ss.length (l.ss.map uV)
  nb : v.ownBlock ≠ some b
  nu : u.ownBlock ≠ some b
  ne : ∀ q, v.ownBlock = some q → u.ownBlock ≠ some q
  own : ∀ k, lgX b v u k → (R0 k ∨ w0.heap.size ≤ k)
  few : l.ns.length ≤ 100000 ∧ l.ss.length ≤ 100000
variable {R0 : Nat → Prop} {r b : Nat} {M M' : Mod} {l l' : Lg} {w0 w w' : World} {v u v' u' : Value}
theorem RL.hX (h : RL R0 r b M l w0 v u w) : ∀ k, lgX b v u k → k < w.heap.size := fun k hk => by
  rcases hk with rfl | hk | hk
  · exact lt_of_block h.box
  · exact (h.rowN.lt k hk).2
  · exact (h.rowS.lt k hk).2
theorem RL.to (h : RL R0 r b M l w0 v u w) (h1 : RQ R0 (lgX b v u) r M' w0 w') (h2 : Disk.Chg (fun k => ¬ lgX b v u k) w w') : RL R0 r b M' l w0 v u w' :=
  ⟨h1, h2.at h.box (fun x => x (Or.inl rfl)), row_kept h.rowN (toMem h2) (fun _ hq hx => hx (Or.inr (Or.inl hq))), row_kept h.rowS (toMem h2) (fun _ hq hx => hx (Or.inr (Or.inr hq))), h.nb, h.nu, h.ne, h.own, h.few⟩
theorem RL.on (h : RL R0 r b M l w0 v u w) (hb : Below w.heap.size w w') : RL R0 r b M l w0 v u w' :=
  h.to (h.q.on hb) (Disk.Chg.of_below hb)
/-- Where the log's own blocks turn. -/
theorem RL.turn {F : Nat → Prop} (h : RL R0 r b M l w0 v u w) (hc : Mem.Chg F w w') (hF : ∀ k, F k → lgX b v u k) (hbox : w'.heap[b]? = some (.cells #[ptr r, v', u'] tLg (0, 0)))
    (hN : w'.ownsRow 0 tI 1 v' l'.ns.length (l'.ns.map nV)) (hS : w'.ownsRow 0 tU 1 u' l'.ss.length (l'.ss.map uV)) (hv : ∀ k, v'.ownBlock = some k → v.ownBlock = some k ∨ w.heap.size ≤ k) (hu : ∀ k, u'.ownBlock = some k → u.ownBlock = some k ∨ w.heap.size ≤ k)
    (hne : ∀ q, v'.ownBlock = some q → u'.ownBlock ≠ some q) (hfew : l'.ns.length ≤ 100000 ∧ l'.ss.length ≤ 100000) : RL R0 r b M l' w0 v' u' w' := by
  have hb := lt_of_block h.box
  have hz := h.q.chg.size
  have hX : ∀ k, lgX b v' u' k → lgX b v u k ∨ w.heap.size ≤ k := fun k hk => by
    rcases hk with rfl | hk | hk
    · exact Or.inl (Or.inl rfl)
    · exact (hv k hk).imp_left (fun e => Or.inr (Or.inl e))
    · exact (hu k hk).imp_left (fun e => Or.inr (Or.inr e))
  refine ⟨h.q.side (toDisk hc) (fun k hk => ⟨hF k hk, h.own k (hF k hk)⟩) hX, hbox, hN, hS, fun e => ?_, fun e => ?_, hne, fun k hk => ?_, hfew⟩
  · rcases hv b e with e | e
    · exact h.nb e
    · omega
  · rcases hu b e with e | e
    · exact h.nu e
    · omega
  · rcases hX k hk with e | e
    · exact h.own k e
    · exact Or.inr (by omega)
theorem RL.c0 (h : RL R0 r b M l w0 v u w) : w.cell? ⟨b, 0, none⟩ = some (ptr r) := blk_cell h.box 0
theorem RL.c1 (h : RL R0 r b M l w0 v u w) : w.cell? ⟨b, 1, none⟩ = some v := blk_cell h.box 1
theorem RL.c2 (h : RL R0 r b M l w0 v u w) : w.cell? ⟨b, 2, none⟩ = some u := blk_cell h.box 2
theorem set_at {w : World} {c : Array Value} {t : TypeId} {b : Nat} (_h : w.heap[b]? = some (.cells c t (0, 0))) (i : Nat) (x : Value) : Mem.Chg (· = b) w (w.setCell ⟨b, i, none⟩ x) := (Mem.Chg.refl _ w).root i x
/-- One sum more, one number more; each behind its append, the store. -/
theorem RL.pushS (h : RL R0 r b M l w0 v u w) (x : Nat) (hn : l.ss.length < 100000) :
    ∃ ao cap w1, (Builtin.append_ #[tUs, tUs] tUs #[u, .slice (some ⟨w.heap.size, 0, none⟩) 1 1]).run Tryz.prog (w.alloc (.cells #[uV x] tU)) = .ok (.slice ao (l.ss.length + 1) cap) w1 ∧ w1.cell? ⟨b, 2, none⟩ = some u ∧ w1.frozen? ⟨b, 2, none⟩ = false ∧ b < w1.heap.size ∧ w.heap.size ≤ w1.heap.size ∧
      RL R0 r b M ⟨l.ns, l.ss ++ [x]⟩ w0 v (.slice ao (l.ss.length + 1) cap) (w1.setCell ⟨b, 2, none⟩ (.slice ao (l.ss.length + 1) cap)) := by
  obtain ⟨u', w1, hr, ho, hc, hk⟩ := push_u64 h.rowS x (by omega)
  obtain ⟨ao, cap, rfl⟩ := one_len ho
  have hb1 : w1.heap[b]? = some (.cells #[ptr r, v, u] tLg (0, 0)) := hc.at h.box (fun e => h.nu e)
  have hs := set_at hb1 2 (.slice ao (l.ss.length + 1) cap)
  have hlt := lt_of_block h.box
  have hz := hc.size
  have hub : ∀ q, (Value.slice ao (l.ss.length + 1) cap).ownBlock = some q → q ≠ b := fun q hq e => by
    subst e
    rcases hk q hq with e | e
    · exact h.nu e
    · omega
  refine ⟨ao, cap, w1, hr, blk_cell hb1 2, blk_free hb1 2, lt_of_block hb1, hz, h.turn (F := fun k => k = b ∨ u.ownBlock = some k) (((hc.mono (fun k _ hk => Or.inr hk)).trans (hs.mono (fun k _ hk => Or.inl hk)))) (fun k hk => hk.imp_right Or.inr) ?_ ?_ ?_ (fun k hk => Or.inl hk) hk (fun q hq e => ?_) ⟨h.few.1, by show (l.ss ++ [x]).length ≤ _; rw [List.length_append]; show l.ss.length + 1 ≤ _; omega⟩⟩
  · have := blk_set hb1 2 (.slice ao (l.ss.length + 1) cap)
    simpa using this
  · exact row_kept (row_kept h.rowN hc (fun g hg e => h.ne g hg e)) hs (fun g hg e => h.nb (e ▸ hg))
  · have := row_kept ho hs (fun g hg => hub g hg)
    rw [List.map_append, List.length_append]
    exact this
  · rcases hk q e with e2 | e2
    · exact h.ne q hq e2
    · have := (h.rowN.lt q hq).2
      omega
theorem RL.pushN (h : RL R0 r b M l w0 v u w) (x : Nat) (hn : l.ns.length < 100000) :
    ∃ ao cap w1, (Builtin.append_ #[tIs, tIs] tIs #[v, .slice (some ⟨w.heap.size, 0, none⟩) 1 1]).run Tryz.prog (w.alloc (.cells #[nV x] tI)) = .ok (.slice ao (l.ns.length + 1) cap) w1 ∧ w1.cell? ⟨b, 1, none⟩ = some v ∧ w1.frozen? ⟨b, 1, none⟩ = false ∧ b < w1.heap.size ∧ w.heap.size ≤ w1.heap.size ∧
      RL R0 r b M ⟨l.ns ++ [x], l.ss⟩ w0 (.slice ao (l.ns.length + 1) cap) u (w1.setCell ⟨b, 1, none⟩ (.slice ao (l.ns.length + 1) cap)) := by
  obtain ⟨v', w1, hr, ho, hc, hk⟩ := push_int h.rowN (x : Int) (by omega)
  obtain ⟨ao, cap, rfl⟩ := one_len ho
  have hb1 : w1.heap[b]? = some (.cells #[ptr r, v, u] tLg (0, 0)) := hc.at h.box (fun e => h.nb e)
  have hs := set_at hb1 1 (.slice ao (l.ns.length + 1) cap)
  have hlt := lt_of_block h.box
  have hz := hc.size
  have hub : ∀ q, (Value.slice ao (l.ns.length + 1) cap).ownBlock = some q → q ≠ b := fun q hq e => by
    subst e
    rcases hk q hq with e | e
    · exact h.nb e
    · omega
  refine ⟨ao, cap, w1, hr, blk_cell hb1 1, blk_free hb1 1, lt_of_block hb1, hz, h.turn (F := fun k => k = b ∨ v.ownBlock = some k) (((hc.mono (fun k _ hk => Or.inr hk)).trans (hs.mono (fun k _ hk => Or.inl hk)))) (fun k hk => hk.imp_right Or.inl) ?_ ?_ ?_ hk (fun k hk => Or.inl hk) (fun q hq e => ?_) ⟨by show (l.ns ++ [x]).length ≤ _; rw [List.length_append]; show l.ns.length + 1 ≤ _; omega, h.few.2⟩⟩
  · have := blk_set hb1 1 (.slice ao (l.ns.length + 1) cap)
    simpa using this
  · have := row_kept ho hs (fun g hg => hub g hg)
    rw [List.map_append, List.length_append]
    exact this
  · exact row_kept (row_kept h.rowS hc (fun g hg e => h.ne g e hg)) hs (fun g hg e => h.nu (e ▸ hg))
  · rcases hk q hq with e2 | e2
    · exact h.ne q e2 e
    · have := (h.rowS.lt q e).2
      omega
/-- Fewer numbers, fewer sums: the slices are cut. -/
theorem RL.cutN {ao : Option Addr} {n cap : Nat} (h : RL R0 r b M l w0 (.slice ao n cap) u w) {c : Nat} (hc : c ≤ l.ns.length) : c ≤ cap ∧ RL R0 r b M ⟨l.ns.take c, l.ss⟩ w0 (.slice ao c cap) u (w.setCell ⟨b, 1, none⟩ (.slice ao c cap)) := by
  obtain ⟨rfl, h2, h3⟩ := one_cut h.rowN hc
  have hs := set_at h.box 1 (.slice ao c cap)
  have eb : (Value.slice ao c cap).ownBlock = (Value.slice ao l.ns.length cap).ownBlock := by cases ao <;> rfl
  refine ⟨h2, h.turn hs (fun k hk => Or.inl hk) ?_ (row_kept h3 hs (fun g hg e => h.nb (by rw [← eb, ← e]; exact hg))) (row_kept h.rowS hs (fun g hg e => h.nu (e ▸ hg))) (fun k hk => Or.inl (by rw [← eb]; exact hk)) (fun k hk => Or.inl hk) (fun q hq => h.ne q (by rw [← eb]; exact hq)) ⟨?_, h.few.2⟩⟩
  · have := blk_set h.box 1 (.slice ao c cap)
    simpa using this
  · show (l.ns.take c).length ≤ _
    rw [List.length_take]
    have := h.few.1
    omega
theorem RL.cutS {ao : Option Addr} {n cap : Nat} (h : RL R0 r b M l w0 v (.slice ao n cap) w) {c : Nat} (hc : c ≤ l.ss.length) : c ≤ cap ∧ RL R0 r b M ⟨l.ns, l.ss.take c⟩ w0 v (.slice ao c cap) (w.setCell ⟨b, 2, none⟩ (.slice ao c cap)) := by
  obtain ⟨rfl, h2, h3⟩ := one_cut h.rowS hc
  have hs := set_at h.box 2 (.slice ao c cap)
  have eb : (Value.slice ao c cap).ownBlock = (Value.slice ao l.ss.length cap).ownBlock := by cases ao <;> rfl
  refine ⟨h2, h.turn hs (fun k hk => Or.inl hk) ?_ (row_kept h.rowN hs (fun g hg e => h.nb (e ▸ hg))) (row_kept h3 hs (fun g hg e => h.nu (by rw [← eb, ← e]; exact hg))) (fun k hk => Or.inl hk) (fun k hk => Or.inl (by rw [← eb]; exact hk)) (fun q hq e => h.ne q hq (by rw [← eb]; exact e)) ⟨h.few.1, ?_⟩⟩
  · have := blk_set h.box 2 (.slice ao c cap)
    simpa using this
  · show (l.ss.take c).length ≤ _
    rw [List.length_take]
    have := h.few.2
    omega
/-- A new log: nothing in it. -/
theorem RL.new (h : RQ R0 (fun _ => False) r M w0 w) : RL R0 r w.heap.size M lg0 w0 (.slice none 0 0) (.slice none 0 0) (w.alloc (.cells #[ptr r, .slice none 0 0, .slice none 0 0] tLg)) := by
  have hb : Below w.heap.size w (w.alloc (.cells #[ptr r, .slice none 0 0, .slice none 0 0] tLg)) := (Below.refl _ _).alloc (Nat.le_refl _) _
  have hz := h.chg.size
  refine ⟨h.side (F := fun _ => False) (Disk.Chg.of_below hb) (fun _ x => x.elim) (fun k hk => ?_), blk_new w _, ⟨rfl, Or.inl ⟨rfl, rfl⟩⟩, ⟨rfl, Or.inl ⟨rfl, rfl⟩⟩, fun e => (by cases e), fun e => (by cases e), fun q hq => (by cases hq), fun k hk => ?_, ⟨Nat.zero_le _, Nat.zero_le _⟩⟩
  · rcases hk with rfl | hk | hk
    · exact Or.inr (Nat.le_refl _)
    · cases hk
    · cases hk
  · rcases hk with rfl | hk | hk
    · exact Or.inr hz
    · cases hk
    · cases hk
/-- append([]T{}, row[:c]...) and the store. -/
theorem one_zero (w : World) (t : TypeId) : (w.alloc (.cells #[] t)).ownsRow 0 t 1 (.slice (some ⟨w.heap.size, 0, none⟩) 0 0) 0 [] :=
  ⟨rfl, Or.inr ⟨w.heap.size, 0, #[], rfl, Nat.zero_le _, blk_new w _, Nat.le_refl _, Nat.zero_le _, rfl, rfl⟩⟩
theorem one_copy (t e : TypeId) (i : TypeInfo) (z : Value) (bytes : Nat) (ht : Tryz.prog.underlying t = some (.slice e)) (hi : Tryz.prog.info? e = some i) (hz : i.zero = some z) (h1 : i.size = 1) (h2 : i.bytes = bytes) (hzs : z.cells.size = 1) (hby : bytes ≤ 100)
    {w : World} {x : Value} {n : Nat} {xs : List Value} (h : w.ownsRow 0 e 1 x n xs) (ho : ∀ y ∈ xs, y.oneCell' = true) (hn : n ≤ 100000) :
    ∃ ao cap w', (Builtin.append_ #[t, t] t #[.slice (some ⟨w.heap.size, 0, none⟩) 0 0, x]).run Tryz.prog (w.alloc (.cells #[] e)) = .ok (.slice ao n cap) w' ∧ w'.ownsRow 0 e 1 (.slice ao n cap) n xs ∧ Below w.heap.size w w' ∧ ∀ q, (Value.slice ao n cap).ownBlock = some q → w.heap.size ≤ q := by
  have hv := row_kept h (F := fun _ => False) (Mem.Chg.of_below ((Below.refl _ w).alloc (Nat.le_refl _) (.cells #[] e))) (fun _ _ x => x)
  obtain ⟨u', w', hr, ho', hc, hk⟩ := Mem.copy_row t e i z 1 bytes ht hi hz h1 h2 hzs (by decide) hby (one_zero w e) hv ho (by omega)
  rw [Nat.zero_add, List.nil_append] at ho'
  obtain ⟨ao, cap, rfl⟩ := one_len ho'
  have hown : ∀ q, (Value.slice (some ⟨w.heap.size, 0, none⟩) 0 0).ownBlock = some q → w.heap.size ≤ q := fun q hq => by
    have e : w.heap.size = q := by injection hq
    omega
  have hb1 : Below w.heap.size w (w.alloc (.cells #[] e)) := (Below.refl _ w).alloc (Nat.le_refl _) _
  refine ⟨ao, cap, w', hr, ho', hb1.trans (Disk.Chg.below (toDisk hc) hb1.size (fun k hk hx => by have := hown k hx; omega)), fun q hq => ?_⟩
  rcases hk q hq with e | e
  · exact hown q e
  · simp at e
    omega
theorem RL.copyN {ao : Option Addr} {n cap : Nat} (h : RL R0 r b M l w0 (.slice ao n cap) u w) {c : Nat} (hc : c ≤ l.ns.length) :
    c ≤ cap ∧ ∃ ao2 cap2 w1, (Builtin.append_ #[tIs, tIs] tIs #[.slice (some ⟨w.heap.size, 0, none⟩) 0 0, .slice ao c cap]).run Tryz.prog (w.alloc (.cells #[] tI)) = .ok (.slice ao2 c cap2) w1 ∧ w1.cell? ⟨b, 1, none⟩ = some (.slice ao n cap) ∧ w1.frozen? ⟨b, 1, none⟩ = false ∧ b < w1.heap.size ∧
      RL R0 r b M ⟨l.ns.take c, l.ss⟩ w0 (.slice ao2 c cap2) u (w1.setCell ⟨b, 1, none⟩ (.slice ao2 c cap2)) := by
  obtain ⟨rfl, h2, h3⟩ := one_cut h.rowN hc
  have hl : (l.ns.take c).length = c := by rw [List.length_take]; omega
  rw [hl] at h3
  obtain ⟨i, hi, z0, z1, z2⟩ := Mem.intInfo
  obtain ⟨ao2, cap2, w1, hr, ho, hb, hk⟩ := one_copy tIs tI i _ 8 Tryz.underlying35 hi z0 z1 z2 rfl (by decide) h3 (fun y hy => by
    obtain ⟨a, _, rfl⟩ := List.mem_map.1 hy
    rfl) (by have := h.few.1; omega)
  have h1 := h.on hb
  have hs := set_at h1.box 1 (.slice ao2 c cap2)
  have hlt := lt_of_block h.box
  have hq : ∀ q, (Value.slice ao2 c cap2).ownBlock = some q → q ≠ b := fun q hq e => by have := hk q hq; omega
  refine ⟨h2, ao2, cap2, w1, hr, h1.c1, blk_free h1.box 1, lt_of_block h1.box, h.turn (F := (· = b)) ((Mem.Chg.of_below hb).trans hs) (fun k hk => Or.inl hk) ?_ ?_ (row_kept h1.rowS hs (fun g hg e => h.nu (e ▸ hg))) (fun k hx => Or.inr (hk k hx)) (fun k hx => Or.inl hx) (fun q hx e => ?_) ⟨by show (l.ns.take c).length ≤ _; rw [hl]; have := h.few.1; omega, h.few.2⟩⟩
  · have := blk_set h1.box 1 (.slice ao2 c cap2)
    simpa using this
  · have := row_kept ho hs (fun g hg => hq g hg)
    show World.ownsRow _ 0 tI 1 _ (l.ns.take c).length _
    rw [hl]
    exact this
  · have h4 := (h.rowS.lt q e).2
    have := hk q hx
    omega
theorem RL.copyS {ao : Option Addr} {n cap : Nat} (h : RL R0 r b M l w0 v (.slice ao n cap) w) {c : Nat} (hc : c ≤ l.ss.length) :
    c ≤ cap ∧ ∃ ao2 cap2 w1, (Builtin.append_ #[tUs, tUs] tUs #[.slice (some ⟨w.heap.size, 0, none⟩) 0 0, .slice ao c cap]).run Tryz.prog (w.alloc (.cells #[] tU)) = .ok (.slice ao2 c cap2) w1 ∧ w1.cell? ⟨b, 2, none⟩ = some (.slice ao n cap) ∧ w1.frozen? ⟨b, 2, none⟩ = false ∧ b < w1.heap.size ∧
      RL R0 r b M ⟨l.ns, l.ss.take c⟩ w0 v (.slice ao2 c cap2) (w1.setCell ⟨b, 2, none⟩ (.slice ao2 c cap2)) := by
  obtain ⟨rfl, h2, h3⟩ := one_cut h.rowS hc
  have hl : (l.ss.take c).length = c := by rw [List.length_take]; omega
  rw [hl] at h3
  obtain ⟨i, hi, z0, z1, z2⟩ := u64Info
  obtain ⟨ao2, cap2, w1, hr, ho, hb, hk⟩ := one_copy tUs tU i _ 8 Tryz.underlying84 hi z0 z1 z2 rfl (by decide) h3 (fun y hy => by
    obtain ⟨a, _, rfl⟩ := List.mem_map.1 hy
    rfl) (by have := h.few.2; omega)
  have h1 := h.on hb
  have hs := set_at h1.box 2 (.slice ao2 c cap2)
  have hlt := lt_of_block h.box
  have hq : ∀ q, (Value.slice ao2 c cap2).ownBlock = some q → q ≠ b := fun q hq e => by have := hk q hq; omega
  refine ⟨h2, ao2, cap2, w1, hr, h1.c2, blk_free h1.box 2, lt_of_block h1.box, h.turn (F := (· = b)) ((Mem.Chg.of_below hb).trans hs) (fun k hk => Or.inl hk) ?_ (row_kept h1.rowN hs (fun g hg e => h.nb (e ▸ hg))) ?_ (fun k hx => Or.inl hx) (fun k hx => Or.inr (hk k hx)) (fun q hx e => ?_) ⟨h.few.1, by show (l.ss.take c).length ≤ _; rw [hl]; have := h.few.2; omega⟩⟩
  · have := blk_set h1.box 2 (.slice ao2 c cap2)
    simpa using this
  · have := row_kept ho hs (fun g hg => hq g hg)
    show World.ownsRow _ 0 tU 1 _ (l.ss.take c).length _
    rw [hl]
    exact this
  · have h4 := (h.rowN.lt q hx).2
    have := hk q e
    omega
/-- []uint64{x} and the store. -/
theorem RL.oneS (h : RL R0 r b M l w0 v u w) (x : Nat) : (w.alloc (.cells #[uV x] tU)).cell? ⟨b, 2, none⟩ = some u ∧ (w.alloc (.cells #[uV x] tU)).frozen? ⟨b, 2, none⟩ = false ∧ b < w.heap.size ∧
    RL R0 r b M ⟨l.ns, [x]⟩ w0 v (.slice (some ⟨w.heap.size, 0, none⟩) 1 1) ((w.alloc (.cells #[uV x] tU)).setCell ⟨b, 2, none⟩ (.slice (some ⟨w.heap.size, 0, none⟩) 1 1)) := by
  have hb : Below w.heap.size w (w.alloc (.cells #[uV x] tU)) := (Below.refl _ _).alloc (Nat.le_refl _) _
  have h1 := h.on hb
  have hs := set_at h1.box 2 (.slice (some ⟨w.heap.size, 0, none⟩) 1 1)
  have hlt := lt_of_block h.box
  have ho : (w.alloc (.cells #[uV x] tU)).ownsRow 0 tU 1 (.slice (some ⟨w.heap.size, 0, none⟩) 1 1) 1 [uV x] :=
    ⟨rfl, Or.inr ⟨w.heap.size, 1, #[uV x], rfl, Nat.zero_le _, blk_new w _, Nat.le_refl _, by decide, rfl, rfl⟩⟩
  have hq : ∀ q, (Value.slice (some ⟨w.heap.size, 0, none⟩) 1 1).ownBlock = some q → w.heap.size = q := fun q hq => by injection hq
  refine ⟨h1.c2, blk_free h1.box 2, hlt, h.turn (F := (· = b)) ((Mem.Chg.of_below hb).trans hs) (fun k hk => Or.inl hk) ?_ (row_kept h1.rowN hs (fun g hg e => h.nb (e ▸ hg))) (row_kept ho hs (fun g hg e => by have := hq g hg; omega)) (fun k hk => Or.inl hk) (fun k hk => Or.inr (by have := hq k hk; omega)) (fun q hx e => ?_) ⟨h.few.1, by show 1 ≤ 100000; decide⟩⟩
  · have := blk_set h1.box 2 (.slice (some ⟨w.heap.size, 0, none⟩) 1 1)
    simpa using this
  · have h4 := (h.rowN.lt q hx).2
    have := hq q e
    omega
end Lr
end Go.Proofs.YtgmbiiocjhkpdaaGreat

/-
  Contracts of the reference's log: Len, Sync, End, Back, Get, Pages, top.
-/
namespace Go.Proofs.YtgmbiiocjhkpdaaGreat
open Go.RowKit Go.Shelf
namespace Lr
open Lo
open Num (hid)
open Disk (Mod Fil)
open Ref (Refs RQ Good)
open Mem (Bs bs tI tIs ptr blk_cell blk_free blk_new blk_set blk_other blk_alloc row_kept row_shape row_type push_int push_one wpList_append_run)
variable {R0 : Nat → Prop} {r b : Nat} {M M' : Mod} {l l' : Lg} {w0 w w' : World} {v u v' u' : Value}

theorem RL.size (h : RL R0 r b M l w0 v u w) : Calls Tryz.prog 39 #[ptr r, .string lS] w fun e w' => e = .returned (.int .i64 (M.size ln)) ∧ w = w' := Ref.q_size h.q lS
theorem RL.sync_ (h : RL R0 r b M l w0 v u w) : Calls Tryz.prog 66 #[ptr r, .string lS] w fun e w' => e = .returned (.int .i64 (M.sync ln).1) ∧ RL R0 r b (M.sync ln).2 l w0 v u w' := by
  refine (Ref.q_sync h.q h.hX lS (by decide)).mono ?_
  rintro e w' ⟨rfl, h1, h2⟩
  exact ⟨rfl, h.to h1 h2⟩
theorem RL.drop_ (h : RL R0 r b M l w0 v u w) : Calls Tryz.prog 54 #[ptr r, .string lS] w fun e w' => e = .returned (.int .i64 (M.drop ln).1) ∧ RL R0 r b (M.drop ln).2 l w0 v u w' := by
  refine (Ref.q_drop h.q h.hX lS (by decide)).mono ?_
  rintro e w' ⟨rfl, h1, h2⟩
  exact ⟨rfl, h.to h1 h2⟩
theorem RL.cut_ (h : RL R0 r b M l w0 v u w) (k : Int) : Calls Tryz.prog 55 #[ptr r, .string lS, .int .i64 k] w fun e w' => e = .returned (.int .i64 (M.cut ln k).1) ∧ RL R0 r b (M.cut ln k).2 l w0 v u w' := by
  refine (Ref.q_cut h.q h.hX lS (by decide) k).mono ?_
  rintro e w' ⟨rfl, h1, h2⟩
  exact ⟨rfl, h.to h1 h2⟩
theorem RL.read_ (h : RL R0 r b M l w0 v u w) (i : Nat) (hi : i ≤ 1000000) : Calls Tryz.prog 51 #[ptr r, .string lS, .int .i64 (i : Nat)] w fun e w' => e = .returned (.tuple #[.string (bs (M.read ln i).1), .int .i64 (M.read ln i).2.1]) ∧ RL R0 r b (M.read ln i).2.2 l w0 v u w' := by
  refine (Ref.q_read h.q h.hX lS (by decide) (i : Int) (by omega)).mono ?_
  rintro e w' ⟨rfl, h1, h2⟩
  exact ⟨rfl, h.to h1 h2⟩
theorem RL.write_ (h : RL R0 r b M l w0 v u w) (i : Nat) (s : ByteArray) (hs : s.size ≤ maxLen) : Calls Tryz.prog 64 #[ptr r, .string lS, .int .i64 (i : Nat), .string s] w fun e w' => e = .returned (.int .i64 (M.write ln i s.data.toList).1) ∧ RL R0 r b (M.write ln i s.data.toList).2 l w0 v u w' := by
  refine (Ref.q_write h.q h.hX lS (by decide) (i : Int) s hs).mono ?_
  rintro e w' ⟨rfl, h1, h2⟩
  exact ⟨rfl, h.to h1 h2⟩
set_option maxRecDepth 100000 in
theorem rlen_any (h : RL R0 r b M l w0 v u w) : Calls Tryz.prog 30 #[ptr b] w fun e w' => e = .returned (.int .i64 (l.ns.length : Nat)) ∧ w = w' := by
  obtain ⟨ao, cap, rfl⟩ := one_len h.rowN
  have c1 := h.c1
  clear h
  go_enter Tryz.func30, Tryz.ntmps30
  go_wp2
  go_ret
  exact ⟨rfl, rfl⟩
set_option maxRecDepth 100000 in
set_option maxHeartbeats 1000000 in
theorem rsync_any (h : RL R0 r b M l w0 v u w) : Calls Tryz.prog 16 #[ptr b] w fun e w' => e = .returned (.int .i64 (syncM M).1) ∧ RL R0 r b (syncM M).2 l w0 v u w' := by
  have hm : syncM M = if M.size ln < 0 then (0, M) else M.sync ln := rfl
  obtain ⟨X, hX⟩ : ∃ X, syncM M = X := ⟨_, rfl⟩
  rw [hX] at hm ⊢
  have c0 := h.c0
  have HS := hid h.size
  have H := hid h
  clear h hX
  go_enter Tryz.func16, Tryz.ntmps16
  by_cases hs : M.size ln < 0
  · rw [if_pos hs] at hm
    have HM := hid hm
    clear hm
    generalize M.size ln = sz at *
    go_wp2_with fail
    refine HS.out.mono ?_
    rintro e w1 ⟨rfl, rfl⟩
    go_wp2
    go_ret
    rw [HM.out]
    exact ⟨rfl, H.out⟩
  · rw [if_neg hs] at hm
    have HM := hid hm
    clear hm
    generalize M.size ln = sz at *
    go_wp2_with fail
    refine HS.out.mono ?_
    rintro e w1 ⟨rfl, rfl⟩
    go_wp2_with fail
    refine H.out.sync_.mono ?_
    rintro e w2 ⟨rfl, h2⟩
    have H2 := hid h2
    clear h2
    go_wp2
    go_ret
    rw [HM.out]
    exact ⟨rfl, H2.out⟩
set_option maxRecDepth 100000 in
set_option maxHeartbeats 1000000 in
theorem rend_any (h : RL R0 r b M l w0 v u w) : Calls Tryz.prog 22 #[ptr b] w fun e w' => ∃ v' u', e = .returned (.int .i64 (endM l M).1) ∧ RL R0 r b (endM l M).2.2 (endM l M).2.1 w0 v' u' w' := by
  have hm : endM l M = if M.size ln < 0 then (0, lg0, M) else ((M.drop ln).1, (if (M.drop ln).1 = 0 then lg0 else l), (M.drop ln).2) := rfl
  obtain ⟨X, hX⟩ : ∃ X, endM l M = X := ⟨_, rfl⟩
  rw [hX] at hm ⊢
  have key : ∀ (M' : Mod) (wx : World), RL R0 r b M' l w0 v u wx → wx.cell? ⟨b, 1, none⟩ = some v ∧ wx.cell? ⟨b, 2, none⟩ = some u ∧ wx.frozen? ⟨b, 1, none⟩ = false ∧ wx.frozen? ⟨b, 2, none⟩ = false ∧ b < wx.heap.size ∧ RL R0 r b M' lg0 w0 (.slice none 0 0) (.slice none 0 0) ((wx.setCell ⟨b, 1, none⟩ (.slice none 0 0)).setCell ⟨b, 2, none⟩ (.slice none 0 0)) := by
    intro M' wx hx
    have s1 := set_at hx.box 1 (.slice none 0 0)
    have b1 := blk_set hx.box 1 (.slice none 0 0)
    have s2 := set_at b1 2 (.slice none 0 0)
    have b2 := blk_set b1 2 (.slice none 0 0)
    refine ⟨hx.c1, hx.c2, blk_free hx.box 1, blk_free hx.box 2, lt_of_block hx.box, hx.turn (F := (· = b)) (s1.trans s2) (fun k hk => Or.inl hk) ?_ ⟨rfl, Or.inl ⟨rfl, rfl⟩⟩ ⟨rfl, Or.inl ⟨rfl, rfl⟩⟩ (fun k hk => by cases hk) (fun k hk => by cases hk) (fun q hq => by cases hq) ⟨Nat.zero_le _, Nat.zero_le _⟩⟩
    simpa using b2
  have c0 := h.c0
  have HS := hid h.size
  have H := hid h
  obtain ⟨ao, n, cap, rfl⟩ : ∃ ao n cap, v = .slice ao n cap := by obtain ⟨ao, cap, e⟩ := one_len h.rowN; exact ⟨ao, _, cap, e⟩
  obtain ⟨ao2, n2, cap2, rfl⟩ : ∃ ao n cap, u = .slice ao n cap := by obtain ⟨ao, cap, e⟩ := one_len h.rowS; exact ⟨ao, _, cap, e⟩
  have HK := hid key
  clear h hX key
  go_enter Tryz.func22, Tryz.ntmps22
  by_cases hs : M.size ln < 0
  · rw [if_pos hs] at hm
    have HM := hid hm
    have hs2 : ¬ (0 ≤ M.size ln) := by omega
    clear hm
    obtain ⟨d1, d2, d3, d4, d5, hr⟩ := HK.out M w H.out
    have HR := hid hr
    clear hr
    generalize M.size ln = sz at *
    go_wp2_with fail
    refine HS.out.mono ?_
    rintro e w1 ⟨rfl, rfl⟩
    go_wp2
    go_ret
    rw [HM.out]
    exact ⟨_, _, rfl, HR.out⟩
  · rw [if_neg hs] at hm
    have hs2 : 0 ≤ M.size ln := by omega
    have HM := hid hm
    clear hm
    generalize M.size ln = sz at *
    go_wp2_with fail
    refine HS.out.mono ?_
    rintro e w1 ⟨rfl, rfl⟩
    go_wp2_with fail
    refine H.out.drop_.mono ?_
    rintro e w2 ⟨rfl, h2⟩
    have H2 := hid h2
    obtain ⟨d1, d2, d3, d4, d5, hr⟩ := HK.out _ w2 h2
    have HR := hid hr
    clear h2 hr
    generalize M.drop ln = Y at *
    by_cases hy : Y.1 = 0
    · have hy1 : (Y.1 != 0) = false := by simp [hy]
      have HM2 : Hid (X = (0, lg0, Y.2)) := hid (by rw [HM.out, if_pos hy, hy])
      clear hy
      go_wp2
      go_ret
      rw [HM2.out]
      exact ⟨_, _, rfl, HR.out⟩
    · have hy1 : (Y.1 != 0) = true := by simp [hy]
      have HM2 : Hid (X = (Y.1, l, Y.2)) := hid (by rw [HM.out, if_neg hy])
      clear hy
      go_wp2
      go_ret
      rw [HM2.out]
      exact ⟨_, _, rfl, H2.out⟩
end Lr
end Go.Proofs.YtgmbiiocjhkpdaaGreat

/-
  Contracts of the reference's log: Get, Pages, Back.
-/
namespace Go.Proofs.YtgmbiiocjhkpdaaGreat
open Go.RowKit Go.Shelf
namespace Lr
open Lo
open Num (hid)
open Disk (Mod Fil)
open Ref (Refs RQ Good)
open Mem (Bs bs tI tIs ptr blk_cell blk_free blk_new blk_set blk_other blk_alloc row_kept row_shape row_type push_int push_one wpList_append_run)
variable {R0 : Nat → Prop} {r b : Nat} {M M' : Mod} {l l' : Lg} {w0 w w' : World} {v u v' u' : Value}

/-- A sector that is read is whole. -/
theorem read_len (hg : Ref.Good M) (n : Disk.Nam) (i : Int) (h : (M.read n i).2.1 = 0) : (M.read n i).1.length = 256 := by
  unfold Disk.Mod.read at *
  split at h
  · rename_i h1
    exact absurd h h1
  · rename_i h1
    rw [if_neg h1]
    show (Disk.readD n i M.fs).1.length = 256
    have h2 : (Disk.readD n i M.fs).2 = 0 := h
    unfold Disk.readD at *
    cases hF : Disk.get? M.fs n with
    | none => rw [hF] at h2; simp at h2
    | some F =>
      rw [hF] at h2
      have hok := hg.file hF
      simp only at h2 ⊢
      unfold Disk.Fil.read at *
      by_cases hi : i < 0
      · rw [if_pos hi] at h2
        simp at h2
      · rw [if_neg hi] at h2 ⊢
        cases hp : F.ps[i.toNat]? with
        | none => rw [hp] at h2; simp at h2
        | some p =>
          rw [hp] at h2
          simp only at h2 ⊢
          unfold Disk.readNow at *
          have hl := hok.2 p (List.mem_of_getElem? hp)
          cases hn : p.now with
          | none => rw [hn] at h2; simp at h2
          | some s => rw [hn] at hl; exact hl
theorem bs_cut (d : Bs) (k : Nat) : (bs d).extract 0 k = bs (d.take k) := by
  apply ByteArray.ext
  simp [bs, ByteArray.data_extract]
theorem RL.readI (h : RL R0 r b M l w0 v u w) (i : Int) (hi : i ≤ 1000000) : Calls Tryz.prog 51 #[ptr r, .string lS, .int .i64 i] w fun e w' => e = .returned (.tuple #[.string (bs (M.read ln i).1), .int .i64 (M.read ln i).2.1]) ∧ RL R0 r b (M.read ln i).2.2 l w0 v u w' := by
  refine (Ref.q_read h.q h.hX lS (by decide) i (by omega)).mono ?_
  rintro e w' ⟨rfl, h1, h2⟩
  exact ⟨rfl, h.to h1 h2⟩
def GetPost (R0 : Nat → Prop) (r b : Nat) (l : Lg) (w0 : World) (v u : Value) (X : Bs × Bool × Int × Mod) (e : Ending) (w' : World) : Prop :=
  e = .returned (.tuple #[.string (bs X.1), .bool X.2.1, .int .i64 X.2.2.1]) ∧ RL R0 r b X.2.2.2 l w0 v u w'
set_option maxRecDepth 100000 in
set_option maxHeartbeats 2000000 in
theorem rget_any (h : RL R0 r b M l w0 v u w) (n : Int) : Calls Tryz.prog 18 #[ptr b, .int .i64 n] w (GetPost R0 r b l w0 v u (getM l n M)) := by
  obtain ⟨ao, cap, rfl⟩ := one_len h.rowN
  obtain ⟨X, hX⟩ : ∃ X, getM l n M = X := ⟨_, rfl⟩
  rw [hX]
  have HX : Hid ((match lastI l.ns n l.ns.length with
    | none => ([], false, 0, M)
    | some i => if (M.read ln (i + 1 : Nat)).2.1 ≠ 0 then ([], false, (M.read ln (i + 1 : Nat)).2.1, (M.read ln (i + 1 : Nat)).2.2) else ((M.read ln (i + 1 : Nat)).1.take 232, true, 0, (M.read ln (i + 1 : Nat)).2.2)) = X) := hid hX
  clear hX
  have hfew := h.few.1
  have H := hid h
  obtain ⟨len, hlen⟩ : ∃ x, l.ns.length = x := ⟨_, rfl⟩
  have c0 := h.c0
  have c1 := h.c1
  have hat := one_at h.rowN
  have hzero : len = 0 → True := fun _ => trivial
  rw [hlen] at H HX c1 hfew ⊢
  have HAT := hid hat
  have HLEN := hid hlen
  clear h hat hzero hlen
  go_enter Tryz.func18, Tryz.ntmps18
  go_wp2_with fail
  go_loopw [7] (fun iv wr => ∃ (k : Nat) (i : Int), k ≤ len ∧ iv = .int .i64 i ∧ Hid (i = (k : Int) - 1) ∧ wr = w ∧ Hid (lastI l.ns n len = lastI l.ns n k)) (fun iv _ => (intOf iv + 1).toNat)
  case atStart => exact ⟨len, (len : Int) - 1, Nat.le_refl _, by go_num, hid rfl, rfl, hid rfl⟩
  case round =>
    obtain ⟨k, i, hk, rfl, HI, rfl, HLA⟩ := hrel
    cases k with
    | zero =>
      have hi : i = -1 := by have := HI.out; omega
      subst hi
      have hxe : ([], false, 0, M) = X := by
        have := HX.out
        rw [HLA.out] at this
        exact this
      have HXE := hid hxe
      clear hxe
      go_wp2
      refine bodyPost_ret (v := .tuple #[.string ⟨#[]⟩, .bool false, .int .i64 0]) (by simp [results, go_sem]) rfl ?_
      rw [← HXE.out]
      exact ⟨rfl, H.out⟩
    | succ k =>
      have hi : i = (k : Int) := by have := HI.out; omega
      subst hi
      have hkl : k < l.ns.length := by have := HLEN.out; omega
      obtain ⟨g, rfl, hkc, q0⟩ := HAT.out k hkl
      have hk1 : (k : Int) < (len : Int) := by omega
      have hgd : l.ns.getD k 0 = l.ns[k] := by simp [hkl]
      have HST : Hid (lastI l.ns n (k + 1) = if ((l.ns[k] : Nat) : Int) = n then some k else lastI l.ns n k) := hid (by rw [← hgd]; rfl)
      generalize l.ns[k] = z at *
      clear hgd hkl
      by_cases hz : (z : Int) = n
      · have hz1 : ((z : Int) == n) = true := by simp [hz]
        have hc : ((k + 1 : Nat) : Int) = (k : Int) + 1 := by omega
        have HXE : Hid ((if (M.read ln ((k : Int) + 1)).2.1 ≠ 0 then ([], false, (M.read ln ((k : Int) + 1)).2.1, (M.read ln ((k : Int) + 1)).2.2) else ((M.read ln ((k : Int) + 1)).1.take 232, true, 0, (M.read ln ((k : Int) + 1)).2.2)) = X) := hid (by
          have := HX.out
          rw [HLA.out, HST.out, if_pos hz] at this
          rw [← hc]
          exact this)
        have HRD := hid (H.out.readI ((k : Int) + 1) (by omega))
        have HLN := hid (read_len H.out.q.good ln ((k : Int) + 1))
        have hw1 : wrap64 ((k : Int) + 1) = (k : Int) + 1 := by rw [Num.wrap_i]; omega
        clear hc
        clear hz HX HLA HST
        go_wp2_with fail
        refine HRD.out.mono ?_
        rintro e w1 ⟨rfl, h1⟩
        have H1 := hid h1
        clear h1 HRD
        generalize M.read ln ((k : Int) + 1) = Y at *
        by_cases hy : Y.2.1 = 0
        · have hy1 : (Y.2.1 != 0) = false := by simp [hy]
          have hl := HLN.out hy
          have hs : (232 : Int) ≤ ((bs Y.1).size : Int) := by show (232 : Int) ≤ ((Y.1.toArray.size : Nat) : Int); simp [hl]
          have HXE2 : Hid ((Y.1.take 232, true, (0 : Int), Y.2.2) = X) := hid (by rw [← HXE.out, if_neg (by rw [hy]; decide)])
          clear hy hl
          go_wp2
          refine bodyPost_ret (v := .tuple #[.string ((bs Y.1).extract 0 232), .bool true, .int .i64 0]) (by simp [results, go_sem]) rfl ?_
          rw [← HXE2.out, bs_cut]
          exact ⟨rfl, H1.out⟩
        · have hy1 : (Y.2.1 != 0) = true := by simp [hy]
          have HXE2 : Hid (([], false, Y.2.1, Y.2.2) = X) := hid (by rw [← HXE.out, if_pos hy])
          clear hy
          go_wp2
          refine bodyPost_ret (v := .tuple #[.string ⟨#[]⟩, .bool false, .int .i64 Y.2.1]) (by simp [results, go_sem]) rfl ?_
          rw [← HXE2.out]
          exact ⟨rfl, H1.out⟩
      · have hz1 : ((z : Int) == n) = false := by simp [hz]
        have HLA2 : Hid (lastI l.ns n len = lastI l.ns n k) := hid (by rw [HLA.out, HST.out, if_neg hz])
        have hwk : wrap64 ((k : Int) - 1) = (k : Int) - 1 := by rw [Num.wrap_i]; omega
        clear hz
        go_wp2
        go_roundw
        case rel => exact ⟨k, (k : Int) - 1, by omega, by go_num, hid rfl, trivial, HLA2⟩
        case measure => simp [intOf]
end Lr
end Go.Proofs.YtgmbiiocjhkpdaaGreat

/-
  Contract of the reference's log: Pages.
-/
namespace Go.Proofs.YtgmbiiocjhkpdaaGreat
open Go.RowKit Go.Shelf
namespace Lr
open Lo
open Num (hid)
open Disk (Mod Fil)
open Ref (Refs RQ Good)
open Mem (Bs bs tI tIs ptr blk_cell blk_free blk_new blk_set blk_other blk_alloc row_kept row_shape row_type push_int push_one wpList_append_run)
variable {R0 : Nat → Prop} {r b : Nat} {M M' : Mod} {l l' : Lg} {w0 w w' : World} {v u v' u' : Value}

/-- The numbers below n that there are. -/
def pgs (ns : List Nat) (n : Nat) : List Nat := (List.range n).filter fun n => ns.any fun x => x == n
theorem pgs_succ (ns : List Nat) (n : Nat) : pgs ns (n + 1) = if ns.any (fun x => x == n) then pgs ns n ++ [n] else pgs ns n := by
  unfold pgs
  rw [List.range_succ, List.filter_append, List.filter_cons, List.filter_nil]
  split <;> simp
theorem pgs_len (ns : List Nat) (n : Nat) : (pgs ns n).length ≤ n := by
  have := List.length_filter_le (fun n => ns.any fun x => x == n) (List.range n)
  rw [List.length_range] at this
  exact this
theorem pgs_some {ns : List Nat} {n i : Nat} (hi : i < ns.length) (h : ns[i] = n) : pgs ns (n + 1) = pgs ns n ++ [n] := by
  rw [pgs_succ, if_pos]
  exact List.any_eq_true.2 ⟨ns[i], List.getElem_mem hi, by simp [h]⟩
theorem pgs_none {ns : List Nat} {n : Nat} (h : ∀ x ∈ ns, x ≠ n) : pgs ns (n + 1) = pgs ns n := by
  rw [pgs_succ, if_neg]
  intro hx
  obtain ⟨x, hx, e⟩ := List.any_eq_true.1 hx
  exact h x hx (by simpa using e)
theorem pgs_nil (n : Nat) : pgs [] n = [] := by
  unfold pgs
  rw [List.filter_eq_nil_iff]
  intro x _ h
  simp at h
/-- A row of numbers of the call's own. -/
structure PG (w : World) (q : List Nat) (v : Value) (wr : World) : Prop where
  row : wr.ownsRow 0 tI 1 v q.length (q.map nV)
  bel : Below w.heap.size w wr
  new : ∀ k, v.ownBlock = some k → w.heap.size ≤ k
theorem PG.push {q : List Nat} {wr : World} (h : PG w q v wr) (n : Nat) (hq : q.length ≤ 100000) :
    ∃ ao cap w2, (Builtin.append_ #[tIs, tIs] tIs #[v, .slice (some ⟨wr.heap.size, 0, none⟩) 1 1]).run Tryz.prog (wr.alloc (.cells #[nV n] tI)) = .ok (.slice ao (q.length + 1) cap) w2 ∧ PG w (q ++ [n]) (.slice ao (q.length + 1) cap) w2 := by
  obtain ⟨v', w2, hr, ho, hc, hk⟩ := push_int h.row (n : Int) (by omega)
  obtain ⟨ao, cap, rfl⟩ := one_len ho
  have hz := h.bel.size
  refine ⟨ao, cap, w2, hr, ⟨?_, h.bel.trans (Disk.Chg.below (toDisk hc) hz (fun k hk hx => by have := h.new k hx; omega)), fun k hx => ?_⟩⟩
  · rw [List.map_append, List.length_append]
    exact ho
  · rcases hk k hx with e | e
    · exact h.new k e
    · omega
def PagesPost (w : World) (q : List Nat) (e : Ending) (w' : World) : Prop := ∃ v, e = .returned v ∧ PG w q v w'
set_option maxRecDepth 100000 in
set_option maxHeartbeats 2000000 in
theorem rpages_any (h : RL R0 r b M l w0 v u w) : Calls Tryz.prog 33 #[ptr b] w (PagesPost w (pagesM l.ns)) := by
  obtain ⟨ao, cap, rfl⟩ := one_len h.rowN
  obtain ⟨X, hX⟩ : ∃ X, pagesM l.ns = X := ⟨_, rfl⟩
  rw [hX]
  have HX : Hid (pgs l.ns 4096 = X) := hid hX
  have hfew := h.few.1
  have HC1 : Hid (∀ wr, Below w.heap.size w wr → wr.cell? ⟨b, 1, none⟩ = some (.slice ao l.ns.length cap)) := hid (fun wr hb => (h.on hb).c1)
  have HAT : Hid (∀ wr, Below w.heap.size w wr → ∀ j (hj : j < l.ns.length), ∃ g, ao = some ⟨g, 0, none⟩ ∧ (j : Int) < (cap : Int) ∧ wr.cell? ⟨g, j, none⟩ = some (nV l.ns[j])) := hid (fun wr hb => one_at (h.on hb).rowN)
  have hP0 : PG w [] (.slice (some ⟨w.heap.size, 0, none⟩) 0 0) (w.alloc (.cells #[] tI)) := ⟨one_zero w tI, (Below.refl _ _).alloc (Nat.le_refl _) _, fun k hk => by
    have e : w.heap.size = k := by injection hk
    omega⟩
  obtain ⟨wa, hwa⟩ : ∃ x, w.alloc (.cells #[] tI) = x := ⟨_, rfl⟩
  rw [hwa] at hP0
  have HWA := hid hwa
  have HP0 : Hid (PG w (pgs l.ns 0) (.slice (some ⟨w.heap.size, 0, none⟩) 0 0) wa) := hid hP0
  have HNIL : Hid (l.ns.length = 0 → X = []) := hid (fun e => by rw [← HX.out, List.eq_nil_of_length_eq_zero e, pgs_nil])
  obtain ⟨len, hlen⟩ : ∃ x, l.ns.length = x := ⟨_, rfl⟩
  have HLEN := hid hlen
  rw [hlen] at HC1 hfew HNIL
  generalize l.ns = ns at *
  clear h hX hwa hP0 hlen
  go_enter Tryz.func33, Tryz.ntmps33
  go_wp2_with fail
  rw [HWA.out]
  go_loopw [3, 4] (fun ov nv wr => ∃ (n m : Nat) (ao1 : Option Addr) (cap1 : Nat), n ≤ 4096 ∧ nv = .int .i64 n ∧ ov = .slice ao1 m cap1 ∧ Hid (m = (pgs ns n).length) ∧ Hid (PG w (pgs ns n) (.slice ao1 m cap1) wr)) (fun _ nv _ => 4096 - (intOf nv).toNat)
  case atStart => exact ⟨0, 0, _, _, by omega, rfl, rfl, hid rfl, HP0⟩
  case round =>
    obtain ⟨n, m, ao1, cap1, hn, rfl, rfl, HM, HP⟩ := hrel
    have c1 := HC1.out wr HP.out.bel
    by_cases h0 : (n : Int) < 4096
    · by_cases h1 : (len : Int) > 0
      · have hn4 : n < 4096 := by omega
        obtain ⟨w5, hw5⟩ : ∃ x, x = wr := ⟨_, rfl⟩
        subst hw5
        go_wp2_with fail
        go_loopw [3, 5] (fun ov iv wr => ∃ i : Nat, i ≤ len ∧ ov = .slice ao1 m cap1 ∧ iv = .int .i64 i ∧ wr = w5 ∧ Hid (∀ x ∈ ns.take i, x ≠ n)) (fun _ iv _ => len - (intOf iv).toNat)
        case atStart => exact ⟨0, Nat.zero_le _, rfl, rfl, rfl, hid (fun x hx => by cases hx)⟩
        case round =>
          obtain ⟨i, hi, rfl, rfl, rfl, HN⟩ := hrel
          by_cases hil : (i : Int) < (len : Int)
          · have hiL : i < ns.length := by have := HLEN.out; omega
            obtain ⟨g, rfl, hic, q0⟩ := HAT.out wr HP.out.bel i hiL
            have htk : ns.take (i + 1) = ns.take i ++ [ns[i]] := by rw [List.take_add_one, List.getElem?_eq_getElem hiL]; rfl
            by_cases hxn : ns[i] = n
            · have hps := pgs_some hiL hxn
              obtain ⟨ao2, cap2, w6, hr, hp6⟩ := HP.out.push n (by have := pgs_len ns n; omega)
              rw [← hps, ← HM.out] at hp6
              rw [← HM.out] at hr
              have HM2 : Hid (m + 1 = (pgs ns (n + 1)).length) := hid (by rw [hps, List.length_append, ← HM.out]; rfl)
              have HR := hid hr
              have HP6 := hid hp6
              have hxb : ((ns[i] : Int) == (n : Int)) = true := by simp [hxn]
              generalize ns[i] = x at *
              clear htk hps hr hp6 hxn
              go_wp2_with (at_builtin; refine wpList_append_run rfl (.tmp 41) (.tmp 43) tIs tIs rfl _ _ (by simp [Act.eval]) (by simp [Act.eval]) HR.out ?_)
              go_roundw
              case rel => exact ⟨n + 1, m + 1, ao2, cap2, by omega, by go_num, rfl, HM2, HP6⟩
              case measure => simp [intOf]; omega
            · have hxb : ((ns[i] : Int) == (n : Int)) = false := by simp; omega
              have HN2 : Hid (∀ x ∈ ns.take (i + 1), x ≠ n) := hid (fun x hx => by
                rw [htk] at hx
                rcases List.mem_append.1 hx with hx | hx
                · exact HN.out x hx
                · rw [List.mem_singleton] at hx
                  subst hx
                  exact hxn)
              clear htk hxn
              generalize ns[i] = x at *
              go_wp2
              go_roundw
              case rel => exact ⟨i + 1, by omega, rfl, by go_num, trivial, HN2⟩
              case measure => simp [intOf]; omega
          · obtain rfl : i = len := by omega
            have hps : pgs ns (n + 1) = pgs ns n := pgs_none (fun x hx => HN.out x (by rw [← HLEN.out, List.take_length]; exact hx))
            have HP6 : Hid (PG w (pgs ns (n + 1)) (.slice ao1 m cap1) wr) := hid (by rw [hps]; exact HP.out)
            have HM2 : Hid (m = (pgs ns (n + 1)).length) := hid (by rw [hps]; exact HM.out)
            clear hps
            go_wp2
            go_roundw
            case rel => exact ⟨n + 1, m, ao1, cap1, by omega, by go_num, rfl, HM2, HP6⟩
            case measure => simp [intOf]; omega
      · have hx := HNIL.out (by omega)
        have hns : ns = [] := List.eq_nil_of_length_eq_zero (by have := HLEN.out; omega)
        have HP6 : Hid (PG w X (.slice ao1 m cap1) wr) := hid (by
          rw [hx, ← pgs_nil n, ← hns]
          exact HP.out)
        clear hx hns
        go_wp2
        go_ret
        exact ⟨_, rfl, HP6.out⟩
    · obtain rfl : n = 4096 := by omega
      have HP6 : Hid (PG w X (.slice ao1 m cap1) wr) := hid (by rw [← HX.out]; exact HP.out)
      go_wp2
      go_ret
      exact ⟨_, rfl, HP6.out⟩
end Lr
end Go.Proofs.YtgmbiiocjhkpdaaGreat

/-
  Contract of the reference's log: Back.
-/
namespace Go.Proofs.YtgmbiiocjhkpdaaGreat
open Go.RowKit Go.Shelf
namespace Lr
open Lo
open Num (hid)
open Disk (Mod Fil)
open Ref (Refs RQ Good)
open Mem (Bs bs tI tIs ptr blk_cell blk_free blk_new blk_set blk_other blk_alloc row_kept row_shape row_type push_int push_one wpList_append_run)
variable {R0 : Nat → Prop} {r b : Nat} {M M' : Mod} {l l' : Lg} {w0 w w' : World} {v u v' u' : Value}

def BackPost (R0 : Nat → Prop) (r b : Nat) (w0 : World) (X : Int × Lg × Mod) (e : Ending) (w' : World) : Prop :=
  ∃ v u, e = .returned (.int .i64 X.1) ∧ RL R0 r b X.2.2 X.2.1 w0 v u w'
set_option maxRecDepth 100000 in
set_option maxHeartbeats 2000000 in
/-- hs: behind each frame a sum. -/
theorem rback_any (h : RL R0 r b M l w0 v u w) (hs : l.ns ≠ [] → l.ss.length = l.ns.length + 1) (k : Int) : Calls Tryz.prog 20 #[ptr b, .int .i64 k] w (BackPost R0 r b w0 (backM l k M)) := by
  obtain ⟨ao, cap, rfl⟩ := one_len h.rowN
  obtain ⟨ao2, cap2, rfl⟩ := one_len h.rowS
  have hm : backM l k M = if k < 0 ∨ (l.ns.length : Int) < k then (1, l, M)
    else if k = l.ns.length then (0, l, M)
    else ((M.cut ln (1 + k)).1, (if (M.cut ln (1 + k)).1 = 0 then ⟨l.ns.take k.toNat, l.ss.take (k.toNat + 1)⟩ else l), (M.cut ln (1 + k)).2) := rfl
  obtain ⟨X, hX⟩ : ∃ X, backM l k M = X := ⟨_, rfl⟩
  rw [hX] at hm ⊢
  have hfew := h.few.1
  have c0 := h.c0
  have c1 := h.c1
  have H := hid h
  have HLS : Hid (0 < l.ns.length → l.ss.length = l.ns.length + 1) := hid (fun e => hs (fun x => by rw [x] at e; exact absurd e (by decide)))
  obtain ⟨len, hlen⟩ : ∃ x, l.ns.length = x := ⟨_, rfl⟩
  obtain ⟨len2, hlen2⟩ : ∃ x, l.ss.length = x := ⟨_, rfl⟩
  rw [hlen] at hm c1 hfew H HLS
  rw [hlen2] at H HLS
  have HLEN := hid hlen
  have HLEN2 := hid hlen2
  clear h hX hs hlen hlen2
  go_enter Tryz.func20, Tryz.ntmps20
  by_cases h0 : k < 0
  · have HM : Hid (X = (1, l, M)) := hid (hm.trans (if_pos (Or.inl h0)))
    clear hm
    go_wp2
    go_ret
    rw [HM.out]
    exact ⟨_, _, rfl, H.out⟩
  · by_cases h1 : (len : Int) < k
    · have HM : Hid (X = (1, l, M)) := hid (hm.trans (if_pos (Or.inr h1)))
      clear hm
      go_wp2
      go_ret
      rw [HM.out]
      exact ⟨_, _, rfl, H.out⟩
    · by_cases h2 : k = (len : Int)
      · have HM : Hid (X = (0, l, M)) := hid ((hm.trans (if_neg (by omega))).trans (if_pos h2))
        have h2b : (k == (len : Int)) = true := by simp [h2]
        have H2 := hid h2
        clear hm h2
        go_wp2
        go_ret
        rw [HM.out]
        exact ⟨_, _, rfl, H.out⟩
      · have h2b : (k == (len : Int)) = false := by simp [h2]
        obtain ⟨c, rfl⟩ := Int.eq_ofNat_of_zero_le (show 0 ≤ k by omega)
        have HM : Hid (X = ((M.cut ln (1 + (c : Int))).1, (if (M.cut ln (1 + (c : Int))).1 = 0 then ⟨l.ns.take c, l.ss.take (c + 1)⟩ else l), (M.cut ln (1 + (c : Int))).2)) := hid ((hm.trans (if_neg (by omega))).trans (if_neg h2))
        have hcl : c < len := by omega
        have hw1 : wrap64 (1 + (c : Int)) = 1 + (c : Int) := by rw [Num.wrap_i]; omega
        clear hm h2 h0 h1
        go_wp2_with fail
        refine (H.out.cut_ (1 + (c : Int))).mono ?_
        rintro e w1 ⟨rfl, h1⟩
        have H1 := hid h1
        generalize M.cut ln (1 + (c : Int)) = Y at *
        by_cases hy : Y.1 = 0
        · have hy1 : (Y.1 != 0) = false := by simp [hy]
          have HM2 : Hid (X = (0, ⟨l.ns.take c, l.ss.take (c + 1)⟩, Y.2)) := hid (by rw [HM.out, if_pos hy, hy])
          obtain ⟨k1, ao3, cap3, w2, hr, d1, d2, d3, h2⟩ := h1.copyN (c := c) (by rw [HLEN.out]; omega)
          have hl2 := HLS.out (by omega)
          have e1 := h1.c1
          have e3 := lt_of_block h1.box
          have hck : (c : Int) ≤ (cap : Int) := by omega
          have HR := hid hr
          have H2 := hid h2
          clear hy h1 h2 hr
          go_upto_region 11 with (at_builtin; refine wpList_append_run rfl (.tmp 37) (.tmp 43) tIs tIs rfl _ _ (by simp [Act.eval]) (by simp [Act.eval]) HR.out ?_)
          generalize w2.setCell ⟨b, 1, none⟩ (.slice ao3 c cap3) = w4 at *
          obtain ⟨k2, ao4, cap4, w5, hr2, d4, d5, d6, h3⟩ := H2.out.copyS (c := c + 1) (by show c + 1 ≤ l.ss.length; rw [HLEN2.out]; omega)
          have e2 := H2.out.c2
          have e4 := lt_of_block H2.out.box
          have hck2 : (c : Int) + 1 ≤ (cap2 : Int) := by omega
          have hcl2 : (c : Int) + 1 ≤ (len2 : Int) := by omega
          have hw2 : wrap64 ((c : Int) + 1) = (c : Int) + 1 := by rw [Num.wrap_i]; omega
          have HR2 := hid hr2
          have H3 := hid h3
          clear h3 hr2 hl2 HR H2 d1 d2 d3 e1 e3
          go_wp2_with (at_builtin; refine wpList_append_run rfl (.tmp 48) (.tmp 55) tUs tUs rfl _ _ (by simp [Act.eval]) (by simp [Act.eval]) HR2.out ?_)
          go_ret
          rw [HM2.out]
          exact ⟨_, _, rfl, H3.out⟩
        · have hy1 : (Y.1 != 0) = true := by simp [hy]
          have HM2 : Hid (X = (Y.1, l, Y.2)) := hid (by rw [HM.out, if_neg hy])
          clear hy h1
          go_wp2
          go_ret
          rw [HM2.out]
          exact ⟨_, _, rfl, H1.out⟩
end Lr
end Go.Proofs.YtgmbiiocjhkpdaaGreat

/-
  The reference's log: one number more, one sum more, and what is turned by it.
-/
namespace Go.Proofs.YtgmbiiocjhkpdaaGreat
open Go.RowKit
namespace Lr
open Lo
open Disk (Mod Fil)
open Ref (Refs RQ Good)
open Mem (Bs bs tI tIs ptr blk_cell blk_free blk_new blk_set blk_other blk_alloc row_kept row_shape row_type push_int push_one)
variable {R0 : Nat → Prop} {r b : Nat} {M M' : Mod} {l l' : Lg} {w0 w w' : World} {v u v' u' : Value}
/-- The same, and what is turned by it. -/
theorem RL.pushS2 (h : RL R0 r b M l w0 v u w) (x : Nat) (hn : l.ss.length < 100000) :
    ∃ ao cap w1, (Builtin.append_ #[tUs, tUs] tUs #[u, .slice (some ⟨w.heap.size, 0, none⟩) 1 1]).run Tryz.prog (w.alloc (.cells #[uV x] tU)) = .ok (.slice ao (l.ss.length + 1) cap) w1 ∧ w1.cell? ⟨b, 2, none⟩ = some u ∧ w1.frozen? ⟨b, 2, none⟩ = false ∧ b < w1.heap.size ∧ w.heap.size ≤ w1.heap.size ∧
      RL R0 r b M ⟨l.ns, l.ss ++ [x]⟩ w0 v (.slice ao (l.ss.length + 1) cap) (w1.setCell ⟨b, 2, none⟩ (.slice ao (l.ss.length + 1) cap)) ∧ Mem.Chg (lgX b v u) w (w1.setCell ⟨b, 2, none⟩ (.slice ao (l.ss.length + 1) cap)) := by
  obtain ⟨u', w1, hr, ho, hc, hk⟩ := push_u64 h.rowS x (by omega)
  obtain ⟨ao, cap, rfl⟩ := one_len ho
  have hb1 : w1.heap[b]? = some (.cells #[ptr r, v, u] tLg (0, 0)) := hc.at h.box (fun e => h.nu e)
  have hs := set_at hb1 2 (.slice ao (l.ss.length + 1) cap)
  have hlt := lt_of_block h.box
  have hz := hc.size
  have hub : ∀ q, (Value.slice ao (l.ss.length + 1) cap).ownBlock = some q → q ≠ b := fun q hq e => by
    subst e
    rcases hk q hq with e | e
    · exact h.nu e
    · omega
  refine ⟨ao, cap, w1, hr, blk_cell hb1 2, blk_free hb1 2, lt_of_block hb1, hz, And.intro (h.turn (F := fun k => k = b ∨ u.ownBlock = some k) (((hc.mono (fun k _ hk => Or.inr hk)).trans (hs.mono (fun k _ hk => Or.inl hk)))) (fun k hk => hk.imp_right Or.inr) ?_ ?_ ?_ (fun k hk => Or.inl hk) hk (fun q hq e => ?_) ⟨h.few.1, by show (l.ss ++ [x]).length ≤ _; rw [List.length_append]; show l.ss.length + 1 ≤ _; omega⟩) ((hc.mono (fun k _ hk => (Or.inr (Or.inr hk) : lgX b v u k))).trans (hs.mono (fun k _ hk => (Or.inl hk : lgX b v u k))))⟩
  · have := blk_set hb1 2 (.slice ao (l.ss.length + 1) cap)
    simpa using this
  · exact row_kept (row_kept h.rowN hc (fun g hg e => h.ne g hg e)) hs (fun g hg e => h.nb (e ▸ hg))
  · have := row_kept ho hs (fun g hg => hub g hg)
    rw [List.map_append, List.length_append]
    exact this
  · rcases hk q e with e2 | e2
    · exact h.ne q hq e2
    · have := (h.rowN.lt q hq).2
      omega
theorem RL.pushN2 (h : RL R0 r b M l w0 v u w) (x : Nat) (hn : l.ns.length < 100000) :
    ∃ ao cap w1, (Builtin.append_ #[tIs, tIs] tIs #[v, .slice (some ⟨w.heap.size, 0, none⟩) 1 1]).run Tryz.prog (w.alloc (.cells #[nV x] tI)) = .ok (.slice ao (l.ns.length + 1) cap) w1 ∧ w1.cell? ⟨b, 1, none⟩ = some v ∧ w1.frozen? ⟨b, 1, none⟩ = false ∧ b < w1.heap.size ∧ w.heap.size ≤ w1.heap.size ∧
      RL R0 r b M ⟨l.ns ++ [x], l.ss⟩ w0 (.slice ao (l.ns.length + 1) cap) u (w1.setCell ⟨b, 1, none⟩ (.slice ao (l.ns.length + 1) cap)) ∧ Mem.Chg (lgX b v u) w (w1.setCell ⟨b, 1, none⟩ (.slice ao (l.ns.length + 1) cap)) := by
  obtain ⟨v', w1, hr, ho, hc, hk⟩ := push_int h.rowN (x : Int) (by omega)
  obtain ⟨ao, cap, rfl⟩ := one_len ho
  have hb1 : w1.heap[b]? = some (.cells #[ptr r, v, u] tLg (0, 0)) := hc.at h.box (fun e => h.nb e)
  have hs := set_at hb1 1 (.slice ao (l.ns.length + 1) cap)
  have hlt := lt_of_block h.box
  have hz := hc.size
  have hub : ∀ q, (Value.slice ao (l.ns.length + 1) cap).ownBlock = some q → q ≠ b := fun q hq e => by
    subst e
    rcases hk q hq with e | e
    · exact h.nb e
    · omega
  refine ⟨ao, cap, w1, hr, blk_cell hb1 1, blk_free hb1 1, lt_of_block hb1, hz, And.intro (h.turn (F := fun k => k = b ∨ v.ownBlock = some k) (((hc.mono (fun k _ hk => Or.inr hk)).trans (hs.mono (fun k _ hk => Or.inl hk)))) (fun k hk => hk.imp_right Or.inl) ?_ ?_ ?_ hk (fun k hk => Or.inl hk) (fun q hq e => ?_) ⟨by show (l.ns ++ [x]).length ≤ _; rw [List.length_append]; show l.ns.length + 1 ≤ _; omega, h.few.2⟩) ((hc.mono (fun k _ hk => (Or.inr (Or.inl hk) : lgX b v u k))).trans (hs.mono (fun k _ hk => (Or.inl hk : lgX b v u k))))⟩
  · have := blk_set hb1 1 (.slice ao (l.ns.length + 1) cap)
    simpa using this
  · have := row_kept ho hs (fun g hg => hub g hg)
    rw [List.map_append, List.length_append]
    exact this
  · exact row_kept (row_kept h.rowS hc (fun g hg e => h.ne g e hg)) hs (fun g hg e => h.nu (e ▸ hg))
  · rcases hk q hq with e2 | e2
    · exact h.ne q e2 e
    · have := (h.rowS.lt q e).2
      omega
end Lr
end Go.Proofs.YtgmbiiocjhkpdaaGreat
