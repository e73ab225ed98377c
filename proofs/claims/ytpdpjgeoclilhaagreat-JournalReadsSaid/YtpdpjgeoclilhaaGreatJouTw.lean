/-
  The project's disk and the reference's, one beside the other: calls of the one, calls of the other.
-/
import Derived.Test.YtpdpjgeoclilhaaGreatJouRBack
namespace Go.Proofs.YtpdpjgeoclilhaaGreat
open Go.RowKit Go.Shelf
namespace Jo
open Num (hid)
open Disk (Mod Fil Plc Sees Stays Ctl)
open Mem (Bs bs tS ptr blk_cell blk_free blk_new blk_set blk_other blk_alloc row_kept row_shape row_type)
open Ref (Refs RSees)

theorem fok_loaded {l : List UInt8} (h : l.length ≤ 1048576) : FOk (some (Disk.loadedF l)) := by
  intro G hG
  cases hG
  refine ⟨?_, fun p hp => ?_⟩
  · show ((List.range ((l.length + 255) / 256)).map _).length ≤ 16384
    rw [List.length_map, List.length_range]
    omega
  · obtain ⟨i, _, rfl⟩ := List.mem_map.1 (show p ∈ (List.range ((l.length + 255) / 256)).map fun i => (⟨some (Disk.fitted (l.drop (i * 256))), some (some (Disk.fitted (l.drop (i * 256)))), false⟩ : Plc) from hp)
    show (Disk.fitted (l.drop (i * 256))).length = 256
    exact Disk.fitted_len _
theorem GJ.load_j {M : Mod} {D J : Option Fil} (h : GJ M D J) (l : List UInt8) : ∃ D' J', GJ (M.load jn l).2 D' J' := by
  unfold Disk.Mod.load
  split
  · exact ⟨D, J, h⟩
  · rename_i h1
    rw [h.fs, holds_mk, if_neg (by decide)]
    refine ⟨D, _, ⟨ins_j D J _, h.ok, h.d, fok_loaded ?_⟩⟩
    rcases Nat.lt_or_ge 1048576 l.length with h2 | h2
    · exact absurd (Or.inr h2) h1
    · exact h2
theorem GJ.load_d {M : Mod} {D J : Option Fil} (h : GJ M D J) (l : List UInt8) : ∃ D' J', GJ (M.load dn l).2 D' J' := by
  unfold Disk.Mod.load
  split
  · exact ⟨D, J, h⟩
  · rename_i h1
    rw [h.fs, holds_mk, if_neg (by decide)]
    refine ⟨_, J, ⟨ins_d D J _, h.ok, fok_loaded ?_, h.j⟩⟩
    rcases Nat.lt_or_ge 1048576 l.length with h2 | h2
    · exact absurd (Or.inr h2) h1
    · exact h2
theorem gj_new (h : (Mod.new 200).c.Ok) : GJ (Mod.new 200) none none := ⟨rfl, h, fun G hG => (by cases hG), fun G hG => (by cases hG)⟩
variable {R0 X : Nat → Prop} {r d m : Nat} {M M' U U' : Mod} {w0 w w' : World}
theorem rload_jn (h : RJ R0 X r M w0 w) (hX : ∀ k, X k → k < w.heap.size) (l : ByteArray) (hl : l.size ≤ maxLen) :
    Calls Tryz.prog 13 #[ptr r, .string jS, .string l] w fun e w' => e = .returned (.int .i64 (M.load jn l.data.toList).1) ∧ RJ R0 X r (M.load jn l.data.toList).2 w0 w' ∧ Disk.Chg (fun k => ¬ X k) w w' := by
  obtain ⟨R', h1, h2⟩ := h.call hX
  obtain ⟨D, J, g⟩ := h.good
  refine (Ref.load_ref h1 jS (by decide) l hl).mono ?_
  rintro e w' ⟨rfl, k1, k2⟩
  exact ⟨rfl, h2 _ w' k1 k2 (g.load_j l.data.toList)⟩
theorem rload_dn (h : RJ R0 X r M w0 w) (hX : ∀ k, X k → k < w.heap.size) (l : ByteArray) (hl : l.size ≤ maxLen) :
    Calls Tryz.prog 13 #[ptr r, .string dS, .string l] w fun e w' => e = .returned (.int .i64 (M.load dn l.data.toList).1) ∧ RJ R0 X r (M.load dn l.data.toList).2 w0 w' ∧ Disk.Chg (fun k => ¬ X k) w w' := by
  obtain ⟨R', h1, h2⟩ := h.call hX
  obtain ⟨D, J, g⟩ := h.good
  refine (Ref.load_ref h1 dS (by decide) l hl).mono ?_
  rintro e w' ⟨rfl, k1, k2⟩
  exact ⟨rfl, h2 _ w' k1 k2 (g.load_d l.data.toList)⟩
theorem rbytes_dn (h : RJ R0 X r M w0 w) : Calls Tryz.prog 20 #[ptr r, .string dS] w fun e w' => e = .returned (.string (bs (M.bytes dn))) ∧ Below w.heap.size w w' := by
  obtain ⟨⟨R, ⟨v, E, a, k, m, D, hE⟩, -⟩, ⟨D', J', g⟩, -⟩ := h
  have hG := g.good
  have hmem : ∀ x ∈ E, x.2 ∈ M.fs := fun x hx => by rw [← hE]; exact List.mem_map_of_mem hx
  have H := Ref.rbytes_any D (Ref.few_ens hG hE) (fun x hx => Nat.le_trans (hG.lens _ (hmem x hx)) (by decide)) (fun x hx => hG.secs _ (hmem x hx)) dS
  rw [hE] at H
  exact H
theorem refs_lt {R : Nat → Prop} (h : Refs R r M w) : R r ∧ r < w.heap.size := by
  obtain ⟨v, E, a, k, m, D, -⟩ := h
  exact ⟨D.own, lt_of_block D.blk⟩
/-- Both, the reference's apart from the project's. -/
structure Tw (w0 : World) (O R : Nat → Prop) (d m r : Nat) (M U : Mod) (w : World) : Prop where
  sees : Sees O d m M w
  refs : Refs R r U w
  sub : ∀ k, R k → O k
  low : ∀ k, R k → w0.heap.size ≤ k
  old : ∀ k, k < w0.heap.size → O k
  below : Below w0.heap.size w0 w
  good : ∃ D J, GJ U D J
theorem Sees.lt' {O : Nat → Prop} (h : Sees O d m M w) {k : Nat} (hk : O k) : k < w.heap.size := by
  obtain ⟨tag, L, D, hL, hN, hs⟩ := h
  exact hs k hk
variable {O R : Nat → Prop}
/-- Where only new blocks come. -/
theorem Tw.on (h : Tw w0 O R d m r M U w) (hb : Below w.heap.size w w') : Tw w0 O R d m r M U w' :=
  ⟨h.sees.kept hb, h.refs.apart (F := fun _ => False) (Disk.Chg.of_below hb) (fun _ x => x.elim), h.sub, h.low, h.old, h.below.trans (hb.mono h.below.size), h.good⟩
/-- Behind the project's call. -/
theorem Tw.own {O' : Nat → Prop} (h : Tw w0 O R d m r M U w) (hs : Sees O' d m M' w') (hO : ∀ k, O k → O' k) (hst : Stays O w w') : Tw w0 O' R d m r M' U w' :=
  ⟨hs, h.refs.apart hst (fun k hk hR => hk (h.sub k hR)), fun k hk => hO k (h.sub k hk), h.low, fun k hk => hO k (h.old k hk), h.below.trans (Disk.Chg.below hst h.below.size (fun k hk hx => hx (h.old k hk))), h.good⟩
/-- What the reference's call wants. -/
theorem Tw.start (h : Tw w0 O R d m r M U w) : RJ R (fun _ => False) r U w w := RJ.start h.refs (fun k hk => Sees.lt' h.sees (h.sub k hk)) h.good
/-- Behind the reference's call; X: rows of the call's own. -/
theorem Tw.ref (h : Tw w0 O R d m r M U w) (hr : RJ R X r U' w w') : ∃ R', Tw w0 (fun k => O k ∨ (w.heap.size ≤ k ∧ k < w'.heap.size)) R' d m r M U' w' ∧ Stays (fun k => ¬ R k) w w' ∧ ∀ k, R' k → R k ∨ w.heap.size ≤ k := by
  obtain ⟨⟨R', h1, h2⟩, hg, hc⟩ := hr
  have hz := h.below.size
  refine ⟨R', ⟨Ref.Sees.beside h.sees hc (fun k hk _ => h.sub k hk), h1, fun k hk => ?_, fun k hk => ?_, fun k hk => Or.inl (h.old k hk), h.below.trans (Disk.Chg.below hc hz (fun k hk hx => by have := h.low k hx; omega)), hg⟩, Disk.Chg.mono hc (fun k _ hk x => x hk), fun k hk => (h2 k hk).2.2⟩
  · rcases (h2 k hk).2.2 with e | e
    · exact Or.inl (h.sub k e)
    · exact Or.inr ⟨e, (h2 k hk).2.1⟩
  · rcases (h2 k hk).2.2 with e | e
    · exact h.low k e
    · omega
/-- Some row of blocks. -/
def Two (w0 : World) (d m r : Nat) (M U : Mod) (w : World) : Prop := ∃ O R, Tw w0 O R d m r M U w
theorem two_new {w1 w2 w3 : World} (hb : Below w0.heap.size w0 w1) (h2 : Disk.Has w1.heap.size (w1.heap.size + 1) w1.heap.size (Mod.new 200) w2) (hb2 : Below w1.heap.size w1 w2) (h3 : Refs (fun k => k = w2.heap.size) w2.heap.size (Mod.new 200) w3) (hb3 : Below w2.heap.size w2 w3) :
    Two w0 (w1.heap.size + 1) w1.heap.size w2.heap.size (Mod.new 200) (Mod.new 200) w3 := by
  have z1 := hb.size
  have z2 := hb2.size
  have hlt := (refs_lt h3).2
  have hs : Sees (fun k => k < w1.heap.size) (w1.heap.size + 1) w1.heap.size (Mod.new 200) w2 := Sees.of_has h2
  refine ⟨_, _, ⟨Ref.Sees.beside hs (F := fun _ => False) (Disk.Chg.of_below hb3) (fun _ x => x.elim), h3, fun k hk => ?_, fun k hk => ?_, fun k hk => Or.inl (by omega), (hb.trans (hb2.mono z1)).trans (hb3.mono (Nat.le_trans z1 z2)), ⟨none, none, gj_new (Ref.Sees.good hs).ok⟩⟩⟩
  · subst hk
    exact Or.inr ⟨Nat.le_refl _, hlt⟩
  · subst hk
    omega
theorem Two.on (h : Two w0 d m r M U w) (hb : Below w.heap.size w w') : Two w0 d m r M U w' := by
  obtain ⟨O, R, h⟩ := h
  exact ⟨O, R, h.on hb⟩
theorem two_load_j (h : Two w0 d m r M U w) (l : ByteArray) (hl : l.size ≤ maxLen) :
    Calls Tryz.prog 12 #[ptr d, .string jS, .string l] w fun e w' => e = .returned (.int .i64 (M.load jn l.data.toList).1) ∧ Two w0 d m r (M.load jn l.data.toList).2 U w' := by
  obtain ⟨O, R, h⟩ := h
  refine (Disk.load_sees h.sees jS (by decide) l hl).mono ?_
  rintro e w' ⟨rfl, h1, h2⟩
  exact ⟨rfl, O, R, h.own h1 (fun _ x => x) h2⟩
theorem two_load_d (h : Two w0 d m r M U w) (l : ByteArray) (hl : l.size ≤ maxLen) :
    Calls Tryz.prog 12 #[ptr d, .string dS, .string l] w fun e w' => e = .returned (.int .i64 (M.load dn l.data.toList).1) ∧ Two w0 d m r (M.load dn l.data.toList).2 U w' := by
  obtain ⟨O, R, h⟩ := h
  refine (Disk.load_sees h.sees dS (by decide) l hl).mono ?_
  rintro e w' ⟨rfl, h1, h2⟩
  exact ⟨rfl, O, R, h.own h1 (fun _ x => x) h2⟩
theorem two_rload_j (h : Two w0 d m r M U w) (l : ByteArray) (hl : l.size ≤ maxLen) :
    Calls Tryz.prog 13 #[ptr r, .string jS, .string l] w fun e w' => e = .returned (.int .i64 (U.load jn l.data.toList).1) ∧ Two w0 d m r M (U.load jn l.data.toList).2 w' := by
  obtain ⟨O, R, h⟩ := h
  refine (rload_jn h.start (fun _ x => x.elim) l hl).mono ?_
  rintro e w' ⟨rfl, h1, -⟩
  obtain ⟨R', h2, -, -⟩ := h.ref h1
  exact ⟨rfl, _, R', h2⟩
theorem two_rload_d (h : Two w0 d m r M U w) (l : ByteArray) (hl : l.size ≤ maxLen) :
    Calls Tryz.prog 13 #[ptr r, .string dS, .string l] w fun e w' => e = .returned (.int .i64 (U.load dn l.data.toList).1) ∧ Two w0 d m r M (U.load dn l.data.toList).2 w' := by
  obtain ⟨O, R, h⟩ := h
  refine (rload_dn h.start (fun _ x => x.elim) l hl).mono ?_
  rintro e w' ⟨rfl, h1, -⟩
  obtain ⟨R', h2, -, -⟩ := h.ref h1
  exact ⟨rfl, _, R', h2⟩
/-- The project's Find: the row that it tells is neither's. -/
def TwoV (w0 : World) (d m r : Nat) (M U : Mod) (v : Value) (l : List Rec) (w : World) : Prop := ∃ O R, Tw w0 O R d m r M U w ∧ PgR w v l ∧ w.ownsRow 0 tPg 2 v l.length (l.flatMap pV) ∧ (∀ k, v.ownBlock = some k → ¬ R k)
theorem two_find (h : Two w0 d m r M U w) :
    Calls Tryz.prog 14 #[ptr d] w fun e w' => ∃ v, e = .returned (.tuple #[.int .i64 (ansP (findM M) : Nat), v, .bool (ansN (findM M)), .int .i64 (findM M).1]) ∧ TwoV w0 d m r (findM M).2.2 U v (ansL (findM M)) w' := by
  obtain ⟨O, R, h⟩ := h
  refine (find_any h.sees).mono ?_
  rintro e w' ⟨v, rfl, hrow, hs, hst, hv⟩
  exact ⟨v, rfl, _, R, h.own hs (fun _ x => Or.inl x) hst, pgr_of hrow, hrow, fun k hk hR => (hv k hk).1 (h.sub k hR)⟩
theorem two_rfind {v : Value} {l : List Rec} (h : TwoV w0 d m r M U v l w) :
    Calls Tryz.prog 15 #[ptr r] w fun e w' => ∃ u, e = .returned (.tuple #[.int .i64 (ansP (findM U) : Nat), u, .bool (ansN (findM U)), .int .i64 (findM U).1]) ∧ Two w0 d m r M (findM U).2.2 w' ∧ PgR w' v l ∧ PgR w' u (ansL (findM U)) := by
  obtain ⟨O, R, h, hp, hrow, hn⟩ := h
  refine (rfind_any h.start).mono ?_
  rintro e w' ⟨u, rfl, hru, hrj, hu⟩
  obtain ⟨R', h2, h3, -⟩ := h.ref hrj
  exact ⟨u, rfl, ⟨_, R', h2⟩, pgr_of (row_kept hrow (toMem h3) (fun k hk hx => hx (hn k hk))), pgr_of hru⟩
theorem two_back (h : Two w0 d m r M U w) :
    Calls Tryz.prog 17 #[ptr d] w fun e w' => e = .returned (.int .i64 (backM M).1) ∧ Two w0 d m r (backM M).2 U w' := by
  obtain ⟨O, R, h⟩ := h
  refine (back_any h.sees).mono ?_
  rintro e w' ⟨rfl, h1, h2⟩
  exact ⟨rfl, O, R, h.own h1 (fun _ x => x) h2⟩
theorem two_rback (h : Two w0 d m r M U w) :
    Calls Tryz.prog 18 #[ptr r] w fun e w' => e = .returned (.int .i64 (backM U).1) ∧ Two w0 d m r M (backM U).2 w' := by
  obtain ⟨O, R, h⟩ := h
  refine (rback_any h.start).mono ?_
  rintro e w' ⟨rfl, h1⟩
  obtain ⟨R', h2, -, -⟩ := h.ref h1
  exact ⟨rfl, _, R', h2⟩
theorem two_bytes (h : Two w0 d m r M U w) : Calls Tryz.prog 19 #[ptr d, .string dS] w fun e w' => e = .returned (.string (bs (M.bytes dn))) ∧ Two w0 d m r M U w' := by
  obtain ⟨O, R, h⟩ := h
  refine (Disk.bytes_sees h.sees dS (by decide)).mono ?_
  rintro e w' ⟨rfl, hb⟩
  exact ⟨rfl, O, R, h.on hb⟩
theorem two_rbytes (h : Two w0 d m r M U w) : Calls Tryz.prog 20 #[ptr r, .string dS] w fun e w' => e = .returned (.string (bs (U.bytes dn))) ∧ Two w0 d m r M U w' := by
  obtain ⟨O, R, h⟩ := h
  refine (rbytes_dn h.start).mono ?_
  rintro e w' ⟨rfl, hb⟩
  exact ⟨rfl, O, R, h.on hb⟩
theorem two_size_d (h : Two w0 d m r M U w) : Calls Tryz.prog 21 #[ptr d, .string dS] w fun e w' => e = .returned (.int .i64 (M.size dn)) ∧ w = w' := by
  obtain ⟨O, R, h⟩ := h
  exact Disk.size_sees h.sees dS (by decide)
theorem two_size_j (h : Two w0 d m r M U w) : Calls Tryz.prog 21 #[ptr d, .string jS] w fun e w' => e = .returned (.int .i64 (M.size jn)) ∧ w = w' := by
  obtain ⟨O, R, h⟩ := h
  exact Disk.size_sees h.sees jS (by decide)
theorem two_rsize_d (h : Two w0 d m r M U w) : Calls Tryz.prog 22 #[ptr r, .string dS] w fun e w' => e = .returned (.int .i64 (U.size dn)) ∧ w = w' := by
  obtain ⟨O, R, h⟩ := h
  exact rsize_dn h.start
theorem two_rsize_j (h : Two w0 d m r M U w) : Calls Tryz.prog 22 #[ptr r, .string jS] w fun e w' => e = .returned (.int .i64 (U.size jn)) ∧ w = w' := by
  obtain ⟨O, R, h⟩ := h
  exact rsize_jn h.start
theorem two_len (h : Two w0 d m r M U w) : (ansL (findM U)).length ≤ 100000 := by
  obtain ⟨O, R, h⟩ := h
  exact rback_len h.start
theorem Two.below (h : Two w0 d m r M U w) : Below w0.heap.size w0 w := by
  obtain ⟨O, R, h⟩ := h
  exact h.below
end Jo
end Go.Proofs.YtpdpjgeoclilhaaGreat
