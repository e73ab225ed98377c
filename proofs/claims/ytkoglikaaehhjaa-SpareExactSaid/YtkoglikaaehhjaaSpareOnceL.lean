/-
  SpareOnce: the walk of the statement.
-/
import Derived.Test.YtkoglikaaehhjaaSpareLab
namespace Go.Proofs.Ytkoglikaaehhjaa
open Go.RowKit
namespace spareOnce
open Sp
open Num (hid)
open Mem (Bs bs ptr Chg Row IAt iV tI tIs blk_cell blk_free blk_new blk_set blk_other blk_alloc row_kept wpList_append_run)
/-- A remainder is a place. -/
theorem mod_u (a : Int) (m : Nat) (hm : 0 < m) (hm2 : m ≤ 1000) : ∃ n : Nat, n < m ∧ wrap64 ((IntKind.u64.wrap a).tmod (m : Int)) = (n : Int) := by
  have h1 : IntKind.u64.wrap a = a % 18446744073709551616 := IntKind.wrap_u64 a
  have h0 : 0 ≤ IntKind.u64.wrap a := by rw [h1]; exact Int.emod_nonneg _ (by decide)
  rw [Int.tmod_eq_emod_of_nonneg h0]
  generalize IntKind.u64.wrap a = y at *
  have h2 := Int.emod_nonneg y (show (m : Int) ≠ 0 by omega)
  have h3 := Int.emod_lt_of_pos y (show (0 : Int) < (m : Int) by omega)
  generalize y % (m : Int) = z at *
  refine ⟨z.toNat, by omega, ?_⟩
  rw [Num.wrap_i]
  omega
/-- The row of the pages used: its block is the call's own. -/
structure Used (O : Nat → Prop) (N B : Nat) (w : World) (v : Value) (U : List Int) : Prop where
  row : w.ownsRow 0 tI 1 v U.length (U.map (Value.int .i64))
  own : ∀ g, v.ownBlock = some g → O g ∧ N ≤ g ∧ B ≠ g
theorem Used.on {O : Nat → Prop} {N B : Nat} {w w' : World} {v : Value} {U : List Int} (h : Used O N B w v U) (hb : Below w.heap.size w w') : Used O N B w' v U :=
  ⟨row_kept h.row (Chg.of_below (F := fun _ => False) hb) (fun _ _ h => h), h.own⟩
theorem Used.stays {O : Nat → Prop} {N B : Nat} {w w' : World} {v : Value} {U : List Int} (h : Used O N B w v U) (hs : Stays O w w') : Used O N B w' v U :=
  ⟨row_kept h.row hs (fun g hg hn => hn (h.own g hg).1), h.own⟩
theorem Used.put {O : Nat → Prop} {N B : Nat} {w : World} {v : Value} {U : List Int} (h : Used O N B w v U) (x : Hd) : Used O N B (put6 w B x) v U :=
  ⟨row_kept h.row (F := (· = B)) ((((((Chg.refl _ w).root _ _).root _ _).root _ _).root _ _).root _ _ |>.root _ _) (fun g hg e => (h.own g hg).2.2 e.symm), h.own⟩
theorem Used.more {O O' : Nat → Prop} {N B : Nat} {w : World} {v : Value} {U : List Int} (h : Used O N B w v U) (hO : ∀ k, O k → O' k) : Used O' N B w v U := ⟨h.row, fun g hg => ⟨hO g (h.own g hg).1, (h.own g hg).2⟩⟩
/-- append of a list of ints that is read. -/
theorem append_at {w : World} {v y : Value} {n : Nat} {xs : List Value} {ys : List Int} (hown : w.ownsRow 0 tI 1 v n xs) (hy : IAt w y ys) (hn : n + ys.length ≤ 1000000) :
    ∃ v' w', (Builtin.append_ #[tIs, tIs] tIs #[v, y]).run Try.prog w = .ok v' w' ∧ w'.ownsRow 0 tI 1 v' (n + ys.length) (xs ++ ys.map (Value.int .i64)) ∧ Chg (fun k => v.ownBlock = some k) w w' ∧ (∀ k, v'.ownBlock = some k → v.ownBlock = some k ∨ w.heap.size ≤ k) := by
  obtain ⟨i, hi, h0, h1, h2⟩ := Mem.intInfo
  rcases hy.1 with ⟨ao, cap, rfl, rfl⟩ | ⟨b, o, cap, rfl, hc, hlt, hj⟩
  · cases ao with
    | none => 
      rw [List.map_nil, List.append_nil, List.length_nil, Nat.add_zero]
      exact ⟨v, w, run_append_owned_none (P := Try.prog) (w := w) 0 tIs tIs tI i 1 Try.underlying22 hi v n xs hown, hown, Chg.refl _ _, fun k hk => Or.inl hk⟩
    | some a =>
      obtain ⟨v', w', hr, ho', hg, hw⟩ := Mem.run_append_who tIs tIs tI i _ 1 8 Try.underlying22 hi h0 h1 h2 rfl (by decide) v n xs hown a 0 cap [] rfl (fun j u hu => by simp at hu) (fun u hu => by simp at hu) (by have := hown.1; unfold maxLen; simp at hn; omega) (by simp at hn; omega)
      exact ⟨v', w', hr, ho', (Chg.refl _ w).grown hg (fun k hk => Or.inr hk), hw⟩
  · exact Mem.append_from tIs tI i _ 1 8 Try.underlying22 hi h0 h1 h2 rfl (by decide) (by decide) hown (by rw [List.length_map, Nat.mul_one]) (fun j hj' => by
      rw [List.length_map] at hj'
      have := hj j hj' 0 (by decide)
      rw [Nat.mul_one, Nat.add_zero] at this
      rw [this, List.getElem_map]
      rfl) (fun u hu => by
      obtain ⟨x, _, rfl⟩ := List.mem_map.1 hu
      rfl) hn
abbrev w0s (w : World) : World := w.alloc (.cells #[] tI)
theorem own_empty (w : World) : (w0s w).ownsRow 0 tI 1 (.slice (some ⟨w.heap.size, 0, none⟩) 0 0) 0 [] :=
  ⟨rfl, .inr ⟨w.heap.size, 0, #[], rfl, Nat.zero_le _, blk_new _ _, Nat.le_refl _, Nat.zero_le _, rfl, rfl⟩⟩
/-- The row without the place at: copied behind an empty one. -/
theorem recopy {w : World} {ao : Option Addr} {cap : Nat} {U : List Int} (hu : w.ownsRow 0 tI 1 (.slice ao U.length cap) U.length (U.map (Value.int .i64))) (hl : U.length ≤ 1000) {j : Nat} (hj : j < U.length) :
    ∃ v1 w1 v2 w2, (Builtin.append_ #[tIs, tIs] tIs #[.slice (some ⟨w.heap.size, 0, none⟩) 0 0, .slice ao j cap]).run Try.prog (w0s w) = .ok v1 w1 ∧
      (Builtin.append_ #[tIs, tIs] tIs #[v1, Mem.dropS 1 ao U.length cap (j + 1)]).run Try.prog w1 = .ok v2 w2 ∧
      w2.ownsRow 0 tI 1 v2 (U.take j ++ U.drop (j + 1)).length ((U.take j ++ U.drop (j + 1)).map (Value.int .i64)) ∧ Below w.heap.size w w2 ∧ (∀ k, v2.ownBlock = some k → w.heap.size ≤ k) := by
  have hI : IAt w (.slice ao U.length cap) U := Mem.ints_row hu (by unfold maxLen; omega)
  have hb0 : Below w.heap.size w (w0s w) := (Below.refl _ w).alloc (Nat.le_refl _) _
  obtain ⟨v1, w1, hr1, ho1, hc1, hk1⟩ := append_at (own_empty w) ((hI.on hb0).take (m := j) (by omega)) (by rw [List.length_take]; omega)
  have hb1 : Below w.heap.size w w1 := hb0.trans (hc1.below hb0.size (fun k hk e => by
    have : w.heap.size = k := by simpa [Value.ownBlock] using e
    omega))
  have hk1' : ∀ k, v1.ownBlock = some k → w.heap.size ≤ k := by
    intro k hk
    rcases hk1 k hk with h | h
    · have : w.heap.size = k := by simpa [Value.ownBlock] using h
      omega
    · exact Nat.le_trans hb0.size h
  obtain ⟨v2, w2, hr2, ho2, hc2, hk2⟩ := append_at ho1 ((hI.on hb1).drop (m := j + 1) (by omega)) (by rw [List.length_take, List.length_drop]; omega)
  refine ⟨v1, w1, v2, w2, hr1, hr2, ?_, hb1.trans (hc2.below hb1.size (fun k hk e => by have := hk1' k e; omega)), fun k hk => ?_⟩
  · rw [List.nil_append] at ho2
    rw [List.length_append, List.map_append]
    rw [Nat.zero_add] at ho2
    exact ho2
  · rcases hk2 k hk with h | h
    · exact hk1' k h
    · exact Nat.le_trans hb1.size h
/-- v[m:], whose address stays closed. -/
theorem slice_from {n cap m : Nat} (b o : Nat) (hm : m ≤ n) (hn : n ≤ cap) (w : World) : (Instr.sliceAt tIs (.slice (some ⟨b, o, none⟩) n cap) (some (.int .i64 (m : Int))) none none).run Try.prog w = .ok (Mem.dropS 1 (some ⟨b, o, none⟩) n cap m) w := by
  have hu := Try.underlying22
  by_cases hc : cap = m
  · subst hc
    have h2 : n = cap := Nat.le_antisymm hn hm
    subst h2
    simp [go_sem, Mem.dropS, hu]
  · simp [go_sem, Mem.dropS, hu, hm, hc]
/-- A new row of the call's own joins what the walk carries. -/
theorem joins {O : Nat → Prop} {N B d b cnt : Nat} {h : Hd} {S : St} {w0 w w' : World} {v : Value} {U : List Int} (k : Lab O N B d b cnt h S w0 w) (hb : Below w.heap.size w w') (hu : w'.ownsRow 0 tI 1 v U.length (U.map (Value.int .i64))) (hg : ∀ g, v.ownBlock = some g → w.heap.size ≤ g) :
    ∃ O', Lab O' N B d b cnt h S w0 w' ∧ Used O' N B w' v U := by
  refine ⟨_, k.beside (F := fun _ => False) (Chg.of_below hb) (fun _ h _ => h.elim) id (fun _ _ h => h), hu, fun g hgv => ?_⟩
  have h1 := hg g hgv
  have h2 := (hu.lt g hgv).2
  have h3 := k.hb.lt
  have h4 := k.size
  exact ⟨Or.inr ⟨h1, h2⟩, by omega, by omega⟩
end spareOnce
end Go.Proofs.Ytkoglikaaehhjaa
