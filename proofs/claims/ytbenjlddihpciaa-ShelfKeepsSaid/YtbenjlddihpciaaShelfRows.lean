/-
  Two rows of the call's own beside the shelf: the pages in use, and what was put to each.
-/
import Derived.Test.YtbenjlddihpciaaShelfAwake
import Derived.Test.YtbenjlddihpciaaSpareOnceL
namespace Go.Proofs.Ytbenjlddihpciaa
open Go.RowKit
namespace Sh
open Sp (Hd tH hV hObj)
open Num (hid bcells)
open Mem (Bs bs IAt SAt sV tI tS tIs tSs Chg Row ptr blk_cell blk_free blk_new blk_set blk_other blk_alloc row_kept row_shape row_type)
abbrev ints (U : List Int) : List Value := U.map (Value.int .i64)
abbrev strs (X : List Bs) : List Value := X.map fun x => Value.string (bs x)
theorem strs_row {w : World} {base : Nat} {v : Value} {l : List Bs} (h : w.ownsRow base tS 1 v l.length (strs l)) (hl : l.length ≤ maxLen) : SAt w v l := by
  unfold strs at h
  rw [← Mem.flat_sV] at h
  exact Mem.OwnL.row (t := tS) (enc := sV) Mem.sV_len h hl
/-- append of a list of strings that is read. -/
theorem append_atS {w : World} {v y : Value} {n : Nat} {xs : List Value} {ys : List Bs} (hown : w.ownsRow 0 tS 1 v n xs) (hy : SAt w y ys) (hn : n + ys.length ≤ 1000000) :
    ∃ v' w', (Builtin.append_ #[tSs, tSs] tSs #[v, y]).run Try.prog w = .ok v' w' ∧ w'.ownsRow 0 tS 1 v' (n + ys.length) (xs ++ strs ys) ∧ Chg (fun k => v.ownBlock = some k) w w' ∧ (∀ k, v'.ownBlock = some k → v.ownBlock = some k ∨ w.heap.size ≤ k) := by
  obtain ⟨i, hi, h0, h1, h2⟩ := Mem.strInfo
  rcases hy.1 with ⟨ao, cap, rfl, rfl⟩ | ⟨b, o, cap, rfl, hc, hlt, hj⟩
  · cases ao with
    | none =>
      rw [show strs [] = [] from rfl, List.append_nil, List.length_nil, Nat.add_zero]
      exact ⟨v, w, run_append_owned_none (P := Try.prog) (w := w) 0 tSs tSs tS i 1 Try.underlying26 hi v n xs hown, hown, Chg.refl _ _, fun k hk => Or.inl hk⟩
    | some a =>
      obtain ⟨v', w', hr, ho', hg, hw⟩ := Mem.run_append_who tSs tSs tS i _ 1 16 Try.underlying26 hi h0 h1 h2 rfl (by decide) v n xs hown a 0 cap [] rfl (fun j u hu => by simp at hu) (fun u hu => by simp at hu) (by have := hown.1; unfold maxLen; simp at hn; omega) (by simp at hn; omega)
      exact ⟨v', w', hr, ho', (Chg.refl _ w).grown hg (fun k hk => Or.inr hk), hw⟩
  · exact Mem.append_from tSs tS i _ 1 16 Try.underlying26 hi h0 h1 h2 rfl (by decide) (by decide) hown (by rw [List.length_map, Nat.mul_one]) (fun j hj' => by
      rw [List.length_map] at hj'
      have := hj j hj' 0 (by decide)
      rw [Nat.mul_one, Nat.add_zero] at this
      rw [this, List.getElem_map]
      rfl) (fun u hu => by
      obtain ⟨x, _, rfl⟩ := List.mem_map.1 hu
      rfl) hn
abbrev w0t (w : World) : World := w.alloc (.cells #[] tS)
theorem own_emptyS (w : World) : (w0t w).ownsRow 0 tS 1 (.slice (some ⟨w.heap.size, 0, none⟩) 0 0) 0 [] :=
  ⟨rfl, .inr ⟨w.heap.size, 0, #[], rfl, Nat.zero_le _, blk_new _ _, Nat.le_refl _, Nat.zero_le _, rfl, rfl⟩⟩
/-- The row without the place at: copied behind an empty one. -/
theorem recopyS {w : World} {ao : Option Addr} {cap : Nat} {X : List Bs} (hu : w.ownsRow 0 tS 1 (.slice ao X.length cap) X.length (strs X)) (hl : X.length ≤ 1000) {j : Nat} (hj : j < X.length) :
    ∃ v1 w1 v2 w2, (Builtin.append_ #[tSs, tSs] tSs #[.slice (some ⟨w.heap.size, 0, none⟩) 0 0, .slice ao j cap]).run Try.prog (w0t w) = .ok v1 w1 ∧
      (Builtin.append_ #[tSs, tSs] tSs #[v1, Mem.dropS 1 ao X.length cap (j + 1)]).run Try.prog w1 = .ok v2 w2 ∧
      w2.ownsRow 0 tS 1 v2 (X.take j ++ X.drop (j + 1)).length (strs (X.take j ++ X.drop (j + 1))) ∧ Below w.heap.size w w2 ∧ (∀ k, v2.ownBlock = some k → w.heap.size ≤ k) := by
  have hI : SAt w (.slice ao X.length cap) X := strs_row hu (by unfold maxLen; omega)
  have hb0 : Below w.heap.size w (w0t w) := (Below.refl _ w).alloc (Nat.le_refl _) _
  obtain ⟨v1, w1, hr1, ho1, hc1, hk1⟩ := append_atS (own_emptyS w) ((hI.on hb0).take (m := j) (by omega)) (by rw [List.length_take]; omega)
  have hb1 : Below w.heap.size w w1 := hb0.trans (hc1.below hb0.size (fun k hk e => by
    have : w.heap.size = k := by simpa [Value.ownBlock] using e
    omega))
  have hk1' : ∀ k, v1.ownBlock = some k → w.heap.size ≤ k := by
    intro k hk
    rcases hk1 k hk with h | h
    · have : w.heap.size = k := by simpa [Value.ownBlock] using h
      omega
    · exact Nat.le_trans hb0.size h
  obtain ⟨v2, w2, hr2, ho2, hc2, hk2⟩ := append_atS ho1 ((hI.on hb1).drop (m := j + 1) (by omega)) (by rw [List.length_take, List.length_drop]; omega)
  refine ⟨v1, w1, v2, w2, hr1, hr2, ?_, hb1.trans (hc2.below hb1.size (fun k hk e => by have := hk1' k e; omega)), fun k hk => ?_⟩
  · rw [List.nil_append] at ho2
    show w2.ownsRow 0 tS 1 v2 _ ((X.take j ++ X.drop (j + 1)).map _)
    rw [List.length_append, List.map_append]
    rw [Nat.zero_add] at ho2
    exact ho2
  · rcases hk2 k hk with h | h
    · exact hk1' k h
    · exact Nat.le_trans hb1.size h
theorem slice_fromS {n cap m : Nat} (b o : Nat) (hm : m ≤ n) (hn : n ≤ cap) (w : World) : (Instr.sliceAt tSs (.slice (some ⟨b, o, none⟩) n cap) (some (.int .i64 (m : Int))) none none).run Try.prog w = .ok (Mem.dropS 1 (some ⟨b, o, none⟩) n cap m) w := by
  have hu := Try.underlying26
  by_cases hc : cap = m
  · subst hc
    have h2 : n = cap := Nat.le_antisymm hn hm
    subst h2
    simp [go_sem, Mem.dropS, hu]
  · simp [go_sem, Mem.dropS, hu, hm, hc]
structure Rws (s d N : Nat) (w : World) (pv dv : Value) (n m : Nat) (U : List Int) (X : List Bs) : Prop where
  p : Own s d N tI w pv n (ints U)
  x : Own s d N tS w dv m (strs X)
  ap : ∀ g, pv.ownBlock = some g → ¬ dv.ownBlock = some g
variable {s d N cnt : Nat} {lim : Int} {h : Hd} {arm : Int} {S : St} {w0 w w' : World} {pv dv : Value} {n m : Nat} {U : List Int} {X : List Bs}
theorem Rws.on (r : Rws s d N w pv dv n m U X) (hb : Below w.heap.size w w') : Rws s d N w' pv dv n m U X := ⟨r.p.on hb, r.x.on hb, r.ap⟩
theorem Rws.turned (r : Rws s d N w pv dv n m U X) (hc : Chg (Two s d) w w') : Rws s d N w' pv dv n m U X := ⟨r.p.turned hc, r.x.turned hc, r.ap⟩
/-- A page more. -/
theorem Rws.pushP (r : Rws s d N w pv dv n m U X) (k : ShL s d N cnt lim h arm S w0 w) (y : Int) (hn : n ≤ 1000) :
    ∃ v' w', (Builtin.append_ #[tIs, tIs] tIs #[pv, .slice (some ⟨w.heap.size, 0, none⟩) 1 1]).run Try.prog (w.alloc (.cells #[.int .i64 y] tI)) = .ok v' w' ∧ Rws s d N w' v' dv (n + 1) m (U ++ [y]) X ∧ ShL s d N cnt lim h arm S w0 w' := by
  obtain ⟨v', w', hr, ho, hc, hk⟩ := Mem.push_int r.p.row y (by omega)
  refine ⟨v', w', hr, ⟨?_, r.x.apart hc (fun g hg e => r.ap g e hg), fun g hg e => ?_⟩, k.beside hc r.p.own⟩
  · have := Own.grown r.p k ho hk
    show Own s d N tI w' v' (n + 1) ((U ++ [y]).map _)
    rw [List.map_append]
    exact this
  · rcases hk g hg with h1 | h1
    · exact r.ap g h1 e
    · have := (r.x.row.lt g e).2
      omega
/-- What was put to it. -/
theorem Rws.pushX (r : Rws s d N w pv dv n m U X) (k : ShL s d N cnt lim h arm S w0 w) (y : Bs) (hm : m ≤ 1000) :
    ∃ v' w', (Builtin.append_ #[tSs, tSs] tSs #[dv, .slice (some ⟨w.heap.size, 0, none⟩) 1 1]).run Try.prog (w.alloc (.cells #[.string (bs y)] tS)) = .ok v' w' ∧ Rws s d N w' pv v' n (m + 1) U (X ++ [y]) ∧ ShL s d N cnt lim h arm S w0 w' := by
  obtain ⟨v', w', hr, ho, hc, hk⟩ := Mem.push_str r.x.row (bs y) (by omega)
  refine ⟨v', w', hr, ⟨r.p.apart hc (fun g hg e => r.ap g hg e), ?_, fun g hg e => ?_⟩, k.beside hc r.x.own⟩
  · have := Own.grown r.x k ho hk
    show Own s d N tS w' v' (m + 1) ((X ++ [y]).map _)
    rw [List.map_append]
    exact this
  · rcases hk g e with h1 | h1
    · exact r.ap g hg h1
    · have := (r.p.row.lt g hg).2
      omega
/-- A place is put. -/
theorem Rws.put {b cap : Nat} (r : Rws s d N w pv (.slice (some ⟨b, 0, none⟩) m cap) n m U X) (k : ShL s d N cnt lim h arm S w0 w) (j : Nat) (y : Bs) :
    Rws s d N (w.setCell ⟨b, j, none⟩ (.string (bs y))) pv (.slice (some ⟨b, 0, none⟩) m cap) n m U (X.set j y) ∧ ShL s d N cnt lim h arm S w0 (w.setCell ⟨b, j, none⟩ (.string (bs y))) := by
  have hc : Chg (· = b) w (w.setCell ⟨b, j, none⟩ (.string (bs y))) := (Chg.refl _ w).root j _
  have ho := r.x.own b rfl
  refine ⟨⟨r.p.apart hc (fun g hg e => r.ap g hg (by rw [e]; rfl)), ⟨?_, r.x.own⟩, r.ap⟩, k.beside hc (fun g e => by rw [e]; exact ho)⟩
  have h1 := (World.ownsRow.stored r.x.row j (.string (bs y))).1
  show World.ownsRow _ 0 tS 1 _ m ((X.set j y).map _)
  rw [List.map_set]
  exact h1
/-- The pages' row without a place. -/
theorem Rws.cutP {aoP : Option Addr} {capP : Nat} (r : Rws s d N w (.slice aoP U.length capP) dv U.length m U X) (k : ShL s d N cnt lim h arm S w0 w) (hl : U.length ≤ 1000) {j : Nat} (hj : j < U.length) :
    ∃ v1 w1 v2 w2, (Builtin.append_ #[tIs, tIs] tIs #[.slice (some ⟨w.heap.size, 0, none⟩) 0 0, .slice aoP j capP]).run Try.prog (spareOnce.w0s w) = .ok v1 w1 ∧
      (Builtin.append_ #[tIs, tIs] tIs #[v1, Mem.dropS 1 aoP U.length capP (j + 1)]).run Try.prog w1 = .ok v2 w2 ∧
      Rws s d N w2 v2 dv (U.take j ++ U.drop (j + 1)).length m (U.take j ++ U.drop (j + 1)) X ∧ ShL s d N cnt lim h arm S w0 w2 := by
  obtain ⟨v1, w1, v2, w2, hr1, hr2, ho2, hb2, hg2⟩ := spareOnce.recopy r.p.row hl hj
  refine ⟨v1, w1, v2, w2, hr1, hr2, ⟨Own.made k ho2 hg2, r.x.on hb2, fun g hg e => ?_⟩, k.kept hb2⟩
  have h1 := hg2 g hg
  have h2 := (r.x.row.lt g e).2
  omega
/-- The other row without a place. -/
theorem Rws.cutX {aoD : Option Addr} {capD : Nat} (r : Rws s d N w pv (.slice aoD X.length capD) n X.length U X) (k : ShL s d N cnt lim h arm S w0 w) (hl : X.length ≤ 1000) {j : Nat} (hj : j < X.length) :
    ∃ v1 w1 v2 w2, (Builtin.append_ #[tSs, tSs] tSs #[.slice (some ⟨w.heap.size, 0, none⟩) 0 0, .slice aoD j capD]).run Try.prog (w0t w) = .ok v1 w1 ∧
      (Builtin.append_ #[tSs, tSs] tSs #[v1, Mem.dropS 1 aoD X.length capD (j + 1)]).run Try.prog w1 = .ok v2 w2 ∧
      Rws s d N w2 pv v2 n (X.take j ++ X.drop (j + 1)).length U (X.take j ++ X.drop (j + 1)) ∧ ShL s d N cnt lim h arm S w0 w2 := by
  obtain ⟨v1, w1, v2, w2, hr1, hr2, ho2, hb2, hg2⟩ := recopyS r.x.row hl hj
  refine ⟨v1, w1, v2, w2, hr1, hr2, ⟨r.p.on hb2, Own.made k ho2 hg2, fun g hg e => ?_⟩, k.kept hb2⟩
  have h1 := hg2 g e
  have h2 := (r.p.row.lt g hg).2
  omega
/-! ### what each page is -/
theorem map_push {S S' : St} {y : Int} {z : Bs} (h : U.map S.f = X.map some) (h1 : ∀ x, x ∈ U → S'.f x = S.f x) (h2 : S'.f y = some z) : (U ++ [y]).map S'.f = (X ++ [z]).map some := by
  rw [List.map_append, List.map_append, ← h, List.map_singleton, List.map_singleton, h2, List.map_congr_left h1]
theorem map_cut {S S' : St} {j : Nat} (h : U.map S.f = X.map some) (h1 : ∀ x, x ∈ U.take j ++ U.drop (j + 1) → S'.f x = S.f x) : (U.take j ++ U.drop (j + 1)).map S'.f = (X.take j ++ X.drop (j + 1)).map some := by
  rw [List.map_congr_left h1, List.map_append, List.map_append, List.map_take, List.map_drop, List.map_take, List.map_drop, h]
theorem map_set {S : St} {j : Nat} {z : Bs} (h : U.map S.f = X.map some) (hj : j < U.length) (hn : U.Nodup) : U.map (S.set U[j] z).f = (X.set j z).map some := by
  rw [List.map_set, ← h]
  refine List.ext_getElem (by simp) (fun i h1 h2 => ?_)
  rw [List.getElem_map, List.getElem_set]
  split
  · rename_i e
    subst e
    exact set_same _ _ _
  · rename_i e
    rw [List.getElem_map]
    have hi : i < U.length := by simpa using h1
    refine set_other (fun e2 => ?_) _
    rcases Nat.lt_trichotomy i j with h3 | h3 | h3
    · exact List.pairwise_iff_getElem.1 hn i j hi hj h3 e2
    · exact e h3.symm
    · exact List.pairwise_iff_getElem.1 hn j i hj hi h3 e2.symm
theorem map_at {S : St} (h : U.map S.f = X.map some) {k : Nat} (hk : k < U.length) (hk2 : k < X.length) : S.f U[k] = some X[k] := by
  have h1 : (U.map S.f)[k]'(by simpa using hk) = (X.map some)[k]'(by simpa using hk2) := by simp only [h]
  simpa using h1
theorem wrap_next (j : Nat) (h : j ≤ 1000) : IntKind.i64.wrap ((j : Int) + 1) = (j : Int) + 1 := by
  rw [IntKind.wrap_i64]
  omega
theorem u8_of (x : Int) : ∃ b : UInt8, IntKind.u8.wrap x = (b.toNat : Int) := by
  refine ⟨UInt8.ofNat (x % 256).toNat, ?_⟩
  rw [IntKind.wrap_u8, UInt8.toNat_ofNat']
  omega
/-- string([]byte{a, m}). -/
theorem two_bytes (a : Int) (m : Nat) (hm : m < 256) : ∃ s2 : ByteArray, ∀ w : World, (convert 33 9 (.slice (some ⟨w.heap.size, 0, none⟩) 2 2)).run Try.prog (w.alloc (.cells #[.int .u8 (a % 256), .int .u8 (m : Int)] 5)) = .ok (.string s2) (w.alloc (.cells #[.int .u8 (a % 256), .int .u8 (m : Int)] 5)) := by
  obtain ⟨x, hx⟩ := u8_of a
  obtain ⟨y, hy⟩ := u8_of (m : Int)
  rw [IntKind.wrap_u8] at hx hy
  rw [Int.emod_eq_of_lt (by omega) (by omega)] at hy
  refine ⟨⟨#[x, y]⟩, fun w => ?_⟩
  rw [hx, hy]
  refine run_convert_bytes_back _ 33 9 5 ⟨w.heap.size, 0, none⟩ 2 [x, y] Try.underlying33 Try.underlying5 Try.underlying9 fun j hj => ?_
  have hb := blk_new w (.cells #[.int .u8 (x.toNat : Int), .int .u8 (y.toNat : Int)] 5)
  have hj2 : j < 2 := hj
  rcases Nat.lt_or_ge j 1 with h1 | h1
  · have : j = 0 := by omega
    subst this
    exact blk_cell hb 0
  · have : j = 1 := by omega
    subst this
    exact blk_cell hb 1
end Sh
end Go.Proofs.Ytbenjlddihpciaa
