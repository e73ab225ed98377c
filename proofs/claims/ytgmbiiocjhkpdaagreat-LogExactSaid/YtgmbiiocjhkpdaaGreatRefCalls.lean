/-
  The reference's disk beside blocks of the caller's own (X): contracts of its calls at any name. R0: what may turn.
-/
import Derived.Test.YtgmbiiocjhkpdaaGreatRefGoodM
import Derived.Test.YtgmbiiocjhkpdaaGreatGrpJRe
import Derived.Test.YtgmbiiocjhkpdaaGreatRefZeros
namespace Go.Proofs.YtgmbiiocjhkpdaaGreat
open Go.RowKit
namespace Ref
open Disk
structure RQ (R0 X : Nat → Prop) (r : Nat) (M : Mod) (w0 w : World) : Prop where
  refs : ∃ R, Refs R r M w ∧ ∀ k, R k → ¬ X k ∧ k < w.heap.size ∧ (R0 k ∨ w0.heap.size ≤ k)
  good : Good M
  chg : Chg R0 w0 w
variable {R0 X X' : Nat → Prop} {r : Nat} {M M' : Mod} {w0 w w' : World}
theorem RQ.start {R : Nat → Prop} (h : Refs R r M w) (hR : ∀ k, R k → ¬ X k ∧ k < w.heap.size ∧ R0 k) (hg : Good M) : RQ R0 X r M w w :=
  ⟨⟨R, h, fun k hk => ⟨(hR k hk).1, (hR k hk).2.1, Or.inl (hR k hk).2.2⟩⟩, hg, Chg.refl _ _⟩
/-- Where the caller's own blocks turn, and new ones come. -/
theorem RQ.side {F : Nat → Prop} (h : RQ R0 X r M w0 w) (hc : Chg F w w') (hF : ∀ k, F k → X k ∧ (R0 k ∨ w0.heap.size ≤ k)) (hX : ∀ k, X' k → X k ∨ w.heap.size ≤ k) : RQ R0 X' r M w0 w' := by
  obtain ⟨⟨R, h1, h2⟩, hg, h3⟩ := h
  refine ⟨⟨R, h1.apart hc (fun k hk hR => (h2 k hR).1 (hF k hk).1), fun k hk => ⟨fun hx => ?_, Nat.lt_of_lt_of_le (h2 k hk).2.1 hc.size, (h2 k hk).2.2⟩⟩, hg, h3.then hc (fun i _ hi => (hF i hi).2.symm)⟩
  rcases hX k hx with e | e
  · exact (h2 k hk).1 e
  · have := (h2 k hk).2.1
    omega
theorem RQ.on (h : RQ R0 X r M w0 w) (hb : Below w.heap.size w w') : RQ R0 X r M w0 w' := h.side (F := fun _ => False) (Chg.of_below hb) (fun _ x => x.elim) (fun _ x => Or.inl x)
/-- What a call of the reference's wants, and what it leaves. -/
theorem RQ.call (h : RQ R0 X r M w0 w) (hX : ∀ k, X k → k < w.heap.size) : ∃ R', RSees R' r M w ∧ ∀ M' w', Refs R' r M' w' → Chg R' w w' → Good M' → RQ R0 X r M' w0 w' ∧ Chg (fun k => ¬ X k) w w' := by
  obtain ⟨⟨R, h1, h2⟩, hg, h3⟩ := h
  have hno : ∀ k, (R k ∨ w.heap.size ≤ k) → ¬ X k := fun k hk hx => by
    rcases hk with e | e
    · exact (h2 k e).1 hx
    · have := hX k hx
      omega
  have hs := h3.size
  refine ⟨fun k => R k ∨ w.heap.size ≤ k, ⟨h1.mono (fun g _ hg => Or.inl hg), hg, fun b hb => Or.inr hb⟩, fun M' w' k1 k2 k3 => ⟨⟨⟨fun k => (R k ∨ w.heap.size ≤ k) ∧ k < w'.heap.size, k1.mono (fun g hlt hg => ⟨hg, hlt⟩), fun k hk => ⟨hno k hk.1, hk.2, ?_⟩⟩, k3, h3.then k2 (fun i _ hi => ?_)⟩, k2.mono (fun k _ hk => hno k hk)⟩⟩
  · rcases hk.1 with e | e
    · exact (h2 k e).2.2
    · exact Or.inr (by omega)
  · rcases hi with e | e
    · exact ((h2 i e).2.2).symm
    · exact Or.inl (by omega)
theorem q_read (h : RQ R0 X r M w0 w) (hX : ∀ k, X k → k < w.heap.size) (s : ByteArray) (hs : s.size ≤ maxLen) (i : Int) (hi : i ≤ 9223372036854775807) :
    Calls Tryz.prog 51 #[ptr r, .string s, .int .i64 i] w fun e w' => e = .returned (.tuple #[.string ⟨(M.read s.data.toList i).1.toArray⟩, .int .i64 (M.read s.data.toList i).2.1]) ∧ RQ R0 X r (M.read s.data.toList i).2.2 w0 w' ∧ Chg (fun k => ¬ X k) w w' := by
  obtain ⟨R', h1, h2⟩ := h.call hX
  refine (read_ref h1 s hs i hi).mono ?_
  rintro e w' ⟨rfl, k1, k2⟩
  exact ⟨rfl, h2 _ w' k1 k2 (h.good.read _ _)⟩
theorem q_write (h : RQ R0 X r M w0 w) (hX : ∀ k, X k → k < w.heap.size) (s : ByteArray) (hs : s.size ≤ maxLen) (i : Int) (l : ByteArray) (hl : l.size ≤ maxLen) :
    Calls Tryz.prog 64 #[ptr r, .string s, .int .i64 i, .string l] w fun e w' => e = .returned (.int .i64 (M.write s.data.toList i l.data.toList).1) ∧ RQ R0 X r (M.write s.data.toList i l.data.toList).2 w0 w' ∧ Chg (fun k => ¬ X k) w w' := by
  obtain ⟨R', h1, h2⟩ := h.call hX
  refine (write_ref h1 s hs i l hl).mono ?_
  rintro e w' ⟨rfl, k1, k2⟩
  exact ⟨rfl, h2 _ w' k1 k2 (h.good.write _ _ _)⟩
theorem q_sync (h : RQ R0 X r M w0 w) (hX : ∀ k, X k → k < w.heap.size) (s : ByteArray) (hs : s.size ≤ maxLen) :
    Calls Tryz.prog 66 #[ptr r, .string s] w fun e w' => e = .returned (.int .i64 (M.sync s.data.toList).1) ∧ RQ R0 X r (M.sync s.data.toList).2 w0 w' ∧ Chg (fun k => ¬ X k) w w' := by
  obtain ⟨R', h1, h2⟩ := h.call hX
  refine (sync_ref h1 s hs).mono ?_
  rintro e w' ⟨rfl, k1, k2⟩
  exact ⟨rfl, h2 _ w' k1 k2 (h.good.sync _)⟩
theorem q_cut (h : RQ R0 X r M w0 w) (hX : ∀ k, X k → k < w.heap.size) (s : ByteArray) (hs : s.size ≤ maxLen) (n : Int) :
    Calls Tryz.prog 55 #[ptr r, .string s, .int .i64 n] w fun e w' => e = .returned (.int .i64 (M.cut s.data.toList n).1) ∧ RQ R0 X r (M.cut s.data.toList n).2 w0 w' ∧ Chg (fun k => ¬ X k) w w' := by
  obtain ⟨R', h1, h2⟩ := h.call hX
  refine (cut_ref h1 s hs n).mono ?_
  rintro e w' ⟨rfl, k1, k2⟩
  exact ⟨rfl, h2 _ w' k1 k2 (h.good.cut _ _)⟩
theorem q_drop (h : RQ R0 X r M w0 w) (hX : ∀ k, X k → k < w.heap.size) (s : ByteArray) (hs : s.size ≤ maxLen) :
    Calls Tryz.prog 54 #[ptr r, .string s] w fun e w' => e = .returned (.int .i64 (M.drop s.data.toList).1) ∧ RQ R0 X r (M.drop s.data.toList).2 w0 w' ∧ Chg (fun k => ¬ X k) w w' := by
  obtain ⟨R', h1, h2⟩ := h.call hX
  refine (drop_ref h1 s hs).mono ?_
  rintro e w' ⟨rfl, k1, k2⟩
  exact ⟨rfl, h2 _ w' k1 k2 (h.good.drop _)⟩
theorem q_load (h : RQ R0 X r M w0 w) (hX : ∀ k, X k → k < w.heap.size) (s : ByteArray) (hs : s.size ≤ maxLen) (l : ByteArray) (hl : l.size ≤ maxLen) :
    Calls Tryz.prog 44 #[ptr r, .string s, .string l] w fun e w' => e = .returned (.int .i64 (M.load s.data.toList l.data.toList).1) ∧ RQ R0 X r (M.load s.data.toList l.data.toList).2 w0 w' ∧ Chg (fun k => ¬ X k) w w' := by
  obtain ⟨R', h1, h2⟩ := h.call hX
  refine (load_ref h1 s hs l hl).mono ?_
  rintro e w' ⟨rfl, k1, k2⟩
  exact ⟨rfl, h2 _ w' k1 k2 (h.good.load _ _)⟩
theorem q_size (h : RQ R0 X r M w0 w) (s : ByteArray) :
    Calls Tryz.prog 39 #[ptr r, .string s] w fun e w' => e = .returned (.int .i64 (M.size s.data.toList)) ∧ w = w' := by
  obtain ⟨⟨R, ⟨v, E, a, k, m, D, hE⟩, -⟩, hg, -⟩ := h
  have H := rsize_any D (few_ens hg hE) s
  rw [hE] at H
  exact H
theorem q_bytes (h : RQ R0 X r M w0 w) (s : ByteArray) : Calls Tryz.prog 37 #[ptr r, .string s] w fun e w' => e = .returned (.string ⟨(M.bytes s.data.toList).toArray⟩) ∧ Below w.heap.size w w' := by
  obtain ⟨⟨R, ⟨v, E, a, k, m, D, hE⟩, -⟩, hG, -⟩ := h
  have hmem : ∀ x ∈ E, x.2 ∈ M.fs := fun x hx => by rw [← hE]; exact List.mem_map_of_mem hx
  have H := rbytes_any D (few_ens hG hE) (fun x hx => Nat.le_trans (hG.lens _ (hmem x hx)) (by decide)) (fun x hx => hG.secs _ (hmem x hx)) s
  rw [hE] at H
  exact H
end Ref
end Go.Proofs.YtgmbiiocjhkpdaaGreat
