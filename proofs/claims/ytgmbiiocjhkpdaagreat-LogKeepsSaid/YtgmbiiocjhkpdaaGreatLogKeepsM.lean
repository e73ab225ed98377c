/-
  What LogKeeps carries: the log while the power may go, the disk behind it.
-/
import Derived.Test.YtgmbiiocjhkpdaaGreatLogBackM
namespace Go.Proofs.YtgmbiiocjhkpdaaGreat
open Go.RowKit Go.Shelf
namespace Lo
open Num (hid)
open Disk (Mod Fil Sees Stays arm_sees off_sees on_sees)
open Mem (Bs bs LAt iV tI Chg ptr)
variable {d m j b : Nat} {w w' : World} {A : Nat}
/-- An Add that fails leaves the frames. -/
theorem addP_no {fs : List Fr} {n : Int} {d : List UInt8} {c : Bool} {M : Mod} (h : (addP fs n d c M).1 ≠ 0) : (addP fs n d c M).2.1 = fs := by
  unfold addP at h ⊢
  split
  · rfl
  · split
    · rfl
    · rename_i h1 h2
      rw [if_neg h1, if_neg h2] at h
      unfold frameP at h ⊢
      simp only at h ⊢
      rw [if_neg h]
theorem lastC_step {l : List Fm} {k : Nat} (h : k < l.length) : lastC (l.take (k + 1)) = if l[k].2.2 then k + 1 else lastC (l.take k) := by
  have e : l.take (k + 1) = l.take k ++ [l[k]] := by rw [List.take_add_one, List.getElem?_eq_getElem h]; rfl
  rw [e, lastC_snoc, List.length_take, Nat.min_eq_left (by omega)]
theorem lastC_fix (l : List Fm) (a : Nat) : lastC (l.take (lastC (l.take a))) = lastC (l.take a) := by
  rcases lastC_is (l.take a) with h | ⟨x, hx, hc⟩
  · rw [h]; rfl
  · obtain ⟨s, hs⟩ : ∃ s, lastC (l.take a) = s := ⟨_, rfl⟩
    rw [hs] at hx ⊢
    rcases Nat.eq_zero_or_pos s with h0 | h0
    · rw [h0]; rfl
    · have hlt := (List.getElem?_eq_some_iff.1 hx).1
      rw [List.length_take] at hlt
      have hx2 : l[s - 1]? = some x := by rw [List.getElem?_take_of_lt (by omega)] at hx; exact hx
      have h1 : s - 1 < l.length := by omega
      have h2 := lastC_step h1
      rw [List.getElem?_eq_getElem h1] at hx2
      have h3 : l[s - 1] = x := by injection hx2
      rw [show s - 1 + 1 = s by omega, h3, if_pos hc] at h2
      exact h2
/-- The log of these frames over a disk, of whose sectors A are safe; the power may go. -/
structure K1 (w0 : World) (d m j b : Nat) (q : List FI) (A : Nat) (wr : World) : Prop where
  ex : ∃ f M L, PL (Bl w0.heap.size) d m j b f M (frs (fms q)) wr ∧ M.fs = dir1 L ∧ Stands (fms q) A L
  below : Below w0.heap.size w0 wr
theorem K1.on {wr w2 : World} {q : List FI} (h : K1 w d m j b q A wr) (hb : Below wr.heap.size wr w2) : K1 w d m j b q A w2 := by
  obtain ⟨f, M, L, h1, h2⟩ := h.ex
  exact ⟨⟨f, M, L, h1.on hb, h2⟩, h.below.trans (hb.mono h.below.size)⟩
theorem k_add {wr : World} {q : List FI} (h : K1 w d m j b q A wr) (x : FI) (hl : q.length < 10000) :
    Calls Tryz.prog 12 #[ptr j, .int .i64 (numOf x.n : Nat), .string (bs (pgL x.fill)), .bool x.commit] wr fun e w' => (e = .returned (.int .i64 0) ∧ K1 w d m j b (q ++ [x]) A w') ∨ ∃ r : Int, r ≠ 0 ∧ e = .returned (.int .i64 r) ∧ K1 w d m j b q A w' := by
  obtain ⟨f, M, L, h1, h2, h3⟩ := h.ex
  have hx := numOf_lt x.n
  refine (add_any h1 (by rw [frs_len, fms_len]; omega) (numOf x.n : Int) (pgL x.fill) x.commit).mono ?_
  rintro e w' ⟨rfl, f', hp, hs⟩
  have hb := h.below.trans (bl_below hs h.below.size)
  rcases add_way h3 h2 (fm x) (by show numOf x.n < 4096; omega) with ⟨e1, e2, ⟨L', e3, e4, _⟩, _⟩ | ⟨e1, _, L', e3, e4⟩
  · have hp' : PL (Bl w.heap.size) d m j b f' (addP (frs (fms q)) (numOf x.n : Int) (pgL x.fill) x.commit M).2.2 (frs (fms (q ++ [x]))) w' := by
      rw [fms_snoc, ← e2]
      exact hp
    exact Or.inl ⟨congrArg (fun z => Ending.returned (.int .i64 z)) e1, ⟨f', _, L', hp', e3, by rw [fms_snoc]; exact e4⟩, hb⟩
  · refine Or.inr ⟨_, e1, rfl, ⟨⟨f', _, L', ?_, e3, e4⟩, hb⟩⟩
    have e5 : (addP (frs (fms q)) (numOf x.n : Int) (pgL x.fill) x.commit M).2.1 = frs (fms q) := addP_no e1
    rw [e5] at hp
    exact hp
theorem k_sync {wr : World} {q : List FI} (h : K1 w d m j b q A wr) (hq : q ≠ []) :
    Calls Tryz.prog 15 #[ptr j] wr fun e w' => (e = .returned (.int .i64 0) ∧ K1 w d m j b q (q.length + 1) w') ∨ ∃ r : Int, r ≠ 0 ∧ e = .returned (.int .i64 r) ∧ K1 w d m j b q A w' := by
  obtain ⟨f, M, L, h1, h2, h3⟩ := h.ex
  have hL : L ≠ none := by
    rintro rfl
    rcases h3 with ⟨e, _⟩ | ⟨F, e, _⟩
    · exact hq (List.map_eq_nil_iff.1 e)
    · cases e
  refine (sync_any h1).mono ?_
  rintro e w' ⟨rfl, hp, hs⟩
  have hb := h.below.trans (bl_below hs h.below.size)
  rcases sync_way h3 h2 hL with ⟨e1, L', e2, e3, _⟩ | ⟨e1, L', e2, e3, _⟩
  · rw [fms_len] at e3
    exact Or.inl ⟨by rw [e1], ⟨f, _, L', hp, e2, e3⟩, hb⟩
  · exact Or.inr ⟨_, e1, rfl, ⟨f, _, L', hp, e2, e3⟩, hb⟩
/-- The disk alone. -/
structure KD (w0 : World) (d m : Nat) (M : Mod) (wr : World) : Prop where
  sees : Sees (Bl w0.heap.size) d m M wr
  below : Below w0.heap.size w0 wr
theorem KD.to {wr w2 : World} {M M' : Mod} (h : KD w d m M wr) (h1 : Sees (Bl w.heap.size) d m M' w2) (hs : Stays (Bl w.heap.size) wr w2) : KD w d m M' w2 := ⟨h1, h.below.trans (bl_below hs h.below.size)⟩
theorem k_off {wr : World} {q : List FI} (h : K1 w d m j b q A wr) :
    Calls Tryz.prog 25 #[ptr d] wr fun e w' => e = .returned (.tuple #[]) ∧ ∃ (M : Mod) (L : Option Fil), KD w d m M.off w' ∧ M.fs = dir1 L ∧ Stands (fms q) A L := by
  obtain ⟨f, M, L, h1, h2, h3⟩ := h.ex
  refine (off_sees h1.seen).mono ?_
  rintro e w' ⟨rfl, ha, hs⟩
  exact ⟨rfl, M, L, (KD.mk (M := M) h1.seen h.below).to ha hs, h2, h3⟩
theorem k_on {wr : World} {M : Mod} {v : Value} {l : List Int} (h : KD w d m M wr) (hv : LAt 1 iV w v l) :
    Calls Tryz.prog 27 #[ptr d, v] wr fun e w' => e = .returned (.tuple #[]) ∧ KD w d m (M.on l) w' := by
  obtain ⟨h1, h2, h3⟩ := ints_at hv h.below
  refine (on_sees h.sees v l h1 h2 h3).mono ?_
  rintro e w' ⟨rfl, ha, hs⟩
  exact ⟨rfl, h.to ha hs⟩
theorem k_arm {wr : World} {M : Mod} (h : KD w d m M wr) (a k n : Int) (ha : a ≤ 9223372036854775807) (hn : n ≤ 9223372036854775807) :
    Calls Tryz.prog 23 #[ptr d, .int .i64 a, .int .i64 k, .int .i64 n] wr fun e w' => e = .returned (.tuple #[]) ∧ KD w d m (M.arm a k n) w' := by
  refine (arm_sees h.sees a k n ha hn).mono ?_
  rintro e w' ⟨rfl, ha, hs⟩
  exact ⟨rfl, h.to ha hs⟩
theorem arm_calm {M : Mod} (h : Jo.Calm M.c) : Jo.Calm (M.arm 0 0 0).c := ⟨h.1, rfl⟩
theorem k_open {wr : World} {M : Mod} {q : List FI} {L : Option Fil} {fates : List Int} (h : KD w d m ((M.off.on fates).arm 0 0 0) wr) (hf : M.fs = dir1 L) (hS : Stands (fms q) A L) :
    Calls Tryz.prog 10 #[ptr d] wr fun e w' => ∃ j b f n M', e = .returned (.tuple #[ptr j, .int .i64 0]) ∧ n ≤ q.length ∧ lastC ((fms q).take (A - 1)) ≤ n ∧ (0 < n → ∃ x, q[n - 1]? = some x ∧ x.commit = true) ∧ PL (Bl w.heap.size) d m j b f M' (frs (fms (q.take n))) w' ∧ Holds (fms (q.take n)) M' ∧ Below w.heap.size w w' := by
  obtain ⟨o1, o2, o3⟩ := off_on M fates hf
  obtain ⟨n, M', e, hF⟩ := open_found (fms_lt q) hS fates (M := (M.off.on fates).arm 0 0 0) o3 (arm_calm o1)
  have ho := open_any_ h.sees
  rw [e] at ho
  refine ho.mono ?_
  rintro e w' ⟨_, j, b, f, rfl, hp, hs⟩
  have hle := hF.le
  rw [fms_len] at hle
  have htk : fms (q.take n) = (fms q).take n := List.map_take ..
  refine ⟨j, b, f, n, M', rfl, hle, hF.ge, fun h0 => ?_, by rw [htk]; exact hp, by rw [htk]; exact hF.holds, h.below.trans (bl_below hs h.below.size)⟩
  rcases hF.last with h1 | ⟨x, h1, h2⟩
  · omega
  · have h3 : ((q.map fm)[n - 1]?) = some x := h1
    rw [List.getElem?_map] at h3
    obtain ⟨y, hy, rfl⟩ := Option.map_eq_some_iff.1 h3
    exact ⟨y, hy, h2⟩
end Lo
end Go.Proofs.YtgmbiiocjhkpdaaGreat
