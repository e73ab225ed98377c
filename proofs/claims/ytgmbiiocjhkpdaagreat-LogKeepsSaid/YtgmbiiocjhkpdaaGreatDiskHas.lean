/-
  A disk of the call's own, in short: what it is, from a block on.
-/
import Derived.Test.YtgmbiiocjhkpdaaGreatDiskNew
namespace Go.Proofs.YtgmbiiocjhkpdaaGreat
open Go.RowKit
namespace Disk
open Num (hid bcells)

/-- From block N on, the disk at d is M. -/
def Has (N d m : Nat) (M : Mod) (w : World) : Prop := ∃ tag L, DiskAt tag w d m M.c L ∧ dirOf L = M.fs ∧ (∀ k, k < N → tag k = .other) ∧ N ≤ w.heap.size

theorem Has.of_out {N d m : Nat} {tag : Nat → Tag} {M : Mod} {w w' : World} (h : Out tag d m M w w') (ht : ∀ k, k < N → tag k = .other) (hN : N ≤ w.heap.size) : Has N d m M w' ∧ Below N w w' := by
  obtain ⟨tag', L', h1, h2, h3, h4⟩ := h
  refine ⟨⟨tag', L', h1, h2, fun k hk => (h3 k (by omega)).trans (ht k hk), Nat.le_trans hN h4.size⟩, h4.below hN ?_⟩
  intro k hk hm
  exact hm.1 (ht k hk)
theorem Has.turned {N d m : Nat} {M : Mod} {w w' : World} {c' : Ctl} (h : Has N d m M w) (ht : Turns m d c' w w') (ok : M.c.Ok → c'.Ok) : Has N d m ⟨c', M.fs⟩ w' ∧ Below N w w' := by
  obtain ⟨tag, L, D, hL, hN, hs⟩ := h
  have := Out.same (D.turned ht (ok D.root.ok)) ht.2
  rw [hL] at this
  exact Has.of_out this hN hs
theorem Has.kept {N d m : Nat} {M : Mod} {w w' : World} (h : Has N d m M w) (hb : Below w.heap.size w w') : Has N d m M w' := by
  obtain ⟨tag, L, D, hL, hN, hs⟩ := h
  exact ⟨tag, L, D.kept (F := fun _ => False) (Chg.of_below hb) (fun _ _ => rfl) (fun _ h => h.elim), hL, hN, Nat.le_trans hs hb.size⟩
theorem Has.d_ge {N d m : Nat} {M : Mod} {w : World} (h : Has N d m M w) : N ≤ d := by
  obtain ⟨tag, L, D, hL, hN, hs⟩ := h
  rcases Nat.lt_or_ge d N with h | h
  · have := hN d h; rw [D.root.tagd] at this; cases this
  · exact h

section
variable {N d m : Nat} {M : Mod} {w : World}

theorem new_has (room : Int) (w : World) :
    Calls Tryz.prog 8 #[.int .i64 room] w fun e w' => e = .returned (ptr (w.heap.size + 1)) ∧ Has w.heap.size (w.heap.size + 1) w.heap.size (Mod.new room) w' ∧ Below w.heap.size w w' := by
  refine (new_any room w).mono ?_
  rintro e w' ⟨rfl, D, hb⟩
  refine ⟨rfl, ⟨tag0 w, [], D, rfl, fun k hk => ?_, hb.size⟩, hb⟩
  unfold tag0
  rw [upd_ne _ _ (by omega), upd_ne _ _ (by omega)]

theorem write_has (h : Has N d m M w) (s : ByteArray) (hs : s.size ≤ maxLen) (i : Int) (l : ByteArray) (hl : l.size ≤ maxLen) :
    Calls Tryz.prog 56 #[ptr d, .string s, .int .i64 i, .string l] w fun e w' => e = .returned (.int .i64 (M.write s.data.toList i l.data.toList).1) ∧ Has N d m (M.write s.data.toList i l.data.toList).2 w' ∧ Below N w w' := by
  obtain ⟨tag, L, D, hL, hN, hz⟩ := h
  refine (write_any tag w d m M.c L D s hs i l hl).mono ?_
  rintro e w' ⟨rfl, ho⟩
  rw [hL] at ho ⊢
  exact ⟨rfl, Has.of_out ho hN hz⟩
theorem sync_has (h : Has N d m M w) (s : ByteArray) (hs : s.size ≤ maxLen) :
    Calls Tryz.prog 65 #[ptr d, .string s] w fun e w' => e = .returned (.int .i64 (M.sync s.data.toList).1) ∧ Has N d m (M.sync s.data.toList).2 w' ∧ Below N w w' := by
  obtain ⟨tag, L, D, hL, hN, hz⟩ := h
  refine (sync_any tag w d m M.c L D s hs).mono ?_
  rintro e w' ⟨rfl, ho⟩
  rw [hL] at ho ⊢
  exact ⟨rfl, Has.of_out ho hN hz⟩
theorem cut_has (h : Has N d m M w) (s : ByteArray) (hs : s.size ≤ maxLen) (i : Int) :
    Calls Tryz.prog 69 #[ptr d, .string s, .int .i64 i] w fun e w' => e = .returned (.int .i64 (M.cut s.data.toList i).1) ∧ Has N d m (M.cut s.data.toList i).2 w' ∧ Below N w w' := by
  obtain ⟨tag, L, D, hL, hN, hz⟩ := h
  refine (cut_any tag w d m M.c L D s hs i).mono ?_
  rintro e w' ⟨rfl, ho⟩
  rw [hL] at ho ⊢
  exact ⟨rfl, Has.of_out ho hN hz⟩
theorem drop_has (h : Has N d m M w) (s : ByteArray) (hs : s.size ≤ maxLen) :
    Calls Tryz.prog 71 #[ptr d, .string s] w fun e w' => e = .returned (.int .i64 (M.drop s.data.toList).1) ∧ Has N d m (M.drop s.data.toList).2 w' ∧ Below N w w' := by
  obtain ⟨tag, L, D, hL, hN, hz⟩ := h
  refine (drop_any tag w d m M.c L D s hs).mono ?_
  rintro e w' ⟨rfl, ho⟩
  rw [hL] at ho ⊢
  exact ⟨rfl, Has.of_out ho hN hz⟩
theorem read_has (h : Has N d m M w) (s : ByteArray) (hs : s.size ≤ maxLen) (i : Int) (hi : i ≤ 9223372036854775807) :
    Calls Tryz.prog 67 #[ptr d, .string s, .int .i64 i] w fun e w' => e = .returned (.tuple #[.string ⟨(M.read s.data.toList i).1.toArray⟩, .int .i64 (M.read s.data.toList i).2.1]) ∧ Has N d m (M.read s.data.toList i).2.2 w' ∧ Below N w w' := by
  obtain ⟨tag, L, D, hL, hN, hz⟩ := h
  refine (read_any tag w d m M.c L D s hs i hi).mono ?_
  rintro e w' ⟨rfl, ho⟩
  rw [hL] at ho ⊢
  exact ⟨rfl, Has.of_out ho hN hz⟩
theorem off_has (h : Has N d m M w) :
    Calls Tryz.prog 25 #[ptr d] w fun e w' => e = .returned (.tuple #[]) ∧ Has N d m M.off w' ∧ Below N w w' := by
  have h0 := h
  obtain ⟨tag, L, D, hL, hN, hz⟩ := h
  refine (off_any d m M.c w D.root.blk).mono ?_
  rintro e w' ⟨rfl, ht⟩
  exact ⟨rfl, h0.turned ht (fun o => o.offed)⟩
theorem room_has (h : Has N d m M w) (n : Int) :
    Calls Tryz.prog 47 #[ptr d, .int .i64 n] w fun e w' => e = .returned (.tuple #[]) ∧ Has N d m (M.room n) w' ∧ Below N w w' := by
  have h0 := h
  obtain ⟨tag, L, D, hL, hN, hz⟩ := h
  refine (room_any d m M.c n w D.root.blk).mono ?_
  rintro e w' ⟨rfl, ht⟩
  exact ⟨rfl, h0.turned ht (fun o => o.roomed n)⟩
theorem arm_has (h : Has N d m M w) (a k n : Int) (ha : a ≤ 9223372036854775807) (hn : n ≤ 9223372036854775807) :
    Calls Tryz.prog 23 #[ptr d, .int .i64 a, .int .i64 k, .int .i64 n] w fun e w' => e = .returned (.tuple #[]) ∧ Has N d m (M.arm a k n) w' ∧ Below N w w' := by
  have h0 := h
  obtain ⟨tag, L, D, hL, hN, hz⟩ := h
  refine (arm_any d m M.c a k n w D.root.blk).mono ?_
  rintro e w' ⟨rfl, ht⟩
  exact ⟨rfl, h0.turned ht (fun o => o.armed a k n ha hn)⟩
theorem ops_has (h : Has N d m M w) : Calls Tryz.prog 34 #[ptr d] w fun e w' => e = .returned (.int .i64 M.c.ops) ∧ w = w' := by
  obtain ⟨tag, L, D, hL, hN, hz⟩ := h
  exact ops_any d m M.c w D.root.blk
theorem size_has (h : Has N d m M w) (s : ByteArray) (hs : s.size ≤ maxLen) : Calls Tryz.prog 38 #[ptr d, .string s] w fun e w' => e = .returned (.int .i64 (M.size s.data.toList)) ∧ w = w' := by
  obtain ⟨tag, L, D, hL, hN, hz⟩ := h
  refine (size_any tag w d m M.c L D s hs).mono ?_
  rintro e w' ⟨rfl, rfl⟩
  refine ⟨ret_i ?_, rfl⟩
  unfold sizeN Mod.size
  rw [← hL, dirOf_get]
  cases get? L s.data.toList <;> rfl

/-- 'd.On([]int{..})'. -/
theorem on_lit (h : Has N d m M w) (l : List Int) (hl : l.length ≤ maxLen) :
    Calls Tryz.prog 27 #[ptr d, .slice (some ⟨w.heap.size, 0, none⟩) l.length l.length] (w.alloc (.cells (l.map (Value.int .i64)).toArray 3)) fun e w' => e = .returned (.tuple #[]) ∧ Has N d m (M.on l) w' ∧ Below N w w' := by
  obtain ⟨tag, L, D, hL, hN, hz⟩ := h
  have D1 := D.norm.alloc (.cells (l.map (Value.int .i64)).toArray 3)
  have hI : IntsAt (w.alloc (.cells (l.map (Value.int .i64)).toArray 3)) (.slice (some ⟨w.heap.size, 0, none⟩) l.length l.length) l := by
    refine Or.inr ⟨w.heap.size, 0, l.length, rfl, by simp, fun j hj => ?_⟩
    rw [Nat.zero_add, blk_cell (blk_new w (.cells (l.map (Value.int .i64)).toArray 3)) j]
    simp [hj]
  refine (on_any (norm tag w.heap.size) _ d m M.c L D1 _ l hI hl ?_).mono ?_
  · intro b o n cap e _
    cases e
    exact norm_ge tag (Nat.le_refl _)
  · rintro e w' ⟨rfl, ho⟩
    rw [hL] at ho
    have := Has.of_out (N := N) ho (fun k hk => (norm_lt tag (by omega)).trans (hN k hk)) (by simp; omega)
    exact ⟨rfl, this.1, (((Below.refl N w).alloc hz _)).trans this.2⟩
/-- 'd.On(fates)', the fates read from a slice that was there before the disk. -/
theorem on_has (h : Has N d m M w) (fv : Value) (l : List Int) (hI : IntsAt w fv l) (hl : l.length ≤ maxLen) (hv : ∀ b o n cap, fv = .slice (some ⟨b, o, none⟩) n cap → n ≠ 0 → b < N) :
    Calls Tryz.prog 27 #[ptr d, fv] w fun e w' => e = .returned (.tuple #[]) ∧ Has N d m (M.on l) w' ∧ Below N w w' := by
  obtain ⟨tag, L, D, hL, hN, hz⟩ := h
  refine (on_any tag _ d m M.c L D _ l hI hl (fun b o n cap e hn => hN b (hv b o n cap e hn))).mono ?_
  rintro e w' ⟨rfl, ho⟩
  rw [hL] at ho
  have := Has.of_out (N := N) ho hN hz
  exact ⟨rfl, this⟩
end

end Disk
end Go.Proofs.YtgmbiiocjhkpdaaGreat
