/-
  A disk of the call's own, in short: what it is, from a block on.
-/
import Derived.Test.YtpdpjgeoclilhaaDiskNew
namespace Go.Proofs.Ytpdpjgeoclilhaa
open Go.RowKit
namespace Disk
open Num (hid bcells)

/-- From block N on, the disk at d is M. -/
def Has (N d m : Nat) (M : Mod) (w : World) : Prop := ∃ tag L, DiskAt tag w d m M.c L ∧ dirOf L = M.fs ∧ (∀ k, k < N → tag k = .other) ∧ N ≤ w.heap.size

theorem Has.of_out {N d m : Nat} {tag : Nat → Tag} {M : Mod} {w w' : World} (h : Out tag d m M w w') (ht : ∀ k, k < N → tag k = .other) (hN : N ≤ w.heap.size) : Has N d m M w' ∧ Below N w w' := by
  obtain ⟨tag', L', h1, h2, h3, h4⟩ := h
  refine ⟨⟨tag', L', h1, h2, fun k hk => (h3 k (by omega)).trans (ht k hk), Nat.le_trans hN h4.size⟩, h4.below hN ?_⟩
  intro k hk hm
  exact hm.1 (ht k hk)
theorem Has.turned {N d m : Nat} {M : Mod} {w w' : World} {c' : Ctl} (h : Has N d m M w) (ht : Turns m d c' w w') (ok : M.c.Ok → c'.Ok) : Has N d m ⟨c', M.fs⟩ w' ∧ Below N w w' := by
  obtain ⟨tag, L, D, hL, hN, hs⟩ := h
  have := Out.same (D.turned ht (ok D.root.ok)) ht.2
  rw [hL] at this
  exact Has.of_out this hN hs
theorem Has.kept {N d m : Nat} {M : Mod} {w w' : World} (h : Has N d m M w) (hb : Below w.heap.size w w') : Has N d m M w' := by
  obtain ⟨tag, L, D, hL, hN, hs⟩ := h
  exact ⟨tag, L, D.kept (F := fun _ => False) (Chg.of_below hb) (fun _ _ => rfl) (fun _ h => h.elim), hL, hN, Nat.le_trans hs hb.size⟩
theorem Has.d_ge {N d m : Nat} {M : Mod} {w : World} (h : Has N d m M w) : N ≤ d := by
  obtain ⟨tag, L, D, hL, hN, hs⟩ := h
  rcases Nat.lt_or_ge d N with h | h
  · have := hN d h; rw [D.root.tagd] at this; cases this
  · exact h

section
variable {N d m : Nat} {M : Mod} {w : World}

theorem new_has (room : Int) (w : World) :
    Calls Try.prog 5 #[.int .i64 room] w fun e w' => e = .returned (ptr (w.heap.size + 1)) ∧ Has w.heap.size (w.heap.size + 1) w.heap.size (Mod.new room) w' ∧ Below w.heap.size w w' := by
  refine (new_any room w).mono ?_
  rintro e w' ⟨rfl, D, hb⟩
  refine ⟨rfl, ⟨tag0 w, [], D, rfl, fun k hk => ?_, hb.size⟩, hb⟩
  unfold tag0
  rw [upd_ne _ _ (by omega), upd_ne _ _ (by omega)]

theorem write_has (h : Has N d m M w) (s : ByteArray) (hs : s.size ≤ maxLen) (i : Int) (l : ByteArray) (hl : l.size ≤ maxLen) :
    Calls Try.prog 27 #[ptr d, .string s, .int .i64 i, .string l] w fun e w' => e = .returned (.int .i64 (M.write s.data.toList i l.data.toList).1) ∧ Has N d m (M.write s.data.toList i l.data.toList).2 w' ∧ Below N w w' := by
  obtain ⟨tag, L, D, hL, hN, hz⟩ := h
  refine (write_any tag w d m M.c L D s hs i l hl).mono ?_
  rintro e w' ⟨rfl, ho⟩
  rw [hL] at ho ⊢
  exact ⟨rfl, Has.of_out ho hN hz⟩
theorem sync_has (h : Has N d m M w) (s : ByteArray) (hs : s.size ≤ maxLen) :
    Calls Try.prog 20 #[ptr d, .string s] w fun e w' => e = .returned (.int .i64 (M.sync s.data.toList).1) ∧ Has N d m (M.sync s.data.toList).2 w' ∧ Below N w w' := by
  obtain ⟨tag, L, D, hL, hN, hz⟩ := h
  refine (sync_any tag w d m M.c L D s hs).mono ?_
  rintro e w' ⟨rfl, ho⟩
  rw [hL] at ho ⊢
  exact ⟨rfl, Has.of_out ho hN hz⟩
theorem drop_has (h : Has N d m M w) (s : ByteArray) (hs : s.size ≤ maxLen) :
    Calls Try.prog 37 #[ptr d, .string s] w fun e w' => e = .returned (.int .i64 (M.drop s.data.toList).1) ∧ Has N d m (M.drop s.data.toList).2 w' ∧ Below N w w' := by
  obtain ⟨tag, L, D, hL, hN, hz⟩ := h
  refine (drop_any tag w d m M.c L D s hs).mono ?_
  rintro e w' ⟨rfl, ho⟩
  rw [hL] at ho ⊢
  exact ⟨rfl, Has.of_out ho hN hz⟩
theorem read_has (h : Has N d m M w) (s : ByteArray) (hs : s.size ≤ maxLen) (i : Int) (hi : i ≤ 9223372036854775807) :
    Calls Try.prog 23 #[ptr d, .string s, .int .i64 i] w fun e w' => e = .returned (.tuple #[.string ⟨(M.read s.data.toList i).1.toArray⟩, .int .i64 (M.read s.data.toList i).2.1]) ∧ Has N d m (M.read s.data.toList i).2.2 w' ∧ Below N w w' := by
  obtain ⟨tag, L, D, hL, hN, hz⟩ := h
  refine (read_any tag w d m M.c L D s hs i hi).mono ?_
  rintro e w' ⟨rfl, ho⟩
  rw [hL] at ho ⊢
  exact ⟨rfl, Has.of_out ho hN hz⟩
theorem off_has (h : Has N d m M w) :
    Calls Try.prog 63 #[ptr d] w fun e w' => e = .returned (.tuple #[]) ∧ Has N d m M.off w' ∧ Below N w w' := by
  have h0 := h
  obtain ⟨tag, L, D, hL, hN, hz⟩ := h
  refine (off_any d m M.c w D.root.blk).mono ?_
  rintro e w' ⟨rfl, ht⟩
  exact ⟨rfl, h0.turned ht (fun o => o.offed)⟩
theorem room_has (h : Has N d m M w) (n : Int) :
    Calls Try.prog 17 #[ptr d, .int .i64 n] w fun e w' => e = .returned (.tuple #[]) ∧ Has N d m (M.room n) w' ∧ Below N w w' := by
  have h0 := h
  obtain ⟨tag, L, D, hL, hN, hz⟩ := h
  refine (room_any d m M.c n w D.root.blk).mono ?_
  rintro e w' ⟨rfl, ht⟩
  exact ⟨rfl, h0.turned ht (fun o => o.roomed n)⟩
theorem size_has (h : Has N d m M w) (s : ByteArray) (hs : s.size ≤ maxLen) : Calls Try.prog 15 #[ptr d, .string s] w fun e w' => e = .returned (.int .i64 (M.size s.data.toList)) ∧ w = w' := by
  obtain ⟨tag, L, D, hL, hN, hz⟩ := h
  refine (size_any tag w d m M.c L D s hs).mono ?_
  rintro e w' ⟨rfl, rfl⟩
  refine ⟨ret_i ?_, rfl⟩
  unfold sizeN Mod.size
  rw [← hL, dirOf_get]
  cases get? L s.data.toList <;> rfl

end

end Disk
end Go.Proofs.Ytpdpjgeoclilhaa
