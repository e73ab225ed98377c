/-
  A disk of the call's own beside other memory: what the call has made besides it stays.
-/
import Derived.Test.YtfgaoopgnpigjaaDiskFilled
namespace Go.Proofs.Ytfgaoopgnpigjaa
open Go.RowKit
namespace Disk
open Num (hid bcells)

/-- The disk at d is M; whatever the others are (O), they are none of its own. -/
def Sees (O : Nat → Prop) (d m : Nat) (M : Mod) (w : World) : Prop := ∃ tag L, DiskAt tag w d m M.c L ∧ dirOf L = M.fs ∧ (∀ k, O k → tag k = .other) ∧ ∀ k, O k → k < w.heap.size
/-- What the others are stays. -/
def Stays (O : Nat → Prop) (w w' : World) : Prop := Chg (fun k => ¬ O k) w w'

theorem Stays.refl (O : Nat → Prop) (w : World) : Stays O w w := Chg.refl _ _
theorem Stays.trans {O : Nat → Prop} {a b c : World} (h : Stays O a b) (k : Stays O b c) : Stays O a c := Chg.trans h k
theorem Stays.at {O : Nat → Prop} {w w' : World} (h : Stays O w w') {b : Nat} {o : Obj} (hb : w.heap[b]? = some o) (hO : O b) : w'.heap[b]? = some o := Chg.at h hb (fun h => h hO)
theorem Sees.of_out {O : Nat → Prop} {d m : Nat} {tag : Nat → Tag} {M : Mod} {w w' : World} (h : Out tag d m M w w') (ht : ∀ k, O k → tag k = .other) (hN : ∀ k, O k → k < w.heap.size) : Sees O d m M w' ∧ Stays O w w' := by
  obtain ⟨tag', L', h1, h2, h3, h4⟩ := h
  refine ⟨⟨tag', L', h1, h2, fun k hk => (h3 k (hN k hk)).trans (ht k hk), fun k hk => Nat.lt_of_lt_of_le (hN k hk) h4.size⟩, h4.mono ?_⟩
  intro k _ hm hO
  exact hm.1 (ht k hO)
theorem Sees.turned {O : Nat → Prop} {d m : Nat} {M : Mod} {w w' : World} {c' : Ctl} (h : Sees O d m M w) (ht : Turns m d c' w w') (ok : M.c.Ok → c'.Ok) : Sees O d m ⟨c', M.fs⟩ w' ∧ Stays O w w' := by
  obtain ⟨tag, L, D, hL, hN, hs⟩ := h
  have := Out.same (D.turned ht (ok D.root.ok)) ht.2
  rw [hL] at this
  exact Sees.of_out this hN hs
/-- What was made since the disk was turned last is no part of it. -/
theorem Sees.more {O : Nat → Prop} {d m : Nat} {M : Mod} {w w' : World} (h : Sees O d m M w) (hb : Below w.heap.size w w') : Sees (fun k => O k ∨ (w.heap.size ≤ k ∧ k < w'.heap.size)) d m M w' := by
  obtain ⟨tag, L, D, hL, hN, hs⟩ := h
  refine ⟨norm tag w.heap.size, L, D.kept (F := fun _ => False) (Chg.of_below hb) (fun k hk => norm_lt tag hk) (fun _ h => h.elim), hL, ?_, ?_⟩
  · rintro k (hk | ⟨hk, _⟩)
    · rw [norm_lt tag (hs k hk)]; exact hN k hk
    · exact norm_ge tag hk
  · rintro k (hk | ⟨_, hk⟩)
    · exact Nat.lt_of_lt_of_le (hs k hk) hb.size
    · exact hk
theorem Sees.kept {O : Nat → Prop} {d m : Nat} {M : Mod} {w w' : World} (h : Sees O d m M w) (hb : Below w.heap.size w w') : Sees O d m M w' := by
  obtain ⟨tag, L, D, hL, hN, hs⟩ := h
  exact ⟨tag, L, D.kept (F := fun _ => False) (Chg.of_below hb) (fun _ _ => rfl) (fun _ h => h.elim), hL, hN, fun k hk => Nat.lt_of_lt_of_le (hs k hk) hb.size⟩
theorem Sees.fewer {O O' : Nat → Prop} {d m : Nat} {M : Mod} {w : World} (h : Sees O d m M w) (hO : ∀ k, O' k → O k) : Sees O' d m M w := by
  obtain ⟨tag, L, D, hL, hN, hs⟩ := h
  exact ⟨tag, L, D, hL, fun k hk => hN k (hO k hk), fun k hk => hs k (hO k hk)⟩
theorem Sees.of_has {N d m : Nat} {M : Mod} {w : World} (h : Has N d m M w) : Sees (fun k => k < N) d m M w := by
  obtain ⟨tag, L, D, hL, hN, hs⟩ := h
  exact ⟨tag, L, D, hL, hN, fun k hk => Nat.lt_of_lt_of_le hk hs⟩

section
variable {O : Nat → Prop} {d m : Nat} {M : Mod} {w : World}
theorem write_sees (h : Sees O d m M w) (s : ByteArray) (hs : s.size ≤ maxLen) (i : Int) (l : ByteArray) (hl : l.size ≤ maxLen) :
    Calls Try.prog 42 #[ptr d, .string s, .int .i64 i, .string l] w fun e w' => e = .returned (.int .i64 (M.write s.data.toList i l.data.toList).1) ∧ Sees O d m (M.write s.data.toList i l.data.toList).2 w' ∧ Stays O w w' := by
  obtain ⟨tag, L, D, hL, hN, hz⟩ := h
  refine (write_any tag w d m M.c L D s hs i l hl).mono ?_
  rintro e w' ⟨rfl, ho⟩
  rw [hL] at ho ⊢
  exact ⟨rfl, Sees.of_out ho hN hz⟩
theorem sync_sees (h : Sees O d m M w) (s : ByteArray) (hs : s.size ≤ maxLen) :
    Calls Try.prog 39 #[ptr d, .string s] w fun e w' => e = .returned (.int .i64 (M.sync s.data.toList).1) ∧ Sees O d m (M.sync s.data.toList).2 w' ∧ Stays O w w' := by
  obtain ⟨tag, L, D, hL, hN, hz⟩ := h
  refine (sync_any tag w d m M.c L D s hs).mono ?_
  rintro e w' ⟨rfl, ho⟩
  rw [hL] at ho ⊢
  exact ⟨rfl, Sees.of_out ho hN hz⟩
theorem cut_sees (h : Sees O d m M w) (s : ByteArray) (hs : s.size ≤ maxLen) (i : Int) :
    Calls Try.prog 46 #[ptr d, .string s, .int .i64 i] w fun e w' => e = .returned (.int .i64 (M.cut s.data.toList i).1) ∧ Sees O d m (M.cut s.data.toList i).2 w' ∧ Stays O w w' := by
  obtain ⟨tag, L, D, hL, hN, hz⟩ := h
  refine (cut_any tag w d m M.c L D s hs i).mono ?_
  rintro e w' ⟨rfl, ho⟩
  rw [hL] at ho ⊢
  exact ⟨rfl, Sees.of_out ho hN hz⟩
theorem drop_sees (h : Sees O d m M w) (s : ByteArray) (hs : s.size ≤ maxLen) :
    Calls Try.prog 58 #[ptr d, .string s] w fun e w' => e = .returned (.int .i64 (M.drop s.data.toList).1) ∧ Sees O d m (M.drop s.data.toList).2 w' ∧ Stays O w w' := by
  obtain ⟨tag, L, D, hL, hN, hz⟩ := h
  refine (drop_any tag w d m M.c L D s hs).mono ?_
  rintro e w' ⟨rfl, ho⟩
  rw [hL] at ho ⊢
  exact ⟨rfl, Sees.of_out ho hN hz⟩
theorem load_sees (h : Sees O d m M w) (s : ByteArray) (hs : s.size ≤ maxLen) (l : ByteArray) (hl : l.size ≤ maxLen) :
    Calls Try.prog 59 #[ptr d, .string s, .string l] w fun e w' => e = .returned (.int .i64 (M.load s.data.toList l.data.toList).1) ∧ Sees O d m (M.load s.data.toList l.data.toList).2 w' ∧ Stays O w w' := by
  obtain ⟨tag, L, D, hL, hN, hz⟩ := h
  refine (load_any tag w d m M.c L D s hs l hl).mono ?_
  rintro e w' ⟨rfl, ho⟩
  rw [hL] at ho ⊢
  exact ⟨rfl, Sees.of_out ho hN hz⟩
theorem read_sees (h : Sees O d m M w) (s : ByteArray) (hs : s.size ≤ maxLen) (i : Int) (hi : i ≤ 9223372036854775807) :
    Calls Try.prog 40 #[ptr d, .string s, .int .i64 i] w fun e w' => e = .returned (.tuple #[.string ⟨(M.read s.data.toList i).1.toArray⟩, .int .i64 (M.read s.data.toList i).2.1]) ∧ Sees O d m (M.read s.data.toList i).2.2 w' ∧ Stays O w w' := by
  obtain ⟨tag, L, D, hL, hN, hz⟩ := h
  refine (read_any tag w d m M.c L D s hs i hi).mono ?_
  rintro e w' ⟨rfl, ho⟩
  rw [hL] at ho ⊢
  exact ⟨rfl, Sees.of_out ho hN hz⟩
theorem off_sees (h : Sees O d m M w) :
    Calls Try.prog 43 #[ptr d] w fun e w' => e = .returned (.tuple #[]) ∧ Sees O d m M.off w' ∧ Stays O w w' := by
  have h0 := h
  obtain ⟨tag, L, D, hL, hN, hz⟩ := h
  refine (off_any d m M.c w D.root.blk).mono ?_
  rintro e w' ⟨rfl, ht⟩
  exact ⟨rfl, h0.turned ht (fun o => o.offed)⟩
theorem arm_sees (h : Sees O d m M w) (a k n : Int) (ha : a ≤ 9223372036854775807) (hn : n ≤ 9223372036854775807) :
    Calls Try.prog 45 #[ptr d, .int .i64 a, .int .i64 k, .int .i64 n] w fun e w' => e = .returned (.tuple #[]) ∧ Sees O d m (M.arm a k n) w' ∧ Stays O w w' := by
  have h0 := h
  obtain ⟨tag, L, D, hL, hN, hz⟩ := h
  refine (arm_any d m M.c a k n w D.root.blk).mono ?_
  rintro e w' ⟨rfl, ht⟩
  exact ⟨rfl, h0.turned ht (fun o => o.armed a k n ha hn)⟩
theorem room_sees (h : Sees O d m M w) (n : Int) :
    Calls Try.prog 55 #[ptr d, .int .i64 n] w fun e w' => e = .returned (.tuple #[]) ∧ Sees O d m (M.room n) w' ∧ Stays O w w' := by
  have h0 := h
  obtain ⟨tag, L, D, hL, hN, hz⟩ := h
  refine (room_any d m M.c n w D.root.blk).mono ?_
  rintro e w' ⟨rfl, ht⟩
  exact ⟨rfl, h0.turned ht (fun o => o.roomed n)⟩
theorem on_sees (h : Sees O d m M w) (fv : Value) (l : List Int) (hI : IntsAt w fv l) (hl : l.length ≤ maxLen) (hv : ∀ b o n cap, fv = .slice (some ⟨b, o, none⟩) n cap → n ≠ 0 → O b) :
    Calls Try.prog 44 #[ptr d, fv] w fun e w' => e = .returned (.tuple #[]) ∧ Sees O d m (M.on l) w' ∧ Stays O w w' := by
  obtain ⟨tag, L, D, hL, hN, hz⟩ := h
  refine (on_any tag _ d m M.c L D _ l hI hl (fun b o n cap e hn => hN b (hv b o n cap e hn))).mono ?_
  rintro e w' ⟨rfl, ho⟩
  rw [hL] at ho
  exact ⟨rfl, Sees.of_out ho hN hz⟩
theorem ops_sees (h : Sees O d m M w) : Calls Try.prog 25 #[ptr d] w fun e w' => e = .returned (.int .i64 M.c.ops) ∧ w = w' := by
  obtain ⟨tag, L, D, hL, hN, hz⟩ := h
  exact ops_any d m M.c w D.root.blk
theorem down_sees (h : Sees O d m M w) : Calls Try.prog 29 #[ptr d] w fun e w' => e = .returned (.bool M.c.down) ∧ w = w' := by
  obtain ⟨tag, L, D, hL, hN, hz⟩ := h
  exact down_any d m M.c w D.root.blk
theorem size_sees (h : Sees O d m M w) (s : ByteArray) (hs : s.size ≤ maxLen) : Calls Try.prog 31 #[ptr d, .string s] w fun e w' => e = .returned (.int .i64 (M.size s.data.toList)) ∧ w = w' := by
  obtain ⟨tag, L, D, hL, hN, hz⟩ := h
  refine (size_any tag w d m M.c L D s hs).mono ?_
  rintro e w' ⟨rfl, rfl⟩
  refine ⟨ret_i ?_, rfl⟩
  unfold sizeN Mod.size
  rw [← hL, dirOf_get]
  cases get? L s.data.toList <;> rfl
theorem bytes_sees (h : Sees O d m M w) (s : ByteArray) (hs : s.size ≤ maxLen) :
    Calls Try.prog 33 #[ptr d, .string s] w fun e w' => e = .returned (.string ⟨(M.bytes s.data.toList).toArray⟩) ∧ Below w.heap.size w w' := by
  obtain ⟨tag, L, D, hL, hN, hz⟩ := h
  refine (bytes_any tag w d m M.c L D s hs).mono ?_
  rintro e w' ⟨rfl, hb⟩
  rw [hL]
  exact ⟨rfl, hb⟩
theorem names_sees (h : Sees O d m M w) :
    Calls Try.prog 35 #[ptr d] w fun e w' => ∃ v, e = .returned v ∧ w'.ownsRow w.heap.size tStr 1 v M.names.length (M.names.map fun l => Value.string ⟨l.toArray⟩) ∧ Below w.heap.size w w' := by
  obtain ⟨tag, L, D, hL, hN, hz⟩ := h
  refine (names_any tag w d m M.c L D).mono ?_
  rintro e w' ⟨v, rfl, hr, hb⟩
  have e1 : M.names = L.map (·.1) := by unfold Mod.names; rw [← hL]; unfold dirOf; rw [List.map_map]; rfl
  rw [e1, List.length_map]
  exact ⟨v, rfl, hr, hb⟩
end

end Disk
end Go.Proofs.Ytfgaoopgnpigjaa
