/-
  Contracts of isInline and isGood: a cell is good, or not.
-/
import Derived.Test.YtkoglikaaehhjaaGreatDoorNodeOk
import Derived.Test.YtkoglikaaehhjaaGreatDoorChainMath
namespace Go.Proofs.YtkoglikaaehhjaaGreatDoor
open Go.RowKit
namespace Ch
open Num (hid)
open Mem (Bs bs)
open No (okC okN)
abbrev tC : TypeId := 24
/-- A cell as a value. -/
abbrev cV (c : No.C) : Value := .agg #[.int .i64 c.z, .string (bs c.d), .int .i64 c.p]
abbrev cO (c : No.C) : Obj := .cells #[.int .i64 c.z, .string (bs c.d), .int .i64 c.p] tC
theorem inline_any (z : Int) (w : World) : Calls Tryz.prog 31 #[.int .i64 z] w fun e w' => e = .returned (.bool (decide (z ≤ 40))) ∧ w = w' := by
  go_enter Tryz.func31, Tryz.ntmps31
  go_wp2
  all_goals (
    go_ret
    refine ⟨No.ret_b ?_, rfl⟩
    simp_all)
theorem okN_one (c : No.C) : okN ⟨true, [[]], [c], []⟩ = okC c := by
  unfold okN No.okL
  simp [No.short, No.rise]
theorem keys_at {w w' : World} {b : Nat} (h : w.heap[b]? = some (.cells #[.string ⟨#[]⟩] 9 (0, 0))) (hb : Below w.heap.size w w') : No.SAt w' (.slice (some ⟨b, 0, none⟩) 1 1) [[]] := by
  have h2 := (hb.block _ (lt_of_block h)).trans h
  refine ⟨Or.inr ⟨b, 0, 1, rfl, Nat.le_refl _, lt_of_block h2, fun j hj i hi => ?_⟩, by decide⟩
  have hj0 : j = 0 := by simpa using hj
  have hi0 : i = 0 := by omega
  subst hj0 hi0
  simp [World.cell?, h2, No.sV]
  rfl
theorem cell_at {w w' : World} {b : Nat} {c : No.C} (h : w.heap[b]? = some (.cells #[.int .i64 c.z, .string (bs c.d), .int .i64 c.p] tC (0, 0))) (hb : Below w.heap.size w w') : No.CAt w' (.slice (some ⟨b, 0, none⟩) 1 1) [c] := by
  have h2 := (hb.block _ (lt_of_block h)).trans h
  refine ⟨Or.inr ⟨b, 0, 1, rfl, Nat.le_refl _, lt_of_block h2, fun j hj i hi => ?_⟩, by unfold maxLen; simp⟩
  have hj0 : j = 0 := by simpa using hj
  subst hj0
  have hi2 : i = 0 ∨ i = 1 ∨ i = 2 := by omega
  rcases hi2 with rfl | rfl | rfl <;> simp [World.cell?, h2, No.C.vals] <;> rfl
theorem kids_at (w : World) : No.IAt w (.slice none 0 0) [] := ⟨Or.inl ⟨none, 0, rfl, rfl⟩, Nat.zero_le _⟩
theorem good_args (c : No.C) (w : World) : No.NAt (((w.alloc (cO c)).alloc (.cells #[.string ⟨#[]⟩] 9)).alloc (cO c)) (.slice (some ⟨w.heap.size + 1, 0, none⟩) 1 1) (.slice (some ⟨w.heap.size + 1 + 1, 0, none⟩) 1 1) (.slice none 0 0) ⟨true, [[]], [c], []⟩ ∧ Below w.heap.size w (((w.alloc (cO c)).alloc (.cells #[.string ⟨#[]⟩] 9)).alloc (cO c)) := by
  have e1 : (w.alloc (cO c)).heap.size = w.heap.size + 1 := by simp
  have e2 : ((w.alloc (cO c)).alloc (.cells #[.string ⟨#[]⟩] 9)).heap.size = w.heap.size + 1 + 1 := by simp
  have k1 := Mem.blk_new (w.alloc (cO c)) (.cells #[.string ⟨#[]⟩] 9)
  rw [e1] at k1
  have k2 := Mem.blk_new ((w.alloc (cO c)).alloc (.cells #[.string ⟨#[]⟩] 9)) (cO c)
  rw [e2] at k2
  refine ⟨⟨keys_at k1 ((Below.refl _ _).alloc (Nat.le_refl _) _), cell_at k2 (Below.refl _ _), kids_at _⟩, ?_⟩
  exact (((Below.refl _ _).alloc (Nat.le_refl _) _).alloc (by rw [e1]; omega) _).alloc (by rw [e2]; omega) _
set_option maxRecDepth 100000 in
set_option maxHeartbeats 1000000 in
theorem isgood_any (c : No.C) (w : World) :
    Calls Tryz.prog 45 #[cV c] w fun e w' => e = .returned (.bool (okC c)) ∧ Below w.heap.size w w' := by
  have HG0 := fun (a b : Nat) (w : World) (h : No.NAt w (.slice (some ⟨a, 0, none⟩) 1 1) (.slice (some ⟨b, 0, none⟩) 1 1) (.slice none 0 0) ⟨true, [[]], [c], []⟩) => No.good_any (.slice (some ⟨a, 0, none⟩) 1 1) (.slice (some ⟨b, 0, none⟩) 1 1) (.slice none 0 0) ⟨true, [[]], [c], []⟩ (Nat.zero_le _) (by show 1 ≤ 1000000; decide) w h
  rw [okN_one] at HG0
  have HG := hid HG0
  unfold No.nV at HG
  clear HG0
  go_enter Tryz.func45, Tryz.ntmps45
  go_wp2_with fail
  refine (HG.out _ _ _ (good_args c w).1).mono ?_
  rintro e w1 ⟨rfl, hb⟩
  have HB := hid ((good_args c w).2.trans (hb.mono (good_args c w).2.size))
  clear hb
  go_wp2
  go_ret
  exact ⟨rfl, HB.out⟩
end Ch
end Go.Proofs.YtkoglikaaehhjaaGreatDoor
