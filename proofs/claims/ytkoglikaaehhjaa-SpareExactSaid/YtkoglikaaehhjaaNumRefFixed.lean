/-
  Contract of the reference's Fixed: the last bytes of the number, the highest first; the old memory stays.
-/
import Derived.Test.YtkoglikaaehhjaaNumOwn
import Derived.Test.YtkoglikaaehhjaaNumFixed
namespace Go.Proofs.Ytkoglikaaehhjaa
open Go.RowKit
namespace Num

theorem fix_step (n wd p : Nat) (h : p < wd) : fixF (wd - p) (n / 256 ^ p) = fixF (wd - (p + 1)) (n / 256 ^ (p + 1)) ++ [lowB (n / 256 ^ p)] := by
  rw [show wd - p = (wd - (p + 1)) + 1 by omega, fixF, Nat.pow_succ, Nat.div_div_eq_div_mul]
  rfl

theorem byte_at (n p : Nat) : (n : Int) / 2 ^ (8 * p) % 256 = ((lowB (n / 256 ^ p)).toNat : Int) := by
  rw [lowB_nat, ← pow256]
  simp

set_option maxRecDepth 100000 in
set_option maxHeartbeats 1000000 in
theorem rfixed_any (n : Nat) (hn : n < 18446744073709551616) (width : Int) (w : World) :
    Calls Try.prog 28 #[.int .u64 n, .int .i64 width] w fun e w' => e = .returned (.string ⟨(fixF (clampW width) n).toArray⟩) ∧ Below w.heap.size w w' := by
  obtain ⟨i0, hi, hz0, hz1, hz2⟩ := info_parts Try.info5
  have hn' : (n : Int) ≤ 18446744073709551615 := by omega
  have HN := hid hn
  clear hn
  obtain ⟨wd, hwd⟩ : ∃ wd : Nat, wd = clampW width := ⟨_, rfl⟩
  have hw1 : 1 ≤ wd := by rw [hwd]; exact clamp_pos width
  have hw8 : wd ≤ 8 := by rw [hwd]; exact clamp_le width
  have e : width < 1 ∧ wd = 1 ∨ 8 < width ∧ wd = 8 ∨ ¬ width < 1 ∧ ¬ 8 < width ∧ width = (wd : Int) := by
    rw [hwd]; unfold clampW; split <;> (try split) <;> omega
  rw [← hwd]
  clear hwd
  have ways : (width < 1 ∧ Hid (wd = 1)) ∨ (8 < width ∧ Hid (wd = 8)) ∨ (1 ≤ width ∧ width ≤ 8 ∧ Hid (width = (wd : Int))) := by unfold Hid; omega
  clear e
  rcases ways with ⟨e, HW⟩ | ⟨e, HW⟩ | ⟨e1, e2, HW⟩
  all_goals
    go_enter Try.func28, Try.ntmps28
    go_wp2
    go_loopw [5, 6] (fun v i wr => ∃ (j : Nat), j ≤ wd ∧ i = .int .i64 ((j : Int) - 1) ∧
        wr.ownsRow w.heap.size 5 1 v (wd - j) (bcells (fixF (wd - j) (n / 256 ^ j))) ∧ Below w.heap.size w wr)
      (fun _ i _ => (intOf i + 1).toNat)
    case atStart => exact ⟨wd, Nat.le_refl _, by rw [HW.out] <;> rfl, by rw [Nat.sub_self]; exact World.ownsRow_made w #[] 0 (Nat.le_refl _) (by decide) rfl, (Below.refl _ _).alloc (Nat.le_refl _) _⟩
    case round =>
      obtain ⟨j, hj, rfl, hown, hbel⟩ := hrel
      have hsz := hbel.size
      cases j with
      | zero =>
        have hown2 : wr.ownsRow w.heap.size 5 1 u5 wd (bcells (fixF wd n)) := by simpa using hown
        have hcv := conv_own (P := Try.prog) (l := fixF wd n) (n := wd) 64 9 5 Try.underlying64 Try.underlying5 Try.underlying9 (by rw [fixF_length]) (by rw [fixF_length]; exact hw1) hown2
        clear hown hown2
        go_wp2
        go_ret
        exact ⟨rfl, hbel⟩
      | succ p =>
        have hp : p < wd := hj
        rw [show ((p + 1 : Nat) : Int) - 1 = (p : Int) from by omega]
        have HS := hid (fix_step n wd p hp)
        go_wp2_with (at_builtin; go_must (refine wpList_append_byte rfl _ _ 64 rfl w.heap.size 5 i0 Try.underlying64 hi hz0 hz1 hz2 _ _ (fixF (wd - (p + 1)) (n / 256 ^ (p + 1))) rfl (by rw [fixF_length]) (hown.alloc _) (hbel.alloc hsz _) (by simp; omega) wr.heap.size 1 _ _ rfl (cell_new _ _ _) (byte_at n p) (by rw [fixF_length]; omega) ?_))
        intro v' w2 hown2 hbel2
        rw [← HS.out, fixF_length, show wd - (p + 1) + 1 = wd - p from by omega] at hown2
        clear hown
        go_wp2
        go_roundw
        case rel => exact ⟨p, by omega, rfl, hown2, hbel2⟩
        case measure => simp [intOf]

end Num
end Go.Proofs.Ytkoglikaaehhjaa
