/-
  Contract of the reference's Var: the bytes of the number; the old memory stays.
-/
import Derived.Test.YtfopgnofnckgaaaNumVar
namespace Go.Proofs.Ytfopgnofnckgaaa
open Go.RowKit
namespace Num

theorem rbyte_more (m : Nat) : (m : Int) % 128 + 128 = ((moreB m).toNat : Int) := by rw [moreB_nat]; omega

set_option maxRecDepth 100000 in
set_option maxHeartbeats 1000000 in
theorem rvar_any (n : Nat) (hn : n < 18446744073709551616) (w : World) :
    Calls Try.prog 13 #[.int .u64 n] w fun e w' => e = .returned (.string ⟨(varB n).toArray⟩) ∧ Below w.heap.size w w' := by
  obtain ⟨i0, hi, hz0, hz1, hz2⟩ := info_parts Try.info5
  have hn' : (n : Int) ≤ 18446744073709551615 := by omega
  have HN := hid hn
  clear hn
  go_enter Try.func13, Try.ntmps13
  go_wp2
  go_loopw [0, 3] (fun a v wr => ∃ (f m : Nat) (xs : List UInt8), a = .int .u64 m ∧ (m : Int) ≤ 18446744073709551615 ∧ xs.length + f = 9 ∧ m < 2 * 128 ^ f ∧ varB n = xs ++ varF f m ∧ wr.ownsRow w.heap.size 5 1 v xs.length (bcells xs) ∧ Below w.heap.size w wr)
    (fun a _ _ => (intOf a).toNat)
  case atStart => exact ⟨9, n, [], rfl, hn', rfl, by have := HN.out; omega, rfl, World.ownsRow_made w #[] 0 (Nat.le_refl _) (by decide) rfl, (Below.refl _ _).alloc (Nat.le_refl _) _⟩
  case round =>
    obtain ⟨f, m, xs, rfl, hm, hl, hf, hv, hown, hbel⟩ := hrel
    have HV := hid hv
    have HF := hid hf
    have HL := hid hl
    clear hv hf hl
    have hsz := hbel.size
    by_cases hlt : 127 < (m : Int)
    · go_wp2_with (at_builtin; refine wpList_append_byte rfl _ _ 39 rfl w.heap.size 5 i0 Try.underlying39 hi hz0 hz1 hz2 _ _ xs rfl rfl (hown.alloc _) (hbel.alloc hsz _) (by simp; omega) wr.heap.size 1 _ _ rfl (cell_new _ _ _) (rbyte_more m) (by have := HL.out; omega) ?_)
      intro v' w2 hown2 hbel2
      go_wp2
      obtain ⟨f', h1, h2, h3⟩ := step_rel n m f xs HV.out HF.out HL.out (by omega)
      go_roundw
      case rel => exact ⟨f', m / 128, xs ++ [moreB m], by simp, by omega, h1, h2, h3, by rw [List.length_append]; exact hown2, hbel2⟩
      case measure => simp [intOf]; omega
    · go_wp2_with (at_builtin; refine wpList_append_byte rfl _ _ 39 rfl w.heap.size 5 i0 Try.underlying39 hi hz0 hz1 hz2 _ _ xs rfl rfl (hown.alloc _) (hbel.alloc hsz _) (by simp; omega) wr.heap.size 1 _ _ rfl (cell_new _ _ _) (byte_low m (by omega)) (by have := HL.out; omega) ?_)
      intro v' w2 hown2 hbel2
      have hcv := conv_own (P := Try.prog) (l := xs ++ [lowB m]) (n := xs.length + 1) 39 9 5 Try.underlying39 Try.underlying5 Try.underlying9 (by simp) (by simp) hown2
      go_wp2
      go_ret
      exact ⟨by rw [HV.out, varF_low f m (by omega)]; simp, hbel2⟩

end Num
end Go.Proofs.Ytfopgnofnckgaaa
