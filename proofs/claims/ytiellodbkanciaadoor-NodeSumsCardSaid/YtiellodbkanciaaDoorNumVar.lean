/-
  Contract of Var, the project's: the bytes of the number; the old memory stays.
-/
import Derived.Test.YtiellodbkanciaaDoorNumOwn
import Derived.Test.YtiellodbkanciaaDoorNumMath
namespace Go.Proofs.YtiellodbkanciaaDoor
open Go.RowKit
namespace Num

theorem byte_more (m : Nat) : bits .or .u8 (IntKind.u8.wrap (m : Int)) 128 = ((moreB m).toNat : Int) := by
  have e : IntKind.u8.wrap (m : Int) = ((m % 256 : Nat) : Int) := by rw [IntKind.wrap_u8]; omega
  rw [e, or_byte _ (by omega), moreB_nat]
  omega
theorem byte_low (m : Nat) (h : (m : Int) < 128) : (m : Int) = ((lowB m).toNat : Int) := by
  rw [lowB_nat]; omega

theorem step_rel (n m f : Nat) (xs : List UInt8) (hv : varB n = xs ++ varF f m) (hf : m < 2 * 128 ^ f) (hl : xs.length + f = 9) (h : 128 ≤ m) :
    ∃ f', (xs ++ [moreB m]).length + f' = 9 ∧ m / 128 < 2 * 128 ^ f' ∧ varB n = (xs ++ [moreB m]) ++ varF f' (m / 128) := by
  cases f with
  | zero => omega
  | succ f => exact ⟨f, by simp; omega, by rw [Nat.pow_succ] at hf; omega, by rw [hv, varF_more f m h]; simp⟩

set_option maxRecDepth 100000 in
set_option maxHeartbeats 1000000 in
theorem var_any (n : Nat) (hn : n < 18446744073709551616) (w : World) :
    Calls Tryd.prog 29 #[.int .u64 n] w fun e w' => e = .returned (.string ⟨(varB n).toArray⟩) ∧ Below w.heap.size w w' := by
  obtain ⟨i0, hi, hz0, hz1, hz2⟩ := info_parts Tryd.info5
  have hn' : (n : Int) ≤ 18446744073709551615 := by omega
  have HN := hid hn
  clear hn
  go_enter Tryd.func29, Tryd.ntmps29
  go_wp2_with (at_make; refine wpList_make_own _ rfl _ _ 58 rfl w.heap.size 5 i0 (.int .u8 0) 1 Tryd.underlying58 hi hz0 hz1 .i64 .i64 10 10 rfl rfl rfl (by rw [hz2]; decide) (by decide) (Nat.le_refl _) ?_)
  intro w1 hown hgrow
  have hb1 : Below w.heap.size w w1 := (Below.refl _ _).grown hgrow (Nat.le_refl _) (fun k hk => by cases hk)
  clear hgrow
  go_wp2
  go_loopw [0, 3] (fun a v wr => ∃ (f m : Nat) (xs : List UInt8), a = .int .u64 m ∧ (m : Int) ≤ 18446744073709551615 ∧ xs.length + f = 9 ∧ m < 2 * 128 ^ f ∧ varB n = xs ++ varF f m ∧ wr.ownsRow w.heap.size 5 1 v xs.length (bcells xs) ∧ Below w.heap.size w wr)
    (fun a _ _ => (intOf a).toNat)
  case atStart => exact ⟨9, n, [], rfl, hn', rfl, by have := HN.out; omega, rfl, hown, hb1⟩
  case round =>
    obtain ⟨f, m, xs, rfl, hm, hl, hf, hv, hown, hbel⟩ := hrel
    have HV := hid hv
    have HF := hid hf
    have HL := hid hl
    clear hv hf hl
    have hsz := hbel.size
    by_cases hlt : 128 ≤ (m : Int)
    · go_wp2_with (at_builtin; refine wpList_append_byte rfl _ _ 58 rfl w.heap.size 5 i0 Tryd.underlying58 hi hz0 hz1 hz2 _ _ xs rfl rfl (hown.alloc _) (hbel.alloc hsz _) (by simp; omega) wr.heap.size 1 _ _ rfl (cell_new _ _ _) (byte_more m) (by have := HL.out; omega) ?_)
      intro v' w2 hown2 hbel2
      go_wp2
      obtain ⟨f', h1, h2, h3⟩ := step_rel n m f xs HV.out HF.out HL.out (by omega)
      go_roundw
      case rel => exact ⟨f', m / 128, xs ++ [moreB m], by simp, by omega, h1, h2, h3, by rw [List.length_append]; exact hown2, hbel2⟩
      case measure => simp [intOf]; omega
    · go_wp2_with (at_builtin; refine wpList_append_byte rfl _ _ 58 rfl w.heap.size 5 i0 Tryd.underlying58 hi hz0 hz1 hz2 _ _ xs rfl rfl (hown.alloc _) (hbel.alloc hsz _) (by simp; omega) wr.heap.size 1 _ _ rfl (cell_new _ _ _) (byte_low m (by omega)) (by have := HL.out; omega) ?_)
      intro v' w2 hown2 hbel2
      have hcv := conv_own (P := Tryd.prog) (l := xs ++ [lowB m]) (n := xs.length + 1) 58 9 5 Tryd.underlying58 Tryd.underlying5 Tryd.underlying9 (by simp) (by simp) hown2
      go_wp2
      go_ret
      exact ⟨by rw [HV.out, varF_low f m (by omega)]; simp, hbel2⟩

end Num
end Go.Proofs.YtiellodbkanciaaDoor
