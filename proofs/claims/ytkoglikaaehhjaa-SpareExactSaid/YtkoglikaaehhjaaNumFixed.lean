/-
  Contract of Fixed, the project's: the last bytes of the number, the highest first; the old memory stays.
-/
import Derived.Test.YtkoglikaaehhjaaNumOwn
import Derived.Test.YtkoglikaaehhjaaNumMath
namespace Go.Proofs.Ytkoglikaaehhjaa
open Go.RowKit
namespace Num

def zeroB (j : Nat) : List UInt8 := List.replicate j 0

theorem made_zero {w : World} {base g wd : Nat} {e : TypeId} (h : w.ownsRow base e 1 (.slice (some ⟨g, 0, none⟩) wd wd) wd (madeCells #[Value.int .u8 0] wd).toList) :
    w.ownsRow base e 1 (.slice (some ⟨g, 0, none⟩) wd wd) wd (bcells (zeroB wd ++ [])) := by
  rw [toList_madeCells_one] at h
  simpa [bcells, zeroB] using h

theorem zero_at {w : World} {base g wd p : Nat} {e : TypeId} {t : List UInt8} (h : w.ownsRow base e 1 (.slice (some ⟨g, 0, none⟩) wd wd) wd (bcells (zeroB (p + 1) ++ t))) (hp : p < wd) :
    w.cell? ⟨g, p, none⟩ = some (.int .u8 0) := by
  rw [h.cellAt p (by omega)]
  simp [bcells, zeroB, List.getElem?_append]

theorem zero_store {w : World} {base g wd p : Nat} {e : TypeId} {t : List UInt8} (m : Nat) (h : w.ownsRow base e 1 (.slice (some ⟨g, 0, none⟩) wd wd) wd (bcells (zeroB (p + 1) ++ t))) (_hp : p < wd) :
    (w.setCell ⟨g, p, none⟩ (.int .u8 ((m : Int) % 256))).ownsRow base e 1 (.slice (some ⟨g, 0, none⟩) wd wd) wd (bcells (zeroB p ++ lowB m :: t)) := by
  have h2 := (h.stored p (.int .u8 ((m : Int) % 256))).1
  have e1 : (bcells (zeroB (p + 1) ++ t)).set p (.int .u8 ((m : Int) % 256)) = bcells (zeroB p ++ lowB m :: t) := by
    have e2 : zeroB (p + 1) ++ t = zeroB p ++ (0 :: t) := by unfold zeroB; rw [List.replicate_succ']; simp
    have e3 : (m : Int) % 256 = ((lowB m).toNat : Int) := by rw [lowB_nat]; omega
    rw [e2, e3]
    have e4 : (zeroB p).length = p := by simp [zeroB]
    simp only [bcells, List.map_append, List.map_cons]
    rw [List.set_append_right _ _ (by simp [e4])]
    simp [e4]
  rw [e1] at h2
  exact h2

set_option maxRecDepth 100000 in
set_option maxHeartbeats 1000000 in
theorem fixed_any (n : Nat) (hn : n < 18446744073709551616) (width : Int) (w : World) :
    Calls Try.prog 24 #[.int .u64 n, .int .i64 width] w fun e w' => e = .returned (.string ⟨(fixF (clampW width) n).toArray⟩) ∧ Below w.heap.size w w' := by
  obtain ⟨i0, hi, hz0, hz1, hz2⟩ := info_parts Try.info5
  have hn' : (n : Int) ≤ 18446744073709551615 := by omega
  have HN := hid hn
  clear hn
  obtain ⟨wd, hwd⟩ : ∃ wd : Nat, wd = clampW width := ⟨_, rfl⟩
  have e : (if 8 < (if width < 1 then 1 else width) then 8 else (if width < 1 then 1 else width)) = (wd : Int) := clamp_if width wd hwd
  have hw1 : 1 ≤ wd := by rw [hwd]; exact clamp_pos width
  have hw8 : wd ≤ 8 := by rw [hwd]; exact clamp_le width
  rw [← hwd]
  clear hwd
  go_enter Try.func24, Try.ntmps24
  go_wp2_with (at_make; refine wpList_make_full _ rfl _ _ 64 rfl w.heap.size 5 i0 (.int .u8 0) 1 Try.underlying64 hi hz0 hz1 .i64 .i64 _ _ wd rfl rfl rfl rfl (by rw [hz2]; omega) (by unfold maxLen; omega) (Nat.le_refl _) ?_)
  all_goals
    intro w1 hown hgrow
    have hb1 : Below w.heap.size w w1 := (Below.refl _ _).grown hgrow (Nat.le_refl _) (fun k hk => by cases hk)
    have hown1 := made_zero hown
    clear hgrow hown
    go_wp2
    go_loopw [0, 6] (fun a i wr => ∃ (j m : Nat) (t : List UInt8), a = .int .u64 m ∧ i = .int .i64 ((j : Int) - 1) ∧ (m : Int) ≤ 18446744073709551615 ∧ t.length + j = wd ∧ fixF wd n = fixF j m ++ t ∧
        wr.ownsRow w.heap.size 5 1 (.slice (some ⟨w.heap.size, 0, none⟩) wd wd) wd (bcells (zeroB j ++ t)) ∧ Below w.heap.size w wr)
      (fun _ i _ => (intOf i + 1).toNat)
    case atStart => exact ⟨wd, n, [], rfl, rfl, hn', by simp, by simp, hown1, hb1⟩
    case round =>
      clear hown1 hb1
      obtain ⟨j, m, t, rfl, rfl, hm, hl, hv, hown, hbel⟩ := hrel
      have HV := hid hv
      have HL := hid hl
      clear hv hl
      cases j with
      | zero =>
        have hown2 : wr.ownsRow w.heap.size 5 1 (.slice (some ⟨w.heap.size, 0, none⟩) wd wd) wd (bcells t) := hown
        have hcv := conv_own (P := Try.prog) (l := t) (n := wd) 64 9 5 Try.underlying64 Try.underlying5 Try.underlying9 (by have := HL.out; omega) (by have := HL.out; omega) hown2
        clear hown hown2
        go_wp2
        go_ret
        exact ⟨by rw [HV.out]; rfl, hbel⟩
      | succ p =>
        have hp : p + 1 ≤ wd := by have := HL.out; omega
        have hc := zero_at hown (by omega)
        have hf := hown.frozenAt p
        have HS := hid (zero_store m hown (by omega))
        have HB := hid (hbel.setCell (p := ⟨w.heap.size, p, none⟩) (Nat.le_refl _) (.int .u8 ((m : Int) % 256)))
        have HO := hid hown
        clear hown
        rw [show ((p + 1 : Nat) : Int) - 1 = (p : Int) from by omega]
        go_wp2
        go_roundw
        case rel => exact ⟨p, m / 256, lowB m :: t, by simp, rfl, by omega, by have := HL.out; simp only [List.length_cons]; omega, by rw [HV.out, fixF]; simp [lowB], HS.out, HB.out⟩
        case measure => simp [intOf]

end Num
end Go.Proofs.Ytkoglikaaehhjaa
