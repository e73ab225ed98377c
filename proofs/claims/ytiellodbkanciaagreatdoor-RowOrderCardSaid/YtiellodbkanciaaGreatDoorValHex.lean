/-
  Contract of strconv.ParseUint at base 16 and 8 bits, of two bytes: what it gives where both are small digits of base 16; else some number. The old memory stays.
-/
import Derived.Test.YtiellodbkanciaaGreatDoorGrpValB
import Derived.Shelf.Strconv.ToError
import Derived.Shelf.Strconv.Lower
import Derived.Lib.Strings
import Derived.Lib.Walk
import Derived.Lib.ConvBytes
import Derived.Lib.AtoiErrMem
import Derived.Laws.Strings3
import Derived.Laws.Closers25
import Derived.Laws.Closers25b
import Derived.BigCall
import Derived.BigGuard
namespace Go.Proofs.YtiellodbkanciaaGreatDoor
open Go.RowKit
namespace Va
open Num (hid)
def lowI (c : UInt8) : Int := bits .or .u8 (c.toNat : Int) 32
theorem low_any (c : UInt8) (w : World) : Calls Tryz.prog 219 #[.int .u8 (c.toNat : Int)] w fun e w' => e = .returned (.int .u8 (lowI c)) ∧ w = w' := by
  unfold lowI
  go_enter Tryz.func219, Tryz.ntmps219
  go_wp2
  go_ret
  exact ⟨rfl, rfl⟩
theorem low_hex : ∀ c : Fin 256, hexv (UInt8.ofNat c.val) < 16 → (48 ≤ c.val ∧ c.val ≤ 57 ∧ hexv (UInt8.ofNat c.val) = c.val - 48) ∨ (¬ (48 ≤ c.val ∧ c.val ≤ 57) ∧ 97 ≤ lowI (UInt8.ofNat c.val) ∧ lowI (UInt8.ofNat c.val) ≤ 102 ∧ (hexv (UInt8.ofNat c.val) : Int) = lowI (UInt8.ofNat c.val) - 87) := by decide +kernel
theorem low_of (c : UInt8) (h : hexv c < 16) : (48 ≤ c.toNat ∧ c.toNat ≤ 57 ∧ hexv c = c.toNat - 48) ∨ (¬ (48 ≤ c.toNat ∧ c.toNat ≤ 57) ∧ 97 ≤ lowI c ∧ lowI c ≤ 102 ∧ (hexv c : Int) = lowI c - 87) := by
  have e : c = UInt8.ofNat (⟨c.toNat, c.toNat_lt⟩ : Fin 256).val := UInt8.toNat_inj.1 (by rw [Num.ofNat_toNat]; have := c.toNat_lt; simp only; omega)
  have g := low_hex ⟨c.toNat, c.toNat_lt⟩
  rw [← e] at g
  exact g h
theorem low_bounds (c : UInt8) : 0 ≤ lowI c ∧ lowI c ≤ 255 := ⟨bits_lo_u8 .or (c.toNat : Int) 32, bits_hi_u8 .or (c.toNat : Int) 32⟩
/-- What the digits before byte k say, where they are digits. -/
def Says (x y : UInt8) (k : Nat) (a : Int) : Prop := (k = 0 → a = 0) ∧ (k = 1 → 0 ≤ a ∧ a ≤ 15 ∧ (hexv x < 16 → a = hexv x)) ∧ (k = 2 → 0 ≤ a ∧ a ≤ 255 ∧ (hexv x < 16 ∧ hexv y < 16 → a = 16 * (hexv x : Int) + hexv y))
def PuOut (x y : UInt8) (w : World) (e : Ending) (w' : World) : Prop := ∃ (n : Int) (ev : Value), e = .returned (.tuple #[.int .u64 n, ev]) ∧ 0 ≤ n ∧ n ≤ 255 ∧ (ev = .nilIface ∨ ev = .iface 201 (.int .i64 2)) ∧ (hexv x < 16 ∧ hexv y < 16 → n = 16 * (hexv x : Int) + hexv y) ∧ Below w.heap.size w w'
theorem pu_out {x y : UInt8} {w w' : World} {n : Int} {ev : Value} (h0 : 0 ≤ n) (h1 : n ≤ 255) (h2 : ev = .nilIface ∨ ev = .iface 201 (.int .i64 2)) (h3 : hexv x < 16 ∧ hexv y < 16 → n = 16 * (hexv x : Int) + hexv y) (h4 : Below w.heap.size w w') :
    PuOut x y w (.returned (.tuple #[.int .u64 n, ev])) w' := ⟨n, ev, rfl, h0, h1, h2, h3, h4⟩
set_option maxHeartbeats 8000000 in
set_option maxRecDepth 100000 in
theorem pu_inner (x y : UInt8) (w : World) : Calls Tryz.prog 208 #[.string ⟨#[x, y]⟩, .int .i64 16, .int .i64 8] w (PuOut x y w) := by
  have hcv := Lib.run_convert_string_bytes (P := Tryz.prog) w 9 80 5 ⟨#[x, y]⟩ (u := .string) Tryz.underlying9 Tryz.underlying80 Tryz.underlying5
  have hB : ∀ j, j < 2 → (Lib.bytesWorld w 5 ⟨#[x, y]⟩).cell? ⟨w.heap.size, j, none⟩ = some (.int .u8 ([x, y].getD j 0).toNat) := fun j hj => Lib.bytesWorld_cell w 5 ⟨#[x, y]⟩ j hj
  have hb0 := hB 0 (by decide)
  have hb1 := hB 1 (by decide)
  simp only [List.getD_cons_zero, List.getD_cons_succ] at hb0 hb1
  clear hB
  have HBel : Hid (Below w.heap.size w (Lib.bytesWorld w 5 ⟨#[x, y]⟩)) := hid (Lib.bytesWorld_below _ _ _)
  generalize Lib.bytesWorld w 5 ⟨#[x, y]⟩ = W1 at *
  have hmv : IntKind.u64.wrap (IntKind.u64.wrap 256 - 1) = 255 := by
    rw [IntKind.wrap_u64, IntKind.wrap_u64]
    decide
  go_enter Tryz.func208, Tryz.ntmps208
  go_wp2
  go_loop [12, 13, 101] (fun vu vn vi => ∃ (k : Nat) (a : Int), vu = .bool false ∧ vn = .int .u64 a ∧ vi = .int .i64 k ∧ k ≤ 2 ∧ Hid (Says x y k a)) (fun _ _ vi => 2 - (intOf vi).toNat)
  case atStart => exact ⟨0, 0, rfl, rfl, rfl, by decide, hid ⟨fun _ => rfl, fun h => by omega, fun h => by omega⟩⟩
  case round =>
    obtain ⟨k, a, rfl, rfl, rfl, hk, HS⟩ := hrel
    have ways : k = 0 ∨ k = 1 ∨ k = 2 := by omega
    rcases ways with rfl | rfl | rfl
    · have e0 := HS.out.1 rfl
      subst e0
      clear HS
      have hc256 : (x.toNat : Int) ≤ 255 := by have := x.toNat_lt; omega
      obtain ⟨l0, l1⟩ := low_bounds x
      have hlow := hid (low_of x)
      by_cases hdig : 48 ≤ x.toNat ∧ x.toNat ≤ 57
      · obtain ⟨d0, d1⟩ := hdig
        have g0 : (48 : Int) ≤ (x.toNat : Int) := by omega
        have g1 : (x.toNat : Int) ≤ 57 := by omega
        have HP : Hid (hexv x < 16 → (hexv x : Int) = (x.toNat : Int) - 48) := hid fun h => by
          rcases hlow.out h with ⟨_, _, h3⟩ | ⟨h1, _⟩
          · omega
          · exact absurd ⟨d0, d1⟩ h1
        clear d0 d1 hlow
        go_wp2
        go_round
        case rel => exact ⟨1, _, rfl, rfl, rfl, by decide, hid ⟨fun h => by omega, fun _ => ⟨by omega, by omega, fun h => by have := HP.out h; omega⟩, fun h => by omega⟩⟩
        case measure => simp [intOf]
      · have HN := hid hdig
        have gd : ((x.toNat : Int) < 48 ∧ ((x.toNat : Int) == 95) = false) ∨ ((57 : Int) < (x.toNat : Int) ∧ ((x.toNat : Int) == 95) = false) ∨ ((57 : Int) < (x.toNat : Int) ∧ ((x.toNat : Int) == 95) = true) := by
          simp only [beq_iff_eq, beq_eq_false_iff_ne, ne_eq]; omega
        by_cases h97 : (97 : Int) ≤ lowI x
        · by_cases h102 : lowI x ≤ 102
          · have HP : Hid (hexv x < 16 → (hexv x : Int) = lowI x - 87) := hid fun h => by
              rcases hlow.out h with ⟨h1, h2, _⟩ | ⟨_, _, _, h4⟩
              · exact absurd ⟨h1, h2⟩ HN.out
              · exact h4
            have h122 : lowI x ≤ 122 := by omega
            clear hlow hdig
            rcases gd with ⟨gd, g95⟩ | ⟨gd, g95⟩ | ⟨gd, g95⟩
            all_goals (
              go_wp2_with (go_at_call 219; refine (low_any x _).mono ?_; rintro e w' ⟨rfl, rfl⟩)
              go_round
              case rel => exact ⟨1, _, rfl, rfl, rfl, by decide, hid ⟨fun h => by omega, fun _ => ⟨by omega, by omega, fun h => by have := HP.out h; omega⟩, fun h => by omega⟩⟩
              case measure => simp [intOf])
          · have HP : Hid (¬ hexv x < 16) := hid fun h => by
              rcases hlow.out h with ⟨h1, h2, _⟩ | ⟨_, _, h3, _⟩
              · exact absurd ⟨h1, h2⟩ HN.out
              · exact h102 h3
            have h103 : (103 : Int) ≤ lowI x := by omega
            clear hlow hdig h102
            by_cases h122 : lowI x ≤ 122
            all_goals (
              rcases gd with ⟨gd, g95⟩ | ⟨gd, g95⟩ | ⟨gd, g95⟩
              all_goals (
                go_wp2_with (go_at_call 219; refine (low_any x _).mono ?_; rintro e w' ⟨rfl, rfl⟩)
                go_ret2
                exact pu_out (by decide) (by decide) (Or.inr rfl) (fun h => absurd h.1 HP.out) HBel.out))
        · have HP : Hid (¬ hexv x < 16) := hid fun h => by
            rcases hlow.out h with ⟨h1, h2, _⟩ | ⟨_, h3, _⟩
            · exact absurd ⟨h1, h2⟩ HN.out
            · exact h97 h3
          clear hlow hdig
          rcases gd with ⟨gd, g95⟩ | ⟨gd, g95⟩ | ⟨gd, g95⟩
          all_goals (
            go_wp2_with (go_at_call 219; refine (low_any x _).mono ?_; rintro e w' ⟨rfl, rfl⟩)
            go_ret2
            exact pu_out (by decide) (by decide) (Or.inr rfl) (fun h => absurd h.1 HP.out) HBel.out)
    · obtain ⟨a0, a1, a2⟩ := HS.out.2.1 rfl
      have HA := hid a2
      clear HS a2
      have hc256 : (y.toNat : Int) ≤ 255 := by have := y.toNat_lt; omega
      obtain ⟨l0, l1⟩ := low_bounds y
      have hlow := hid (low_of y)
      by_cases hdig : 48 ≤ y.toNat ∧ y.toNat ≤ 57
      · obtain ⟨d0, d1⟩ := hdig
        have g0 : (48 : Int) ≤ (y.toNat : Int) := by omega
        have g1 : (y.toNat : Int) ≤ 57 := by omega
        have HP : Hid (hexv y < 16 → (hexv y : Int) = (y.toNat : Int) - 48) := hid fun h => by
          rcases hlow.out h with ⟨_, _, h3⟩ | ⟨h1, _⟩
          · omega
          · exact absurd ⟨d0, d1⟩ h1
        clear d0 d1 hlow
        go_wp2
        go_round
        case rel => exact ⟨2, _, rfl, rfl, rfl, by decide, hid ⟨fun h => by omega, fun h => by omega, fun _ => ⟨by omega, by omega, fun h => by have := HP.out h.2; have := HA.out h.1; omega⟩⟩⟩
        case measure => simp [intOf]
      · have HN := hid hdig
        have gd : ((y.toNat : Int) < 48 ∧ ((y.toNat : Int) == 95) = false) ∨ ((57 : Int) < (y.toNat : Int) ∧ ((y.toNat : Int) == 95) = false) ∨ ((57 : Int) < (y.toNat : Int) ∧ ((y.toNat : Int) == 95) = true) := by
          simp only [beq_iff_eq, beq_eq_false_iff_ne, ne_eq]; omega
        by_cases h97 : (97 : Int) ≤ lowI y
        · by_cases h102 : lowI y ≤ 102
          · have HP : Hid (hexv y < 16 → (hexv y : Int) = lowI y - 87) := hid fun h => by
              rcases hlow.out h with ⟨h1, h2, _⟩ | ⟨_, _, _, h4⟩
              · exact absurd ⟨h1, h2⟩ HN.out
              · exact h4
            have h122 : lowI y ≤ 122 := by omega
            clear hlow hdig
            rcases gd with ⟨gd, g95⟩ | ⟨gd, g95⟩ | ⟨gd, g95⟩
            all_goals (
              go_wp2_with (go_at_call 219; refine (low_any y _).mono ?_; rintro e w' ⟨rfl, rfl⟩)
              go_round
              case rel => exact ⟨2, _, rfl, rfl, rfl, by decide, hid ⟨fun h => by omega, fun h => by omega, fun _ => ⟨by omega, by omega, fun h => by have := HP.out h.2; have := HA.out h.1; omega⟩⟩⟩
              case measure => simp [intOf])
          · have HP : Hid (¬ hexv y < 16) := hid fun h => by
              rcases hlow.out h with ⟨h1, h2, _⟩ | ⟨_, _, h3, _⟩
              · exact absurd ⟨h1, h2⟩ HN.out
              · exact h102 h3
            have h103 : (103 : Int) ≤ lowI y := by omega
            clear hlow hdig h102
            by_cases h122 : lowI y ≤ 122
            all_goals (
              rcases gd with ⟨gd, g95⟩ | ⟨gd, g95⟩ | ⟨gd, g95⟩
              all_goals (
                go_wp2_with (go_at_call 219; refine (low_any y _).mono ?_; rintro e w' ⟨rfl, rfl⟩)
                go_ret2
                exact pu_out (by decide) (by decide) (Or.inr rfl) (fun h => absurd h.2 HP.out) HBel.out))
        · have HP : Hid (¬ hexv y < 16) := hid fun h => by
            rcases hlow.out h with ⟨h1, h2, _⟩ | ⟨_, h3, _⟩
            · exact absurd ⟨h1, h2⟩ HN.out
            · exact h97 h3
          clear hlow hdig
          rcases gd with ⟨gd, g95⟩ | ⟨gd, g95⟩ | ⟨gd, g95⟩
          all_goals (
            go_wp2_with (go_at_call 219; refine (low_any y _).mono ?_; rintro e w' ⟨rfl, rfl⟩)
            go_ret2
            exact pu_out (by decide) (by decide) (Or.inr rfl) (fun h => absurd h.2 HP.out) HBel.out)
    · obtain ⟨h0, h1, h2⟩ := HS.out.2.2 rfl
      have H2 := hid h2
      clear h2
      go_wp2
      go_ret2
      exact pu_out h0 h1 (Or.inl rfl) H2.out HBel.out
end Va
end Go.Proofs.YtiellodbkanciaaGreatDoor
