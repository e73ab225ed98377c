/-
  Contract of the statements' own awake: it answers true; the old memory stays.
-/
import Derived.Test.YtpabhekbkdpkiaaDoorValParse
import Derived.Test.YtpabhekbkdpkiaaDoorValUnkeyed
namespace Go.Proofs.YtpabhekbkdpkiaaDoor
open Go.RowKit
namespace Va
open Num (hid)
def itsS : ByteArray := ⟨#[105, 116, 39, 115, 10]⟩
theorem itoa_5 : Lib.itoa (-5) = [45, 53] := by
  unfold Lib.itoa
  rw [if_pos (by decide)]
  rw [show (-5 : Int).natAbs = 5 from rfl, Lib.decDigits_one (by decide)]
  rfl
theorem parse_c1 (w : World) (g : Glob w) : Calls Tryd.prog 20 #[.string ⟨#[45, 53, 41]⟩] w fun e w' => e = .returned (.tuple #[.agg #[.int .i64 1, .int .i64 (-5), .string ⟨#[]⟩], .int .i64 2, .int .i64 0]) ∧ Below w.heap.size w w' := by
  have h := parse_any ⟨#[45, 53, 41]⟩ (by decide) w g
  have e := parse_show (good_int (-5)) (by unfold InI; omega) []
  rw [show_int, itoa_5] at e
  rw [show bl ⟨#[45, 53, 41]⟩ = [45, 53] ++ 41 :: [] from rfl, e] at h
  exact h
theorem parse_c2 (w : World) (g : Glob w) : Calls Tryd.prog 20 #[.string ⟨#[39, 97]⟩] w fun e w' => e = .returned (.tuple #[.agg #[.int .i64 0, .int .i64 0, .string ⟨#[]⟩], .int .i64 0, .int .i64 4]) ∧ Below w.heap.size w w' := by
  have h := parse_any ⟨#[39, 97]⟩ (by decide) w g
  have e : parseL [39, 97] = noneU := by
    rw [parse_eq, if_neg (by decide), if_pos (by decide), show List.drop 1 [39, 97] = [(97 : UInt8)] from rfl, show pq 2000 [97] = none by decide +kernel]
    rfl
  rw [show bl ⟨#[39, 97]⟩ = [39, 97] from rfl, e] at h
  exact h
theorem unkey_c (w : World) : Calls Tryd.prog 18 #[.string ⟨#[2, 97, 0, 255, 0, 1, 120]⟩] w fun e w' => e = .returned (.tuple #[.agg #[.int .i64 2, .int .i64 0, .string ⟨#[97, 0]⟩], .int .i64 6, .int .i64 0]) ∧ Below w.heap.size w w' := by
  have h := unkey_any ⟨#[2, 97, 0, 255, 0, 1, 120]⟩ (by decide) w
  have e := unkey_key (good_text (S := [97, 0]) (by decide)) (by unfold InI; omega) [120]
  rw [show keyL 2 0 [97, 0] = [2, 97, 0, 255, 0, 1] by decide +kernel] at e
  rw [show bl ⟨#[2, 97, 0, 255, 0, 1, 120]⟩ = [2, 97, 0, 255, 0, 1] ++ [120] from rfl, e] at h
  exact h
theorem show_c (w : World) (g : Glob w) : Calls Tryd.prog 16 #[.agg #[.int .i64 2, .int .i64 0, .string itsS]] w fun e w' => e = .returned (.string ⟨#[39, 105, 116, 39, 39, 115, 92, 48, 97, 39]⟩) ∧ Below w.heap.size w w' := by
  have h := show_any 2 0 itsS (by unfold InI; omega) w g
  rw [show showT 2 0 itsS = ⟨#[39, 105, 116, 39, 39, 115, 92, 48, 97, 39]⟩ by
    unfold showT
    rw [show_text (by decide), show showS (bl itsS) = [105, 116, 39, 39, 115, 92, 48, 97] by decide +kernel]
    rfl] at h
  exact h
theorem key_c (w : World) (g : Glob w) : Calls Tryd.prog 14 #[.agg #[.int .i64 1, .int .i64 1, .string ⟨#[]⟩]] w fun e w' => e = .returned (.string ⟨#[1, 128, 0, 0, 0, 0, 0, 0, 1]⟩) ∧ Below w.heap.size w w' := by
  have h := key_any 1 1 ⟨#[]⟩ (by unfold InI; omega) w g
  rw [show keyS 1 1 ⟨#[]⟩ = ⟨#[1, 128, 0, 0, 0, 0, 0, 0, 1]⟩ by
    unfold keyS
    rw [show keyL 1 1 (bl ⟨#[]⟩) = [1, 128, 0, 0, 0, 0, 0, 0, 1] by decide +kernel]
    rfl] at h
  exact h
theorem compare_c (w : World) : Calls Tryd.prog 12 #[.agg #[.int .i64 0, .int .i64 0, .string ⟨#[]⟩], .agg #[.int .i64 2, .int .i64 0, .string itsS]] w fun e w' => e = .returned (.int .i64 (-1)) ∧ Below w.heap.size w w' := by
  have h := compare_any 0 0 ⟨#[]⟩ 2 0 itsS w
  rw [show cmpS 0 0 ⟨#[]⟩ 2 0 itsS = -1 by decide +kernel] at h
  exact h
theorem good_c1 (w : World) : Calls Tryd.prog 10 #[.agg #[.int .i64 2, .int .i64 0, .string itsS]] w fun e w' => e = .returned (.bool true) ∧ Below w.heap.size w w' := by
  have h := good_any 2 0 itsS w
  rw [show goodB 2 0 itsS = true by decide +kernel] at h
  exact h
theorem good_c2 (w : World) : Calls Tryd.prog 10 #[.agg #[.int .i64 9, .int .i64 0, .string ⟨#[]⟩]] w fun e w' => e = .returned (.bool false) ∧ Below w.heap.size w w' := by
  have h := good_any 9 0 ⟨#[]⟩ w
  rw [show goodB 9 0 ⟨#[]⟩ = false by decide +kernel] at h
  exact h
set_option maxRecDepth 100000 in
set_option maxHeartbeats 4000000 in
theorem awake_any (w : World) (g : Glob w) : Calls Tryd.prog 9 #[] w fun e w' => e = .returned (.bool true) ∧ Below w.heap.size w w' := by
  have Hg := hid g
  clear g
  have V1 := hid (Bx.new 2 0 itsS w)
  have B1 := hid ((Below.refl w.heap.size w).alloc (Nat.le_refl _) (.cells #[.int .i64 2, .int .i64 0, .string itsS] 23))
  unfold itsS at V1 B1
  go_enter Tryd.func9, Tryd.ntmps9
  go_wp2_with fail
  refine (parse_c1 _ (Hg.out.on B1.out)).mono ?_
  rintro e w2 ⟨rfl, hb⟩
  have V2 := hid ((V1.out.on hb).on ((Below.refl _ _).alloc (Nat.le_refl _) (.cells #[.int .i64 1, .int .i64 (-5), .string ⟨#[]⟩] 23)))
  have A2 := hid (Bx.new 1 (-5) ⟨#[]⟩ w2)
  have B2 := hid ((B1.out.trans (hb.mono B1.out.size)).alloc (by have := B1.out.size; have := hb.size; omega) (.cells #[.int .i64 1, .int .i64 (-5), .string ⟨#[]⟩] 23))
  clear hb V1 B1
  go_wp2_with fail
  refine (parse_c2 _ (Hg.out.on B2.out)).mono ?_
  rintro e w3 ⟨rfl, hb⟩
  have V3 := hid ((V2.out.on hb).on ((Below.refl _ _).alloc (Nat.le_refl _) (.cells #[.int .i64 0, .int .i64 0, .string ⟨#[]⟩] 23)))
  have A3 := hid ((A2.out.on hb).on ((Below.refl _ _).alloc (Nat.le_refl _) (.cells #[.int .i64 0, .int .i64 0, .string ⟨#[]⟩] 23)))
  have B3 := hid ((B2.out.trans (hb.mono B2.out.size)).alloc (by have := B2.out.size; have := hb.size; omega) (.cells #[.int .i64 0, .int .i64 0, .string ⟨#[]⟩] 23))
  clear hb V2 A2 B2
  go_wp2_with fail
  refine (unkey_c _).mono ?_
  rintro e w4 ⟨rfl, hb⟩
  have V4 := hid ((V3.out.on hb).on ((Below.refl _ _).alloc (Nat.le_refl _) (.cells #[.int .i64 2, .int .i64 0, .string ⟨#[97, 0]⟩] 23)))
  have A4 := hid ((A3.out.on hb).on ((Below.refl _ _).alloc (Nat.le_refl _) (.cells #[.int .i64 2, .int .i64 0, .string ⟨#[97, 0]⟩] 23)))
  have U4 := hid (Bx.new 2 0 ⟨#[97, 0]⟩ w4)
  have B4 := hid ((B3.out.trans (hb.mono B3.out.size)).alloc (by have := B3.out.size; have := hb.size; omega) (.cells #[.int .i64 2, .int .i64 0, .string ⟨#[97, 0]⟩] 23))
  clear hb V3 A3 B3
  have hz4 := lt_of_block V4.out
  have hza4 := lt_of_block A4.out
  obtain ⟨v0, v1, v2⟩ := V4.out.cells
  go_wp2_with fail
  refine (show_c _ (Hg.out.on B4.out)).mono ?_
  rintro e w5 ⟨rfl, hb⟩
  have V5 := hid (V4.out.on hb)
  have A5 := hid (A4.out.on hb)
  have U5 := hid (U4.out.on hb)
  have B5 := hid (B4.out.trans (hb.mono B4.out.size))
  clear hb v0 v1 v2 V4 A4 U4 B4 hz4 hza4
  obtain ⟨a0, a1, a2⟩ := A5.out.cells
  go_wp2_with fail
  refine (key_c _ (Hg.out.on B5.out)).mono ?_
  rintro e w6 ⟨rfl, hb⟩
  have V6 := hid (V5.out.on hb)
  have U6 := hid (U5.out.on hb)
  have B6 := hid (B5.out.trans (hb.mono B5.out.size))
  clear hb a0 a1 a2 V5 A5 U5 B5
  obtain ⟨v0, v1, v2⟩ := V6.out.cells
  obtain ⟨u0, u1, u2⟩ := U6.out.cells
  go_wp2_with fail
  refine (compare_c _).mono ?_
  rintro e w7 ⟨rfl, hb⟩
  have V7 := hid (V6.out.on hb)
  have B7 := hid (B6.out.trans (hb.mono B6.out.size))
  clear hb v0 v1 v2 u0 u1 u2 V6 U6 B6
  obtain ⟨v0, v1, v2⟩ := V7.out.cells
  go_wp2_with fail
  refine (good_c1 _).mono ?_
  rintro e w8 ⟨rfl, hb⟩
  have B8 := hid (B7.out.trans (hb.mono B7.out.size))
  clear hb v0 v1 v2 V7 B7
  go_wp2_with fail
  refine (good_c2 _).mono ?_
  rintro e w9 ⟨rfl, hb⟩
  have B9 := hid (B8.out.trans (hb.mono B8.out.size))
  clear hb B8
  go_wp2
  go_ret
  exact ⟨rfl, B9.out⟩
end Va
end Go.Proofs.YtpabhekbkdpkiaaDoor
