/-
  Contract of the project's Show.
-/
import Derived.Test.YtpabhekbkdpkiaaDoorValShown
import Derived.Lib.AppendIntMem
namespace Go.Proofs.YtpabhekbkdpkiaaDoor
open Go.RowKit
namespace Va
open Num (hid)
theorem itoa_any (n : Int) (hn : InI n) (w : World) (g : Glob w) : Calls Tryd.prog 29 #[.int .i64 n] w fun e w' => e = .returned (.string (bs (Lib.itoa n))) ∧ Below w.heap.size w w' := by
  refine (Any.strconv_Itoa Tryd.itoaL n hn.1 hn.2 w g.pow).mono ?_
  rintro e w' ⟨rfl, k, os, rfl⟩
  exact ⟨rfl, Lib.below_grow _ _ (Nat.le_refl _) _ _⟩
/-- A value's text. -/
def showT (K N : Int) (S : ByteArray) : ByteArray := bs (showL K N (bl S))
theorem show_bad {K N : Int} {S : ByteArray} (h : goodB K N S = false) : showT K N S = ⟨#[]⟩ := by
  unfold showT showL
  unfold goodB at h
  rw [if_neg (by simpa using h)]
  rfl
set_option maxRecDepth 100000 in
set_option maxHeartbeats 2000000 in
theorem show_any (K N : Int) (S : ByteArray) (hN : InI N) (w : World) (g : Glob w) :
    Calls Tryd.prog 16 #[.agg #[.int .i64 K, .int .i64 N, .string S]] w fun e w' => e = .returned (.string (showT K N S)) ∧ Below w.heap.size w w' := by
  have B1 : Hid (Below w.heap.size w (w.alloc (.cells #[.int .i64 K, .int .i64 N, .string S] 23))) := hid ((Below.refl _ _).alloc (Nat.le_refl _) _)
  have X1 : Hid (Bx w.heap.size K N S (w.alloc (.cells #[.int .i64 K, .int .i64 N, .string S] 23))) := hid (Bx.new K N S w)
  have G := good_any K N S
  cases hg : goodB K N S with
  | false =>
    rw [show_bad hg]
    rw [hg] at G
    have HG := hid G
    clear G hg
    go_enter Tryd.func16, Tryd.ntmps16
    go_wp2_with fail
    refine (HG.out _).mono ?_
    rintro e w3 ⟨rfl, hb3⟩
    have B3 := hid (B1.out.trans (hb3.mono B1.out.size))
    clear hb3
    go_wp2
    go_ret
    exact ⟨rfl, B3.out⟩
  | true =>
    rw [hg] at G
    have HG := hid G
    clear G
    have gg := good_of hg
    have hz := hid (good_size hg)
    have HN := hid hN
    have Hg := hid g
    rcases gg with ⟨rfl, rfl, hS⟩ | ⟨rfl, hS⟩ | ⟨hK, rfl, hS⟩
    · have e : showT 0 0 S = ⟨#[110, 117, 108, 108]⟩ := by unfold showT; rw [hS, show_null]; rfl
      rw [e]
      clear e hS hg hN g
      go_enter Tryd.func16, Tryd.ntmps16
      go_wp2_with fail
      refine (HG.out _).mono ?_
      rintro e w3 ⟨rfl, hb3⟩
      have B3 := hid (B1.out.trans (hb3.mono B1.out.size))
      obtain ⟨k0, k1, k2⟩ := (X1.out.on hb3).cells
      clear hb3
      go_wp2
      go_ret
      exact ⟨rfl, B3.out⟩
    · have e : showT 1 N S = bs (Lib.itoa N) := by unfold showT; rw [hS, show_int]
      rw [e]
      clear e hS hg hN g
      go_enter Tryd.func16, Tryd.ntmps16
      go_wp2_with fail
      refine (HG.out _).mono ?_
      rintro e w3 ⟨rfl, hb3⟩
      have B3 := hid (B1.out.trans (hb3.mono B1.out.size))
      obtain ⟨k0, k1, k2⟩ := (X1.out.on hb3).cells
      clear hb3
      go_wp2_with fail
      refine (itoa_any N HN.out _ (Hg.out.on B3.out)).mono ?_
      rintro e w4 ⟨rfl, hb4⟩
      have B4 := hid (B3.out.trans (hb4.mono B3.out.size))
      clear hb4
      go_wp2
      go_ret
      exact ⟨rfl, B4.out⟩
    · rcases hK with rfl | rfl
      · have e : showT 2 0 S = ⟨#[39]⟩ ++ bs (showS (bl S)) ++ ⟨#[39]⟩ := by
          unfold showT
          rw [show_text hS, show (⟨#[39]⟩ : ByteArray) = bs [39] from rfl, bs_append, bs_append]
          rfl
        rw [e]
        have hsl := showS_length (bl S)
        have hz2 : S.size ≤ 2000 := hz.out
        have h8 : ¬ 9223372036854775807 < (⟨#[39]⟩ : ByteArray).size + (bs (showS (bl S))).size := by
          rw [bs_size]; rw [bl_len] at hsl; show ¬ 9223372036854775807 < 1 + _; omega
        have h9 : ¬ 9223372036854775807 < 1 + (bs (showS (bl S))).size + 1 := by
          rw [bs_size]; rw [bl_len] at hsl; omega
        clear e hS hg hN g hsl hz2
        go_enter Tryd.func16, Tryd.ntmps16
        go_wp2_with fail
        refine (HG.out _).mono ?_
        rintro e w3 ⟨rfl, hb3⟩
        have B3 := hid (B1.out.trans (hb3.mono B1.out.size))
        have X3 := hid (X1.out.on hb3)
        clear hb3
        obtain ⟨k0, k1, k2⟩ := X3.out.cells
        go_wp2_with fail
        refine wp_quiet_in (fun wx => Below w3.heap.size w3 wx) (by kernel_rfl) (by kernel_rfl) (Below.refl _ _).drew ?_
        go_big_quiet_want
        go_big_quiet_op
        apply Exists.intro
        refine ⟨fun _ _ => ?_, ?_⟩
        · with_reducible exact Eq.refl _
        go_big_quiet_on
        go_big_quiet_want
        go_big_quiet_op
        refine ⟨.int .i64 2, fun wx hx => ?_, ?_⟩
        · have c := (X3.out.on hx).cells.1
          simp [go_sem, c]
        go_big_quiet_on
        go_big_quiet_want
        go_big_quiet_op
        refine ⟨.string ⟨#[39]⟩, fun wx hx => ?_, ?_⟩
        · refine (open_text _).mono ?_
          rintro e w3 ⟨rfl, rfl⟩
          exact ⟨rfl, hx⟩
        go_big_quiet_on
        go_big_quiet_want
        go_big_quiet_op
        apply Exists.intro
        refine ⟨fun _ _ => ?_, ?_⟩
        · with_reducible exact Eq.refl _
        go_big_quiet_on
        go_big_quiet_want
        go_big_quiet_op
        refine ⟨.string S, fun wx hx => ?_, ?_⟩
        · have c := (X3.out.on hx).cells.2.2
          simp [go_sem, c]
        go_big_quiet_on
        go_big_quiet_want
        go_big_quiet_op
        refine ⟨.string (bs (showS (bl S))), fun wx hx => ?_, ?_⟩
        · refine (shown_any S hz.out _).mono ?_
          rintro e w3 ⟨rfl, hb3⟩
          exact ⟨rfl, hx.trans (hb3.mono hx.size)⟩
        go_big_quiet_on
        go_big_quiet_want
        go_big_quiet_op
        apply Exists.intro
        refine ⟨fun _ _ => ?_, ?_⟩
        · with_reducible exact Eq.refl _
        go_big_quiet_on
        go_big_quiet_want
        go_big_quiet_op
        apply Exists.intro
        refine ⟨fun _ _ => ?_, ?_⟩
        · with_reducible exact Eq.refl _
        go_big_quiet_on
        go_big_quiet_want
        go_big_quiet_op
        go_big_quiet_on
        refine wpQuiet_nil ?_
        intro w5 hb5
        have B5 := hid (B3.out.trans (hb5.mono B3.out.size))
        clear hb5
        go_wp2
        go_ret
        exact ⟨rfl, B5.out⟩
      · have e : showT 3 0 S = ⟨#[120, 39]⟩ ++ bs (showS (bl S)) ++ ⟨#[39]⟩ := by
          unfold showT
          rw [show_blob hS, show (⟨#[39]⟩ : ByteArray) = bs [39] from rfl, show (⟨#[120, 39]⟩ : ByteArray) = bs [120, 39] from rfl, bs_append, bs_append]
          rfl
        rw [e]
        have hsl := showS_length (bl S)
        have hz2 : S.size ≤ 2000 := hz.out
        have h8 : ¬ 9223372036854775807 < (⟨#[120, 39]⟩ : ByteArray).size + (bs (showS (bl S))).size := by
          rw [bs_size]; rw [bl_len] at hsl; show ¬ 9223372036854775807 < 2 + _; omega
        have h9 : ¬ 9223372036854775807 < 2 + (bs (showS (bl S))).size + 1 := by
          rw [bs_size]; rw [bl_len] at hsl; omega
        clear e hS hg hN g hsl hz2
        go_enter Tryd.func16, Tryd.ntmps16
        go_wp2_with fail
        refine (HG.out _).mono ?_
        rintro e w3 ⟨rfl, hb3⟩
        have B3 := hid (B1.out.trans (hb3.mono B1.out.size))
        have X3 := hid (X1.out.on hb3)
        clear hb3
        obtain ⟨k0, k1, k2⟩ := X3.out.cells
        go_wp2_with fail
        refine wp_quiet_in (fun wx => Below w3.heap.size w3 wx) (by kernel_rfl) (by kernel_rfl) (Below.refl _ _).drew ?_
        go_big_quiet_want
        go_big_quiet_op
        apply Exists.intro
        refine ⟨fun _ _ => ?_, ?_⟩
        · with_reducible exact Eq.refl _
        go_big_quiet_on
        go_big_quiet_want
        go_big_quiet_op
        refine ⟨.int .i64 3, fun wx hx => ?_, ?_⟩
        · have c := (X3.out.on hx).cells.1
          simp [go_sem, c]
        go_big_quiet_on
        go_big_quiet_want
        go_big_quiet_op
        refine ⟨.string ⟨#[120, 39]⟩, fun wx hx => ?_, ?_⟩
        · refine (open_blob _).mono ?_
          rintro e w3 ⟨rfl, rfl⟩
          exact ⟨rfl, hx⟩
        go_big_quiet_on
        go_big_quiet_want
        go_big_quiet_op
        apply Exists.intro
        refine ⟨fun _ _ => ?_, ?_⟩
        · with_reducible exact Eq.refl _
        go_big_quiet_on
        go_big_quiet_want
        go_big_quiet_op
        refine ⟨.string S, fun wx hx => ?_, ?_⟩
        · have c := (X3.out.on hx).cells.2.2
          simp [go_sem, c]
        go_big_quiet_on
        go_big_quiet_want
        go_big_quiet_op
        refine ⟨.string (bs (showS (bl S))), fun wx hx => ?_, ?_⟩
        · refine (shown_any S hz.out _).mono ?_
          rintro e w3 ⟨rfl, hb3⟩
          exact ⟨rfl, hx.trans (hb3.mono hx.size)⟩
        go_big_quiet_on
        go_big_quiet_want
        go_big_quiet_op
        apply Exists.intro
        refine ⟨fun _ _ => ?_, ?_⟩
        · with_reducible exact Eq.refl _
        go_big_quiet_on
        go_big_quiet_want
        go_big_quiet_op
        apply Exists.intro
        refine ⟨fun _ _ => ?_, ?_⟩
        · with_reducible exact Eq.refl _
        go_big_quiet_on
        go_big_quiet_want
        go_big_quiet_op
        go_big_quiet_on
        refine wpQuiet_nil ?_
        intro w5 hb5
        have B5 := hid (B3.out.trans (hb5.mono B3.out.size))
        clear hb5
        go_wp2
        go_ret
        exact ⟨rfl, B5.out⟩
end Va
end Go.Proofs.YtpabhekbkdpkiaaDoor
