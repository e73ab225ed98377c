/-
  The walk of ValueOrders: it answers true; the old memory stays.
-/
import Derived.Test.YtpabhekbkdpkiaaDoorValAwake
import Derived.Test.YtpabhekbkdpkiaaDoorValRefKey
import Derived.Test.YtpabhekbkdpkiaaDoorValRefShows
namespace Go.Proofs.YtpabhekbkdpkiaaDoor.valueOrders
open Go.RowKit Go.Proofs.YtpabhekbkdpkiaaDoor.Va
open Num (hid)
set_option maxRecDepth 100000 in
set_option maxHeartbeats 8000000 in
theorem walk (K N : Int) (S : ByteArray) (K' N' : Int) (S' : ByteArray) (hN : InI N) (_ : InI N') (w : World) (g : Glob w) :
    Calls Tryd.prog 3 #[.agg #[.int .i64 K, .int .i64 N, .string S], .agg #[.int .i64 K', .int .i64 N', .string S']] w fun e w' => e = .returned (.bool true) ∧ Below w.heap.size w w' := by
  have HN := hid hN
  have Hg := hid g
  have X1 := hid (Bx.first (w := w) K N K' N' S S')
  have Y1 := hid (Bx.second (w := w) K N K' N' S S')
  have B1 := hid (Bx.below (w := w) K N K' N' S S')
  clear hN g
  go_enter Tryd.func3, Tryd.ntmps3
  go_wp2_with fail
  refine (awake_any _ (Hg.out.on B1.out)).mono ?_
  rintro e1 w1 ⟨rfl, hb1⟩
  have XA := hid (X1.out.on hb1)
  have XB := hid (Y1.out.on hb1)
  have B2 := hid (B1.out.trans (hb1.mono B1.out.size))
  have HG := hid (Hg.out.on B2.out)
  clear hb1 X1 Y1 B1
  go_wp2_with fail
  refine wp_quiet_in (fun wx => Below w1.heap.size w1 wx) (by kernel_rfl) (by kernel_rfl) (Below.refl _ _).drew ?_
  go_big_quiet_want
  go_big_quiet_op
  refine ⟨.agg #[.int .i64 K, .int .i64 N, .string S], fun wx hx => ?_, ?_⟩
  · obtain ⟨c0, c1, c2⟩ := (XA.out.on hx).cells
    simp [go_sem, c0, c1, c2]
  go_big_quiet_on
  go_big_quiet_want
  go_big_quiet_op
  refine ⟨.bool (goodB K N S), fun wx hx => ?_, ?_⟩
  · refine (good_any K N S _).mono ?_
    rintro e w3 ⟨rfl, hb3⟩
    exact ⟨rfl, hx.trans (hb3.mono hx.size)⟩
  go_big_quiet_on
  go_big_quiet_want
  go_big_quiet_op
  refine ⟨.agg #[.int .i64 K, .int .i64 N, .string S], fun wx hx => ?_, ?_⟩
  · obtain ⟨c0, c1, c2⟩ := (XA.out.on hx).cells
    simp [go_sem, c0, c1, c2]
  go_big_quiet_on
  go_big_quiet_want
  go_big_quiet_op
  refine ⟨.bool (goodB K N S), fun wx hx => ?_, ?_⟩
  · refine (rgood_any K N S _).mono ?_
    rintro e w3 ⟨rfl, hb3⟩
    exact ⟨rfl, hx.trans (hb3.mono hx.size)⟩
  go_big_quiet_on
  go_big_quiet_want
  go_big_quiet_op
  apply Exists.intro
  refine ⟨fun _ _ => ?_, ?_⟩
  · with_reducible exact Eq.refl _
  go_big_quiet_on
  go_big_quiet_want
  go_big_quiet_op
  go_big_quiet_on
  go_big_quiet_want
  go_big_quiet_op
  refine ⟨.agg #[.int .i64 K, .int .i64 N, .string S], fun wx hx => ?_, ?_⟩
  · obtain ⟨c0, c1, c2⟩ := (XA.out.on hx).cells
    simp [go_sem, c0, c1, c2]
  go_big_quiet_on
  go_big_quiet_want
  go_big_quiet_op
  refine ⟨.agg #[.int .i64 K', .int .i64 N', .string S'], fun wx hx => ?_, ?_⟩
  · obtain ⟨c0, c1, c2⟩ := (XB.out.on hx).cells
    simp [go_sem, c0, c1, c2]
  go_big_quiet_on
  go_big_quiet_want
  go_big_quiet_op
  refine ⟨.int .i64 (cmpS K N S K' N' S'), fun wx hx => ?_, ?_⟩
  · refine (compare_any K N S K' N' S' _).mono ?_
    rintro e w3 ⟨rfl, hb3⟩
    exact ⟨rfl, hx.trans (hb3.mono hx.size)⟩
  go_big_quiet_on
  go_big_quiet_want
  go_big_quiet_op
  refine ⟨.agg #[.int .i64 K, .int .i64 N, .string S], fun wx hx => ?_, ?_⟩
  · obtain ⟨c0, c1, c2⟩ := (XA.out.on hx).cells
    simp [go_sem, c0, c1, c2]
  go_big_quiet_on
  go_big_quiet_want
  go_big_quiet_op
  refine ⟨.agg #[.int .i64 K', .int .i64 N', .string S'], fun wx hx => ?_, ?_⟩
  · obtain ⟨c0, c1, c2⟩ := (XB.out.on hx).cells
    simp [go_sem, c0, c1, c2]
  go_big_quiet_on
  go_big_quiet_want
  go_big_quiet_op
  refine ⟨.int .i64 (cmpS K N S K' N' S'), fun wx hx => ?_, ?_⟩
  · refine (rcompare_any K N S K' N' S' _).mono ?_
    rintro e w3 ⟨rfl, hb3⟩
    exact ⟨rfl, hx.trans (hb3.mono hx.size)⟩
  go_big_quiet_on
  go_big_quiet_want
  go_big_quiet_op
  apply Exists.intro
  refine ⟨fun _ _ => ?_, ?_⟩
  · with_reducible exact Eq.refl _
  go_big_quiet_on
  go_big_quiet_want
  go_big_quiet_op
  apply Exists.intro
  refine ⟨fun _ _ => ?_, ?_⟩
  · with_reducible exact Eq.refl _
  go_big_quiet_on
  go_big_quiet_want
  go_big_quiet_op
  go_big_quiet_on
  go_big_quiet_want
  go_big_quiet_op
  refine ⟨.agg #[.int .i64 K, .int .i64 N, .string S], fun wx hx => ?_, ?_⟩
  · obtain ⟨c0, c1, c2⟩ := (XA.out.on hx).cells
    simp [go_sem, c0, c1, c2]
  go_big_quiet_on
  go_big_quiet_want
  go_big_quiet_op
  refine ⟨.string (keyS K N S), fun wx hx => ?_, ?_⟩
  · refine (key_any K N S HN.out _ (HG.out.on hx)).mono ?_
    rintro e w3 ⟨rfl, hb3⟩
    exact ⟨rfl, hx.trans (hb3.mono hx.size)⟩
  go_big_quiet_on
  go_big_quiet_want
  go_big_quiet_op
  refine ⟨.agg #[.int .i64 K, .int .i64 N, .string S], fun wx hx => ?_, ?_⟩
  · obtain ⟨c0, c1, c2⟩ := (XA.out.on hx).cells
    simp [go_sem, c0, c1, c2]
  go_big_quiet_on
  go_big_quiet_want
  go_big_quiet_op
  refine ⟨.string (keyS K N S), fun wx hx => ?_, ?_⟩
  · refine (rkey_any K N S HN.out _).mono ?_
    rintro e w3 ⟨rfl, hb3⟩
    exact ⟨rfl, hx.trans (hb3.mono hx.size)⟩
  go_big_quiet_on
  go_big_quiet_want
  go_big_quiet_op
  apply Exists.intro
  refine ⟨fun _ _ => ?_, ?_⟩
  · with_reducible exact Eq.refl _
  go_big_quiet_on
  go_big_quiet_want
  go_big_quiet_op
  apply Exists.intro
  refine ⟨fun _ _ => ?_, ?_⟩
  · with_reducible exact Eq.refl _
  go_big_quiet_on
  go_big_quiet_want
  go_big_quiet_op
  go_big_quiet_on
  go_big_quiet_want
  go_big_quiet_op
  refine ⟨.agg #[.int .i64 K, .int .i64 N, .string S], fun wx hx => ?_, ?_⟩
  · obtain ⟨c0, c1, c2⟩ := (XA.out.on hx).cells
    simp [go_sem, c0, c1, c2]
  go_big_quiet_on
  go_big_quiet_want
  go_big_quiet_op
  refine ⟨.string (showT K N S), fun wx hx => ?_, ?_⟩
  · refine (show_any K N S HN.out _ (HG.out.on hx)).mono ?_
    rintro e w3 ⟨rfl, hb3⟩
    exact ⟨rfl, hx.trans (hb3.mono hx.size)⟩
  go_big_quiet_on
  go_big_quiet_want
  go_big_quiet_op
  refine ⟨.agg #[.int .i64 K, .int .i64 N, .string S], fun wx hx => ?_, ?_⟩
  · obtain ⟨c0, c1, c2⟩ := (XA.out.on hx).cells
    simp [go_sem, c0, c1, c2]
  go_big_quiet_on
  go_big_quiet_want
  go_big_quiet_op
  refine ⟨.string (showT K N S), fun wx hx => ?_, ?_⟩
  · refine (rshow_any K N S HN.out _).mono ?_
    rintro e w3 ⟨rfl, hb3⟩
    exact ⟨rfl, hx.trans (hb3.mono hx.size)⟩
  go_big_quiet_on
  go_big_quiet_want
  go_big_quiet_op
  apply Exists.intro
  refine ⟨fun _ _ => ?_, ?_⟩
  · with_reducible exact Eq.refl _
  go_big_quiet_on
  go_big_quiet_want
  go_big_quiet_op
  apply Exists.intro
  refine ⟨fun _ _ => ?_, ?_⟩
  · with_reducible exact Eq.refl _
  go_big_quiet_on
  go_big_quiet_want
  go_big_quiet_op
  go_big_quiet_on
  refine wpQuiet_nil ?_
  intro w5 hb5
  have B5 := hid (B2.out.trans (hb5.mono B2.out.size))
  clear hb5
  go_wp2
  go_ret
  exact ⟨rfl, B5.out⟩
end Go.Proofs.YtpabhekbkdpkiaaDoor.valueOrders
