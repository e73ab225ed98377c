/-
  The walk of ValueParses: it answers true; the old memory stays.
-/
import Derived.Test.YtpabhekbkdpkiaaDoorValAwake
import Derived.Test.YtpabhekbkdpkiaaDoorValRefParse
namespace Go.Proofs.YtpabhekbkdpkiaaDoor.valueParses
open Go.RowKit Go.Proofs.YtpabhekbkdpkiaaDoor.Va
open Num (hid)
set_option maxRecDepth 100000 in
set_option maxHeartbeats 4000000 in
theorem walk (s : ByteArray) (hs : s.size ≤ 140737488351232) (w : World) (g : Glob w) :
    Calls Tryd.prog 5 #[.string s] w fun e w' => e = .returned (.bool true) ∧ Below w.heap.size w w' := by
  have h1 := hid (fun w (g : Glob w) => parse_any s (by unfold maxLen; omega) w g)
  have h2 := hid (fun w => rparse_any s (by omega) w)
  generalize parseL (bl s) = u at h1 h2
  obtain ⟨K, N, S, n, e⟩ := u
  have Hg := hid g
  clear g
  go_enter Tryd.func5, Tryd.ntmps5
  go_wp2_with fail
  refine (awake_any _ Hg.out).mono ?_
  rintro e1 w1 ⟨rfl, hb1⟩
  go_wp2_with fail
  refine (h1.out _ (Hg.out.on hb1)).mono ?_
  rintro e2 w2 ⟨rfl, hb2⟩
  have A2 := hid (Bx.new K N (bs S) w2)
  have B2 := hid ((hb1.trans (hb2.mono hb1.size)).alloc (by have := hb1.size; have := hb2.size; omega) (.cells #[.int .i64 K, .int .i64 N, .string (bs S)] 23))
  clear hb1 hb2
  unfold uV
  go_wp2_with fail
  refine (h2.out _).mono ?_
  rintro e3 w3 ⟨rfl, hb3⟩
  have A3 := (A2.out.on hb3).on ((Below.refl _ _).alloc (Nat.le_refl _) (.cells #[.int .i64 K, .int .i64 N, .string (bs S)] 23))
  have U3 := Bx.new K N (bs S) w3
  have B3 := hid ((B2.out.trans (hb3.mono B2.out.size)).alloc (by have := B2.out.size; have := hb3.size; omega) (.cells #[.int .i64 K, .int .i64 N, .string (bs S)] 23))
  clear hb3 A2 B2
  obtain ⟨a0, a1, a2⟩ := A3.cells
  obtain ⟨u0, u1, u2⟩ := U3.cells
  have hza := lt_of_block A3
  clear A3 U3
  unfold uV
  go_wp2
  go_ret
  exact ⟨rfl, B3.out⟩
end Go.Proofs.YtpabhekbkdpkiaaDoor.valueParses
