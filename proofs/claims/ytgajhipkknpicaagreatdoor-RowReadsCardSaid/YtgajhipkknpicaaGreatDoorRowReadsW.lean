/-
  The walk of RowReads: it answers true; the old memory stays.
-/
import Derived.Test.YtgajhipkknpicaaGreatDoorRowAwake
import Derived.Test.YtgajhipkknpicaaGreatDoorRowFrame
namespace Go.Proofs.YtgajhipkknpicaaGreatDoor.rowReads
open Go.RowKit Go.Proofs.YtgajhipkknpicaaGreatDoor.Va Go.Proofs.YtgajhipkknpicaaGreatDoor.Ro
open Num (hid)
set_option maxRecDepth 100000 in
set_option maxHeartbeats 8000000 in
theorem walk (s : ByteArray) (w : World) (hs : s.size ≤ 140737488351232) (g : Glob w) :
    Calls Tryz.prog 4 #[.string s] w fun e w' => e = .returned (.bool true) ∧ Below w.heap.size w w' := by
  have Hg := hid g
  have D1 := hid (fun w => decode_any s (by omega) w)
  have D2 := hid (fun w => rdecode_any s (by omega) w)
  have P1 := hid (fun w g => Ro.parse_any s (by omega) w g)
  have P2 := hid (fun w => Ro.rparse_any s (by omega) w)
  generalize decR (bl s) = x at *
  generalize parR (bl s) = y at *
  obtain ⟨r, q⟩ := x
  obtain ⟨p, n, m⟩ := y
  clear g hs
  go_enter Tryz.func4, Tryz.ntmps4
  go_wp2_with fail
  refine (awake_any _ Hg.out).mono ?_
  rintro e1 w1 ⟨rfl, hb⟩
  have B := hid hb
  clear hb
  go_wp2_with fail
  refine (D1.out _).mono ?_
  rintro e2 w2 ⟨⟨d, rfl, hd⟩, hb⟩
  have RD := hid hd
  have B := hid (B.out.trans (hb.mono B.out.size))
  clear hb hd
  go_wp2_with fail
  refine (D2.out _).mono ?_
  rintro e2 w3 ⟨⟨d', rfl, hd⟩, hb⟩
  have RD := hid (RD.out.on hb)
  have RD' := hid hd
  have B := hid (B.out.trans (hb.mono B.out.size))
  clear hb hd
  go_wp2_with fail
  refine (P1.out _ (Hg.out.on B.out)).mono ?_
  rintro e2 w4 ⟨⟨c, rfl, hd⟩, hb⟩
  have RD := hid (RD.out.on hb)
  have RD' := hid (RD'.out.on hb)
  have RC := hid hd
  have B := hid (B.out.trans (hb.mono B.out.size))
  clear hb hd
  go_wp2_with fail
  refine (P2.out _).mono ?_
  rintro e2 w5 ⟨⟨c', rfl, hd⟩, hb⟩
  have RD := hid (RD.out.on hb)
  have RD' := hid (RD'.out.on hb)
  have RC := hid (RC.out.on hb)
  have RC' := hid hd
  have B := hid (B.out.trans (hb.mono B.out.size))
  clear hb hd
  go_wp2_with fail
  refine (same_yes _ _ r _ RD.out RD'.out).mono ?_
  rintro e2 w6 ⟨rfl, hb⟩
  have RC := hid (RC.out.on hb)
  have RC' := hid (RC'.out.on hb)
  have B := hid (B.out.trans (hb.mono B.out.size))
  clear hb
  go_wp2_with fail
  refine (same_yes _ _ p _ RC.out RC'.out).mono ?_
  rintro e2 w7 ⟨rfl, hb⟩
  have B := hid (B.out.trans (hb.mono B.out.size))
  clear hb
  go_wp2
  go_ret
  exact ⟨rfl, B.out⟩
end Go.Proofs.YtgajhipkknpicaaGreatDoor.rowReads
