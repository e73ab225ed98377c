/-
  The walk of RowWrites: it answers true; the old memory stays.
-/
import Derived.Test.YtgajhipkknpicaaGreatDoorRowAwake
import Derived.Test.YtgajhipkknpicaaGreatDoorRowFrame
import Derived.Test.YtgajhipkknpicaaGreatDoorRowRefEnc
import Derived.Test.YtgajhipkknpicaaGreatDoorRowRefShow
import Derived.Test.YtgajhipkknpicaaGreatDoorRowRefCompare
namespace Go.Proofs.YtgajhipkknpicaaGreatDoor.rowWrites
open Go.RowKit Go.Proofs.YtgajhipkknpicaaGreatDoor.Va Go.Proofs.YtgajhipkknpicaaGreatDoor.Ro
open Num (hid)
set_option maxRecDepth 100000 in
set_option maxHeartbeats 8000000 in
theorem walk (v : Value) (l : Vs) (v' : Value) (l' : Vs) (w : World) (ra : RowAt w v l) (wd : Wide l) (fw : Few l) (ra' : RowAt w v' l') (fw' : Few l') (g : Glob w) :
    Calls Tryz.prog 3 #[v, v'] w fun e w' => e = .returned (.bool true) ∧ Below w.heap.size w w' := by
  have Hg := hid g
  have HA := hid ra
  have HB := hid ra'
  have HW := hid wd
  have HT := hid (fun w (h : RowAt w v l) => total_any v l w h (fun x hx => Nat.le_trans (fw.each x hx) (by decide)) (Nat.le_trans fw.len (by decide)))
  have HT' := hid (fun w (h : RowAt w v' l') => total_any v' l' w h (fun x hx => Nat.le_trans (fw'.each x hx) (by decide)) (Nat.le_trans fw'.len (by decide)))
  obtain ⟨ao, cap, hv, -, -⟩ := ra.ways
  obtain ⟨ao', cap', hv', -, -⟩ := ra'.ways
  subst hv hv'
  clear ra ra' wd fw fw' g
  generalize hL : l.length = n at *
  generalize hL' : l'.length = n' at *
  clear hL hL'
  obtain ⟨xe, hxe⟩ : ∃ x, encR l = x := ⟨_, rfl⟩
  obtain ⟨xs, xq⟩ := xe
  obtain ⟨S, hS⟩ : ∃ S, bs xs = S := ⟨_, rfl⟩
  have HE : Hid (∀ w, RowAt w (.slice ao n cap) l → Calls Tryz.prog 10 #[.slice ao n cap] w fun e w' => e = .returned (.tuple #[.string S, .int .i64 xq]) ∧ Below w.heap.size w w') := hid (fun w h => by
    have h := encode_any _ l w h HW.out
    rw [hxe] at h
    unfold eV at h
    simp only at h
    rw [hS] at h
    exact h)
  have HE' : Hid (∀ w, RowAt w (.slice ao n cap) l → Calls Tryz.prog 11 #[.slice ao n cap] w fun e w' => e = .returned (.tuple #[.string S, .int .i64 xq]) ∧ Below w.heap.size w w') := hid (fun w h => by
    have h := rencode_any _ l w h HW.out
    rw [hxe] at h
    unfold eV at h
    simp only at h
    rw [hS] at h
    exact h)
  clear hxe hS
  go_enter Tryz.func3, Tryz.ntmps3
  go_wp2_with fail
  refine (awake_any _ Hg.out).mono ?_
  rintro e1 w1 ⟨rfl, hb⟩
  have B := hid hb
  clear hb
  go_wp2_with fail
  refine (HT.out _ (HA.out.on B.out)).mono ?_
  rintro e2 w2 ⟨⟨t, rfl, ht⟩, rfl⟩
  by_cases ht1 : t ≤ 65536
  · have ht1' : ¬ (65536 : Int) < t := by omega
    go_wp2_with fail
    refine (HT'.out _ (HB.out.on B.out)).mono ?_
    rintro e2 w2 ⟨⟨t', rfl, ht'⟩, rfl⟩
    by_cases ht2 : t' ≤ 65536
    · have ht2' : ¬ (65536 : Int) < t' := by omega
      clear ht1 ht2 ht ht'
      go_wp2_with fail
      refine (HE.out _ (HA.out.on B.out)).mono ?_
      rintro e3 w3 ⟨rfl, hb⟩
      have B := hid (B.out.trans (hb.mono B.out.size))
      clear hb
      go_wp2_with fail
      refine (HE'.out _ (HA.out.on B.out)).mono ?_
      rintro e3 w4 ⟨rfl, hb⟩
      have B := hid (B.out.trans (hb.mono B.out.size))
      clear hb
      go_wp2_with fail
      refine (Ro.good_any _ l _ (HA.out.on B.out)).mono ?_
      rintro e3 w5 ⟨rfl, hb⟩
      have B := hid (B.out.trans (hb.mono B.out.size))
      clear hb
      go_wp2_with fail
      refine (Ro.rgood_any _ l _ (HA.out.on B.out)).mono ?_
      rintro e3 w6 ⟨rfl, hb⟩
      have B := hid (B.out.trans (hb.mono B.out.size))
      clear hb
      go_wp2_with fail
      refine (Ro.compare_any _ _ l l' _ (HA.out.on B.out) (HB.out.on B.out)).mono ?_
      rintro e3 w7 ⟨rfl, hb⟩
      have B := hid (B.out.trans (hb.mono B.out.size))
      clear hb
      go_wp2_with fail
      refine (Ro.rcompare_any _ _ l l' _ (HA.out.on B.out) (HB.out.on B.out)).mono ?_
      rintro e3 w8 ⟨rfl, hb⟩
      have B := hid (B.out.trans (hb.mono B.out.size))
      clear hb
      go_wp2_with fail
      refine (Ro.key_any _ l _ (HA.out.on B.out) HW.out (Hg.out.on B.out)).mono ?_
      rintro e3 w9 ⟨rfl, hb⟩
      have B := hid (B.out.trans (hb.mono B.out.size))
      clear hb
      go_wp2_with fail
      refine (Ro.rkey_any _ l _ (HA.out.on B.out) HW.out).mono ?_
      rintro e3 w10 ⟨rfl, hb⟩
      have B := hid (B.out.trans (hb.mono B.out.size))
      clear hb
      go_wp2_with fail
      refine (Ro.show_any _ l _ (HA.out.on B.out) HW.out (Hg.out.on B.out)).mono ?_
      rintro e3 w11 ⟨rfl, hb⟩
      have B := hid (B.out.trans (hb.mono B.out.size))
      clear hb
      go_wp2_with fail
      refine (Ro.rshow_any _ l _ (HA.out.on B.out) HW.out).mono ?_
      rintro e3 w12 ⟨rfl, hb⟩
      have B := hid (B.out.trans (hb.mono B.out.size))
      clear hb
      go_wp2
      go_ret
      exact ⟨rfl, B.out⟩
    · have ht2' : (65536 : Int) < t' := by omega
      clear ht1 ht2 ht ht'
      go_wp2
      go_ret
      exact ⟨rfl, B.out⟩
  · have ht1' : (65536 : Int) < t := by omega
    clear ht1 ht
    go_wp2
    go_ret
    exact ⟨rfl, B.out⟩
end Go.Proofs.YtgajhipkknpicaaGreatDoor.rowWrites
