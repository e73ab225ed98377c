/-
  The walk of ValueOrder: it answers true; the old memory stays.
-/
import Derived.Test.YtpabhekbkdpkiaaDoorValAwake
import Derived.Test.YtpabhekbkdpkiaaDoorValLaws
import Derived.Test.YtpabhekbkdpkiaaDoorValRefKey
namespace Go.Proofs.YtpabhekbkdpkiaaDoor.valueOrder
open Go.RowKit Go.Proofs.YtpabhekbkdpkiaaDoor.Va
open Num (hid)
abbrev blk (K N : Int) (S : ByteArray) : Obj := .cells #[.int .i64 K, .int .i64 N, .string S] 23
theorem third {w : World} (K N K' N' L M : Int) (S S' T : ByteArray) : Bx (w.heap.size + 1 + 1) L M T (((w.alloc (blk K N S)).alloc (blk K' N' S')).alloc (blk L M T)) := by
  have h := Bx.new L M T ((w.alloc (blk K N S)).alloc (blk K' N' S'))
  have e : ((w.alloc (blk K N S)).alloc (blk K' N' S')).heap.size = w.heap.size + 1 + 1 := by simp
  rw [e] at h
  exact h
theorem first3 {w : World} (K N K' N' L M : Int) (S S' T : ByteArray) : Bx w.heap.size K N S (((w.alloc (blk K N S)).alloc (blk K' N' S')).alloc (blk L M T)) :=
  (Bx.first K N K' N' S S').on ((Below.refl _ _).alloc (Nat.le_refl _) _)
theorem second3 {w : World} (K N K' N' L M : Int) (S S' T : ByteArray) : Bx (w.heap.size + 1) K' N' S' (((w.alloc (blk K N S)).alloc (blk K' N' S')).alloc (blk L M T)) :=
  (Bx.second K N K' N' S S').on ((Below.refl _ _).alloc (Nat.le_refl _) _)
theorem below3 {w : World} (K N K' N' L M : Int) (S S' T : ByteArray) : Below w.heap.size w (((w.alloc (blk K N S)).alloc (blk K' N' S')).alloc (blk L M T)) :=
  (Bx.below K N K' N' S S').alloc (by simp <;> omega) _

theorem cmpS_is {K N : Int} {S : ByteArray} {K' N' : Int} {S' : ByteArray} (h : goodB K N S = true) (h' : goodB K' N' S' = true) : cmpS K N S K' N' S' = cmpV K N (bl S) K' N' (bl S') := cmp_yes h h'
theorem cmpS_anti (K N : Int) (S : ByteArray) (K' N' : Int) (S' : ByteArray) (h : goodB K N S = true) (h' : goodB K' N' S' = true) : cmpS K N S K' N' S' = -cmpS K' N' S' K N S := by
  rw [cmpS_is h h', cmpS_is h' h]
  exact cmpV_anti _ _ _ _ _ _
theorem cmpS_self (K N : Int) (S : ByteArray) (h : goodB K N S = true) : cmpS K N S K N S = 0 := by
  rw [cmpS_is h h]
  exact cmpV_self _ _ _
theorem cmpS_ways (K N : Int) (S : ByteArray) (K' N' : Int) (S' : ByteArray) (h : goodB K N S = true) (h' : goodB K' N' S' = true) : cmpS K N S K' N' S' = -1 ∨ cmpS K N S K' N' S' = 0 ∨ cmpS K N S K' N' S' = 1 := by
  rw [cmpS_is h h']
  exact cmpV_ways _ _ _ _ _ _
theorem cmpS_trans (K N : Int) (S : ByteArray) (K' N' : Int) (S' : ByteArray) (L M : Int) (T : ByteArray) (h : goodB K N S = true) (h' : goodB K' N' S' = true) (h2 : goodB L M T = true) (l1 : cmpS K N S K' N' S' ≤ 0) (l2 : cmpS K' N' S' L M T ≤ 0) : cmpS K N S L M T ≤ 0 ∧ (cmpS K N S L M T < 0 ↔ (cmpS K N S K' N' S' < 0 ∨ cmpS K' N' S' L M T < 0)) := by
  rw [cmpS_is h h'] at *
  rw [cmpS_is h' h2] at *
  rw [cmpS_is h h2]
  exact cmpV_trans _ _ _ _ _ _ _ _ _ l1 l2
set_option maxRecDepth 100000 in
set_option maxHeartbeats 8000000 in
theorem walk (K N : Int) (S : ByteArray) (K' N' : Int) (S' : ByteArray) (L M : Int) (T : ByteArray) (_ : InI N) (_ : InI N') (_ : InI M) (w : World) (g : Glob w) :
    Calls Tryd.prog 8 #[.agg #[.int .i64 K, .int .i64 N, .string S], .agg #[.int .i64 K', .int .i64 N', .string S'], .agg #[.int .i64 L, .int .i64 M, .string T]] w fun e w' => e = .returned (.bool true) ∧ Below w.heap.size w w' := by
  have Hg := hid g
  have X1 := hid (first3 (w := w) K N K' N' L M S S' T)
  have Y1 := hid (second3 (w := w) K N K' N' L M S S' T)
  have Z1 := hid (third (w := w) K N K' N' L M S S' T)
  have B1 := hid (below3 (w := w) K N K' N' L M S S' T)
  clear g
  go_enter Tryd.func8, Tryd.ntmps8
  go_wp2_with fail
  refine (awake_any _ (Hg.out.on B1.out)).mono ?_
  rintro e1 w1 ⟨rfl, hb1⟩
  have XA1 := hid (X1.out.on hb1)
  have XB1 := hid (Y1.out.on hb1)
  have XC1 := hid (Z1.out.on hb1)
  have B1' := hid (B1.out.trans (hb1.mono B1.out.size))
  have B1 := B1'
  clear B1' hb1 X1 Y1 Z1 Hg
  have GA := hid (good_any K N S)
  have GB := hid (good_any K' N' S')
  have GC := hid (good_any L M T)
  obtain ⟨a0, a1, a2⟩ := XA1.out.cells
  obtain ⟨b0, b1, b2⟩ := XB1.out.cells
  obtain ⟨c0, c1, c2⟩ := XC1.out.cells
  go_wp2_with fail
  refine (GA.out _).mono ?_
  rintro e2 w2 ⟨rfl, hb2⟩
  clear a0 a1 a2 b0 b1 b2 c0 c1 c2
  have XA2 := hid (XA1.out.on hb2)
  have XB2 := hid (XB1.out.on hb2)
  have XC2 := hid (XC1.out.on hb2)
  have B2 := hid (B1.out.trans (hb2.mono B1.out.size))
  clear hb2 XA1 XB1 XC1 B1
  cases hga : goodB K N S
  · go_wp2
    go_ret
    exact ⟨rfl, B2.out⟩
  obtain ⟨a0, a1, a2⟩ := XA2.out.cells
  obtain ⟨b0, b1, b2⟩ := XB2.out.cells
  obtain ⟨c0, c1, c2⟩ := XC2.out.cells
  go_wp2_with fail
  refine (GB.out _).mono ?_
  rintro e3 w3 ⟨rfl, hb3⟩
  clear a0 a1 a2 b0 b1 b2 c0 c1 c2
  have XA3 := hid (XA2.out.on hb3)
  have XB3 := hid (XB2.out.on hb3)
  have XC3 := hid (XC2.out.on hb3)
  have B3 := hid (B2.out.trans (hb3.mono B2.out.size))
  clear hb3 XA2 XB2 XC2 B2
  cases hgb : goodB K' N' S'
  · go_wp2
    go_ret
    exact ⟨rfl, B3.out⟩
  obtain ⟨a0, a1, a2⟩ := XA3.out.cells
  obtain ⟨b0, b1, b2⟩ := XB3.out.cells
  obtain ⟨c0, c1, c2⟩ := XC3.out.cells
  go_wp2_with fail
  refine (GC.out _).mono ?_
  rintro e4 w4 ⟨rfl, hb4⟩
  clear a0 a1 a2 b0 b1 b2 c0 c1 c2
  have XA4 := hid (XA3.out.on hb4)
  have XB4 := hid (XB3.out.on hb4)
  have XC4 := hid (XC3.out.on hb4)
  have B4 := hid (B3.out.trans (hb4.mono B3.out.size))
  clear hb4 XA3 XB3 XC3 B3
  cases hgc : goodB L M T
  · go_wp2
    go_ret
    exact ⟨rfl, B4.out⟩
  obtain ⟨a0, a1, a2⟩ := XA4.out.cells
  obtain ⟨b0, b1, b2⟩ := XB4.out.cells
  obtain ⟨c0, c1, c2⟩ := XC4.out.cells
  go_wp2_with fail
  refine (compare_any K N S K' N' S' _).mono ?_
  rintro e5 w5 ⟨rfl, hb5⟩
  clear a0 a1 a2 b0 b1 b2 c0 c1 c2
  have XA5 := hid (XA4.out.on hb5)
  have XB5 := hid (XB4.out.on hb5)
  have XC5 := hid (XC4.out.on hb5)
  have B5 := hid (B4.out.trans (hb5.mono B4.out.size))
  clear hb5 XA4 XB4 XC4 B4
  obtain ⟨a0, a1, a2⟩ := XA5.out.cells
  obtain ⟨b0, b1, b2⟩ := XB5.out.cells
  obtain ⟨c0, c1, c2⟩ := XC5.out.cells
  go_wp2_with fail
  refine (compare_any K' N' S' L M T _).mono ?_
  rintro e6 w6 ⟨rfl, hb6⟩
  clear a0 a1 a2 b0 b1 b2 c0 c1 c2
  have XA6 := hid (XA5.out.on hb6)
  have XB6 := hid (XB5.out.on hb6)
  have XC6 := hid (XC5.out.on hb6)
  have B6 := hid (B5.out.trans (hb6.mono B5.out.size))
  clear hb6 XA5 XB5 XC5 B5
  obtain ⟨a0, a1, a2⟩ := XA6.out.cells
  obtain ⟨b0, b1, b2⟩ := XB6.out.cells
  obtain ⟨c0, c1, c2⟩ := XC6.out.cells
  go_wp2_with fail
  refine (compare_any K N S L M T _).mono ?_
  rintro e7 w7 ⟨rfl, hb7⟩
  clear a0 a1 a2 b0 b1 b2 c0 c1 c2
  have XA7 := hid (XA6.out.on hb7)
  have XB7 := hid (XB6.out.on hb7)
  have XC7 := hid (XC6.out.on hb7)
  have B7 := hid (B6.out.trans (hb7.mono B6.out.size))
  clear hb7 XA6 XB6 XC6 B6
  obtain ⟨a0, a1, a2⟩ := XA7.out.cells
  obtain ⟨b0, b1, b2⟩ := XB7.out.cells
  obtain ⟨c0, c1, c2⟩ := XC7.out.cells
  go_wp2_with fail
  refine (compare_any K' N' S' K N S _).mono ?_
  rintro e8 w8 ⟨rfl, hb8⟩
  clear a0 a1 a2 b0 b1 b2 c0 c1 c2
  have XA8 := hid (XA7.out.on hb8)
  have XB8 := hid (XB7.out.on hb8)
  have XC8 := hid (XC7.out.on hb8)
  have B8 := hid (B7.out.trans (hb8.mono B7.out.size))
  clear hb8 XA7 XB7 XC7 B7
  have f1 := cmpS_anti K N S K' N' S' hga hgb
  have f2 := cmpS_self K N S hga
  have f3 := fun h1 h2 => cmpS_trans K N S K' N' S' L M T hga hgb hgc h1 h2
  have f4 := cmpS_ways K' N' S' K N S hgb hga
  obtain ⟨a0, a1, a2⟩ := XA8.out.cells
  obtain ⟨b0, b1, b2⟩ := XB8.out.cells
  obtain ⟨c0, c1, c2⟩ := XC8.out.cells
  go_wp2_with fail
  refine (compare_any K N S K N S _).mono ?_
  rintro e9 w9 ⟨rfl, hb9⟩
  clear a0 a1 a2 b0 b1 b2 c0 c1 c2
  have XA9 := hid (XA8.out.on hb9)
  have XB9 := hid (XB8.out.on hb9)
  have XC9 := hid (XC8.out.on hb9)
  have B9 := hid (B8.out.trans (hb9.mono B8.out.size))
  clear hb9 XA8 XB8 XC8 B8
  generalize cmpS K N S K' N' S' = x at *
  generalize cmpS K' N' S' L M T = y at *
  generalize cmpS K N S L M T = z at *
  generalize cmpS K' N' S' K N S = u at *
  rw [f2]
  go_wp2
  all_goals (go_ret; refine ⟨?_, B9.out⟩; congr 2; skip)
end Go.Proofs.YtpabhekbkdpkiaaDoor.valueOrder
