/-
  The walk of ValueKeys: it answers true; the old memory stays.
-/
import Derived.Test.YtpabhekbkdpkiaaDoorValAwake
import Derived.Test.YtpabhekbkdpkiaaDoorValLaws
import Derived.Test.YtpabhekbkdpkiaaDoorValRefKey
import Derived.Test.YtpabhekbkdpkiaaDoorValInt
namespace Go.Proofs.YtpabhekbkdpkiaaDoor.valueKeys
open Go.RowKit Go.Proofs.YtpabhekbkdpkiaaDoor.Va
open Num (hid)
abbrev blk (K N : Int) (S : ByteArray) : Obj := .cells #[.int .i64 K, .int .i64 N, .string S] 23
abbrev blt (s t : ByteArray) : Obj := .cells #[.string s, .string t] 33
theorem good_is {K N : Int} {S : ByteArray} (h : goodB K N S = true) : Va.Good K N (bl S) := by unfold goodB at h; simpa using h
theorem cmpS_is {K N : Int} {S : ByteArray} {K' N' : Int} {S' : ByteArray} (h : goodB K N S = true) (h' : goodB K' N' S' = true) : cmpS K N S K' N' S' = cmpV K N (bl S) K' N' (bl S') := cmp_yes h h'
theorem key_bad {K N : Int} {S : ByteArray} (h : goodB K N S = false) : keyS K N S = ⟨#[]⟩ := by
  unfold goodB at h
  unfold keyS keyL
  rw [if_neg (by simpa using h)]
  rfl
/-- The pair's block. -/
def Tx (b : Nat) (s t : ByteArray) (w : World) : Prop := w.heap[b]? = some (.cells #[.string s, .string t] 33 (0, 0))
theorem Tx.on {b : Nat} {s t : ByteArray} {w w' : World} (h : Tx b s t w) (hb : Below w.heap.size w w') : Tx b s t w' := (hb.block _ (lt_of_block h)).trans h
theorem Tx.cells {b : Nat} {s t : ByteArray} {w : World} (h : Tx b s t w) : w.cell? ⟨b, 0, none⟩ = some (.string s) ∧ w.cell? ⟨b, 1, none⟩ = some (.string t) := by
  unfold Tx at h
  simp [World.cell?, h]
theorem third {w : World} (K N K' N' : Int) (S S' s t : ByteArray) : Tx (w.heap.size + 1 + 1) s t (((w.alloc (blk K N S)).alloc (blk K' N' S')).alloc (blt s t)) := by
  have h : Tx _ s t (((w.alloc (blk K N S)).alloc (blk K' N' S')).alloc (blt s t)) := heap_alloc_new _ _
  have e : ((w.alloc (blk K N S)).alloc (blk K' N' S')).heap.size = w.heap.size + 1 + 1 := by simp
  rw [e] at h
  exact h
theorem first3 {w : World} (K N K' N' : Int) (S S' s t : ByteArray) : Bx w.heap.size K N S (((w.alloc (blk K N S)).alloc (blk K' N' S')).alloc (blt s t)) :=
  (Bx.first K N K' N' S S').on ((Below.refl _ _).alloc (Nat.le_refl _) _)
theorem second3 {w : World} (K N K' N' : Int) (S S' s t : ByteArray) : Bx (w.heap.size + 1) K' N' S' (((w.alloc (blk K N S)).alloc (blk K' N' S')).alloc (blt s t)) :=
  (Bx.second K N K' N' S S').on ((Below.refl _ _).alloc (Nat.le_refl _) _)
theorem below3 {w : World} (K N K' N' : Int) (S S' s t : ByteArray) : Below w.heap.size w (((w.alloc (blk K N S)).alloc (blk K' N' S')).alloc (blt s t)) :=
  (Bx.below K N K' N' S S').alloc (by simp <;> omega) _
theorem keyL_length {K N : Int} {S : Bs} : (keyL K N S).length ≤ 4003 := by
  unfold keyL
  split
  · rename_i h
    split
    · simp
    · split
      · simp [Num.fixF_length]
      · have := stuff_length S
        rcases h with ⟨rfl, rfl, rfl⟩ | ⟨rfl, rfl⟩ | ⟨_, rfl, h⟩
        · simp_all
        · simp_all
        · simp
          omega
  · simp
theorem keyS_size (K N : Int) (S : ByteArray) : (keyS K N S).size ≤ 4003 := by
  have := @keyL_length K N (bl S)
  unfold keyS
  rw [bs_size]
  exact this
set_option maxRecDepth 100000 in
set_option maxHeartbeats 8000000 in
theorem walk (K N : Int) (S : ByteArray) (K' N' : Int) (S' : ByteArray) (s t : ByteArray) (hN : InI N) (hN' : InI N') (hs : s.size ≤ 140737488351232) (ht : t.size ≤ 140737488351232) (w : World) (g : Glob w) :
    Calls Tryd.prog 6 #[.agg #[.int .i64 K, .int .i64 N, .string S], .agg #[.int .i64 K', .int .i64 N', .string S'], .agg #[.string s, .string t]] w fun e w' => e = .returned (.bool true) ∧ Below w.heap.size w w' := by
  have Hg := hid g
  have XA0 := hid (first3 (w := w) K N K' N' S S' s t)
  have XB0 := hid (second3 (w := w) K N K' N' S S' s t)
  have XT0 := hid (third (w := w) K N K' N' S S' s t)
  have B0 := hid (below3 (w := w) K N K' N' S S' s t)
  clear g
  have GA := hid (good_any K N S)
  have GB := hid (good_any K' N' S')
  have KA := hid (key_any K N S hN)
  have KB := hid (key_any K' N' S' hN')
  go_enter Tryd.func6, Tryd.ntmps6
  go_wp2_with fail
  refine (awake_any _ (Hg.out.on B0.out)).mono ?_
  rintro e1 w1 ⟨rfl, hb1⟩
  have XA1 := hid (XA0.out.on hb1)
  have XB1 := hid (XB0.out.on hb1)
  have XT1 := hid (XT0.out.on hb1)
  have B1 := hid (B0.out.trans (hb1.mono B0.out.size))
  clear hb1 XA0 XB0 XT0 B0
  obtain ⟨a0, a1, a2⟩ := XA1.out.cells
  obtain ⟨b0, b1, b2⟩ := XB1.out.cells
  go_wp2_with fail
  refine (GA.out _).mono ?_
  rintro e2 w2 ⟨rfl, hb2⟩
  clear a0 a1 a2 b0 b1 b2
  have XA2 := hid (XA1.out.on hb2)
  have XB2 := hid (XB1.out.on hb2)
  have XT2 := hid (XT1.out.on hb2)
  have B2 := hid (B1.out.trans (hb2.mono B1.out.size))
  clear hb2 XA1 XB1 XT1 B1
  cases hga : goodB K N S
  · rw [hga] at GA
    rw [key_bad hga] at KA
    obtain ⟨a0, a1, a2⟩ := XA2.out.cells
    obtain ⟨b0, b1, b2⟩ := XB2.out.cells
    go_wp2_with fail
    refine (GA.out _).mono ?_
    rintro e3 w3 ⟨rfl, hb3⟩
    clear a0 a1 a2 b0 b1 b2
    have XA3 := hid (XA2.out.on hb3)
    have XB3 := hid (XB2.out.on hb3)
    have XT3 := hid (XT2.out.on hb3)
    have B3 := hid (B2.out.trans (hb3.mono B2.out.size))
    clear hb3 XA2 XB2 XT2 B2
    obtain ⟨a0, a1, a2⟩ := XA3.out.cells
    obtain ⟨b0, b1, b2⟩ := XB3.out.cells
    go_wp2_with fail
    refine (KA.out _ (Hg.out.on B3.out)).mono ?_
    rintro e4 w4 ⟨rfl, hb4⟩
    clear a0 a1 a2 b0 b1 b2
    have XA4 := hid (XA3.out.on hb4)
    have XB4 := hid (XB3.out.on hb4)
    have XT4 := hid (XT3.out.on hb4)
    have B4 := hid (B3.out.trans (hb4.mono B3.out.size))
    clear hb4 XA3 XB3 XT3 B3
    obtain ⟨a0, a1, a2⟩ := XA4.out.cells
    obtain ⟨b0, b1, b2⟩ := XB4.out.cells
    go_wp2_with fail
    refine (GB.out _).mono ?_
    rintro e5 w5 ⟨rfl, hb5⟩
    clear a0 a1 a2 b0 b1 b2
    have XA5 := hid (XA4.out.on hb5)
    have XB5 := hid (XB4.out.on hb5)
    have XT5 := hid (XT4.out.on hb5)
    have B5 := hid (B4.out.trans (hb5.mono B4.out.size))
    clear hb5 XA4 XB4 XT4 B4
    cases hgb : goodB K' N' S'
    · rw [key_bad hgb] at KB
      obtain ⟨a0, a1, a2⟩ := XA5.out.cells
      obtain ⟨b0, b1, b2⟩ := XB5.out.cells
      go_wp2_with fail
      refine (KB.out _ (Hg.out.on B5.out)).mono ?_
      rintro e6 w6 ⟨rfl, hb6⟩
      clear a0 a1 a2 b0 b1 b2
      have XA6 := hid (XA5.out.on hb6)
      have XB6 := hid (XB5.out.on hb6)
      have XT6 := hid (XT5.out.on hb6)
      have B6 := hid (B5.out.trans (hb6.mono B5.out.size))
      clear hb6 XA5 XB5 XT5 B5
      go_wp2
      go_ret
      exact ⟨rfl, B6.out⟩
    · go_wp2
      go_ret
      exact ⟨rfl, B5.out⟩
  obtain ⟨a0, a1, a2⟩ := XA2.out.cells
  obtain ⟨b0, b1, b2⟩ := XB2.out.cells
  go_wp2_with fail
  refine (GB.out _).mono ?_
  rintro e3 w3 ⟨rfl, hb3⟩
  clear a0 a1 a2 b0 b1 b2
  have XA3 := hid (XA2.out.on hb3)
  have XB3 := hid (XB2.out.on hb3)
  have XT3 := hid (XT2.out.on hb3)
  have B3 := hid (B2.out.trans (hb3.mono B2.out.size))
  clear hb3 XA2 XB2 XT2 B2
  cases hgb : goodB K' N' S'
  · rw [hga] at GA
    rw [hgb] at GB
    rw [key_bad hgb] at KB
    obtain ⟨a0, a1, a2⟩ := XA3.out.cells
    obtain ⟨b0, b1, b2⟩ := XB3.out.cells
    go_wp2_with fail
    refine (GA.out _).mono ?_
    rintro e4 w4 ⟨rfl, hb4⟩
    clear a0 a1 a2 b0 b1 b2
    have XA4 := hid (XA3.out.on hb4)
    have XB4 := hid (XB3.out.on hb4)
    have XT4 := hid (XT3.out.on hb4)
    have B4 := hid (B3.out.trans (hb4.mono B3.out.size))
    clear hb4 XA3 XB3 XT3 B3
    obtain ⟨a0, a1, a2⟩ := XA4.out.cells
    obtain ⟨b0, b1, b2⟩ := XB4.out.cells
    go_wp2_with fail
    refine (GB.out _).mono ?_
    rintro e5 w5 ⟨rfl, hb5⟩
    clear a0 a1 a2 b0 b1 b2
    have XA5 := hid (XA4.out.on hb5)
    have XB5 := hid (XB4.out.on hb5)
    have XT5 := hid (XT4.out.on hb5)
    have B5 := hid (B4.out.trans (hb5.mono B4.out.size))
    clear hb5 XA4 XB4 XT4 B4
    obtain ⟨a0, a1, a2⟩ := XA5.out.cells
    obtain ⟨b0, b1, b2⟩ := XB5.out.cells
    go_wp2_with fail
    refine (KB.out _ (Hg.out.on B5.out)).mono ?_
    rintro e6 w6 ⟨rfl, hb6⟩
    clear a0 a1 a2 b0 b1 b2
    have XA6 := hid (XA5.out.on hb6)
    have XB6 := hid (XB5.out.on hb6)
    have XT6 := hid (XT5.out.on hb6)
    have B6 := hid (B5.out.trans (hb6.mono B5.out.size))
    clear hb6 XA5 XB5 XT5 B5
    go_wp2
    go_ret
    exact ⟨rfl, B6.out⟩
  obtain ⟨a0, a1, a2⟩ := XA3.out.cells
  obtain ⟨b0, b1, b2⟩ := XB3.out.cells
  go_wp2_with fail
  refine (KA.out _ (Hg.out.on B3.out)).mono ?_
  rintro e4 w4 ⟨rfl, hb4⟩
  clear a0 a1 a2 b0 b1 b2
  have XA4 := hid (XA3.out.on hb4)
  have XB4 := hid (XB3.out.on hb4)
  have XT4 := hid (XT3.out.on hb4)
  have B4 := hid (B3.out.trans (hb4.mono B3.out.size))
  clear hb4 XA3 XB3 XT3 B3
  obtain ⟨a0, a1, a2⟩ := XA4.out.cells
  obtain ⟨b0, b1, b2⟩ := XB4.out.cells
  go_wp2_with fail
  refine (KB.out _ (Hg.out.on B4.out)).mono ?_
  rintro e5 w5 ⟨rfl, hb5⟩
  clear a0 a1 a2 b0 b1 b2
  have XA5 := hid (XA4.out.on hb5)
  have XB5 := hid (XB4.out.on hb5)
  have XT5 := hid (XT4.out.on hb5)
  have B5 := hid (B4.out.trans (hb5.mono B4.out.size))
  clear hb5 XA4 XB4 XT4 B4
  obtain ⟨a0, a1, a2⟩ := XA5.out.cells
  obtain ⟨b0, b1, b2⟩ := XB5.out.cells
  go_wp2_with fail
  refine (compare_any K N S K' N' S' _).mono ?_
  rintro e6 w6 ⟨rfl, hb6⟩
  clear a0 a1 a2 b0 b1 b2
  have XA6 := hid (XA5.out.on hb6)
  have XB6 := hid (XB5.out.on hb6)
  have XT6 := hid (XT5.out.on hb6)
  have B6 := hid (B5.out.trans (hb6.mono B5.out.size))
  clear hb6 XA5 XB5 XT5 B5
  have g1 := good_is hga
  have g2 := good_is hgb
  rw [cmpS_is hga hgb]
  have q := @part_key K N (bl S) K' N' (bl S') g1 g2 hN hN'
  have z0 := cmpV_zero K N (bl S) K' N' (bl S')
  have zw := cmpV_ways K N (bl S) K' N' (bl S')
  have hx := keyS_size K N S
  have hy := keyS_size K' N' S'
  generalize cmpV K N (bl S) K' N' (bl S') = k at q z0 zw ⊢
  have same : bl S = bl S' → S = S' := fun h => ByteArray.ext (Array.toList_inj.1 h)
  by_cases hk0 : k = 0
  · obtain ⟨rfl, rfl, hS⟩ := z0.1 hk0
    have hS' := same hS
    subst hS' hk0
    clear q z0 zw same GA GB KA KB Hg XT6 hx hy
    obtain ⟨a0, a1, a2⟩ := XA6.out.cells
    obtain ⟨b0, b1, b2⟩ := XB6.out.cells
    have ir : Op.bytesLess (keyS K N S).toList (keyS K N S).toList = false := by
      have h := less_pre (keyS K N S).toList [] []
      rw [List.append_nil] at h
      rw [h]
      rfl
    go_wp2
    go_ret
    exact ⟨rfl, B6.out⟩
  · have P := q hk0
    have hne : ¬ (K = K' ∧ N = N' ∧ S = S') := fun ⟨h1, h2, h3⟩ => hk0 (z0.2 ⟨h1, h2, by rw [h3]⟩)
    clear q z0 same
    change Part (bl (keyS K N S)) (bl (keyS K' N' S')) (k < 0) at P
    generalize keyS K N S = x at *
    generalize keyS K' N' S' = y at *
    have e1 : ¬ (K = K' ∧ N = N' ∧ S.data = S'.data) := fun ⟨h1, h2, h3⟩ => hne ⟨h1, h2, ByteArray.ext h3⟩
    have e2 : S.toList = S'.toList ↔ S.data = S'.data := by rw [ByteArray.toList_eq, ByteArray.toList_eq]; exact Array.toList_inj
    have e4 : (k == 0) = false := by simpa using hk0
    have e5 : ¬ x.toList = y.toList := by rw [ByteArray.toList_eq, ByteArray.toList_eq]; exact P.ne
    have e6 : Op.bytesLess x.toList y.toList = decide (k < 0) := by
      rw [ByteArray.toList_eq, ByteArray.toList_eq]
      have h := P.less [] []
      rw [List.append_nil, List.append_nil] at h
      exact h
    have e7 : Op.bytesLess (x ++ s).toList (y ++ t).toList = decide (k < 0) := by
      rw [ByteArray.toList_eq, ByteArray.toList_eq, ByteArray.data_append, ByteArray.data_append, Array.toList_append, Array.toList_append]
      exact P.less (bl s) (bl t)
    have e8 : ¬ (y.extract 0 x.size).toList = x.toList := by
      rw [ByteArray.toList_eq, ByteArray.toList_eq]
      have h := P.no_pre
      rw [bl_len, ← head_list] at h
      exact h
    have e9 : ¬ (x.extract 0 y.size).toList = y.toList := by
      rw [ByteArray.toList_eq, ByteArray.toList_eq]
      have h := P.no_pre'
      rw [bl_len, ← head_list] at h
      exact h
    clear P hne GA GB KA KB Hg g1 g2 hga hgb
    obtain ⟨a0, a1, a2⟩ := XA6.out.cells
    obtain ⟨b0, b1, b2⟩ := XB6.out.cells
    obtain ⟨t0, t1⟩ := XT6.out.cells
    clear XA6 XB6 XT6
    go_wp2
    all_goals clear a0 a1 a2 b0 b1 b2 t0 t1
    all_goals first
      | (exfalso; clear B6; simp_all; done)
      | (go_ret; exact ⟨rfl, B6.out⟩)
end Go.Proofs.YtpabhekbkdpkiaaDoor.valueKeys
