/-
  The walk of ValueBack: it answers true; the old memory stays.
-/
import Derived.Test.YtpabhekbkdpkiaaDoorValAwake
import Derived.Test.YtpabhekbkdpkiaaDoorValLaws
import Derived.Test.YtpabhekbkdpkiaaDoorValShow
namespace Go.Proofs.YtpabhekbkdpkiaaDoor.valueBack
open Go.RowKit Go.Proofs.YtpabhekbkdpkiaaDoor.Va
open Num (hid)
theorem good_is {K N : Int} {S : ByteArray} (h : goodB K N S = true) : Va.Good K N (bl S) := by unfold goodB at h; simpa using h
theorem good_bs {K N : Int} {S : Bs} (h : Va.Good K N S) : goodB K N (bs S) = true := by unfold goodB; rw [bl_bs]; simpa using h
theorem bl_app (a b : ByteArray) : bl (a ++ b) = bl a ++ bl b := by
  show (a ++ b).data.toList = _
  rw [ByteArray.data_append, Array.toList_append]
theorem keyL_length {K N : Int} {S : Bs} : (keyL K N S).length ≤ 4003 := by
  unfold keyL
  split
  · rename_i h
    split
    · simp
    · split
      · simp [Num.fixF_length]
      · have := stuff_length S
        rcases h with ⟨rfl, rfl, rfl⟩ | ⟨rfl, rfl⟩ | ⟨_, rfl, h⟩
        · simp_all
        · simp_all
        · simp
          omega
  · simp
theorem showL_length {K N : Int} {S : Bs} (hN : InI N) : (showL K N S).length ≤ 6003 := by
  unfold showL
  split
  · rename_i h
    split
    · decide
    · split
      · have := itoa_le hN
        omega
      · have := showS_length S
        have ho : (openL K).length ≤ 2 := by unfold openL; split <;> simp
        rcases h with ⟨rfl, rfl, rfl⟩ | ⟨rfl, rfl⟩ | ⟨_, rfl, h⟩
        · simp_all
        · simp_all
        · simp only [List.length_append, List.length_cons, List.length_nil]
          omega
  · simp
theorem keyS_size (K N : Int) (S : ByteArray) : (keyS K N S).size ≤ 4003 := by
  have := @keyL_length K N (bl S)
  unfold keyS
  rw [bs_size]
  exact this
theorem showT_size {K N : Int} (S : ByteArray) (hN : InI N) : (showT K N S).size ≤ 6003 := by
  have := @showL_length K N (bl S) hN
  unfold showT
  rw [bs_size]
  exact this
theorem take_is {l : Bs} {s : ByteArray} {n : Nat} (h : l = (bl s).take n) : bs l = s.extract 0 n := by
  rw [h, ← head_list]
  exact bs_bl _
theorem uV_key {K N : Int} {S : ByteArray} (h : goodB K N S = true) (hN : InI N) (s : ByteArray) : unkeyL (bl (keyS K N S ++ s)) = ⟨K, N, bl S, (keyS K N S).size, 0⟩ := by
  have e := unkey_key (good_is h) hN (bl s)
  rw [bl_app]
  unfold keyS
  rw [bs_size, bl_bs]
  exact e
theorem uV_show {K N : Int} {S : ByteArray} (h : goodB K N S = true) (hN : InI N) (s : ByteArray) : parseL (bl (showT K N S ++ ⟨#[41]⟩ ++ s)) = ⟨K, N, bl S, (showT K N S).size, 0⟩ := by
  have e := parse_show (good_is h) hN (bl s)
  rw [bl_app, bl_app]
  unfold showT
  rw [bs_size, bl_bs, List.append_assoc]
  exact e
/-- What Unkey, or Parse, answers. -/
def Fine (f : Int → Int → Bs → Bs) (s : ByteArray) (u : Un) : Prop :=
  (u.e = 0 → 1 ≤ u.n ∧ u.n ≤ s.size ∧ InI u.N ∧ goodB u.K u.N (bs u.S) = true ∧ bs (f u.K u.N u.S) = s.extract 0 u.n) ∧ (u.e ≠ 0 → u.Bare)
theorem fine_key (s : ByteArray) : Fine keyL s (unkeyL (bl s)) := by
  refine ⟨fun h => ?_, unkey_bare _⟩
  obtain ⟨h1, h2, h3, h4, h5⟩ := unkey_back _ h
  exact ⟨h1, by rwa [bl_len] at h2, h3, good_bs h4, take_is h5⟩
theorem fine_show (s : ByteArray) : Fine showL s (parseL (bl s)) := by
  refine ⟨fun h => ?_, parse_bare _⟩
  obtain ⟨h1, h2, h3, h4, h5⟩ := parse_back _ h
  exact ⟨h1, by rwa [bl_len] at h2, h3, good_bs h4, take_is h5⟩
set_option maxRecDepth 100000 in
set_option maxHeartbeats 16000000 in
theorem walk (K N : Int) (S : ByteArray) (s : ByteArray) (hN : InI N) (hs : s.size ≤ 140737488351232) (w : World) (g : Glob w) :
    Calls Tryd.prog 7 #[.agg #[.int .i64 K, .int .i64 N, .string S], .string s] w fun e w' => e = .returned (.bool true) ∧ Below w.heap.size w w' := by
  have U := hid (fun w => unkey_any s (by unfold maxLen; omega) w)
  have P := hid (fun w (g : Glob w) => parse_any s (by unfold maxLen; omega) w g)
  have fu := fine_key s
  have fp := fine_show s
  generalize unkeyL (bl s) = u at U fu
  generalize parseL (bl s) = p at P fp
  obtain ⟨uK, uN, uS, un, ue⟩ := u
  obtain ⟨pK, pN, pS, pn, pe⟩ := p
  have Hg := hid g
  have XA0 := hid (Bx.new K N S w)
  have B0 := hid ((Below.refl w.heap.size w).alloc (Nat.le_refl _) (.cells #[.int .i64 K, .int .i64 N, .string S] 23))
  clear g
  have GA := hid (good_any K N S)
  go_enter Tryd.func7, Tryd.ntmps7
  go_wp2_with fail
  refine (awake_any _ (Hg.out.on B0.out)).mono ?_
  rintro e1 w1 ⟨rfl, hb1⟩
  have XA1 := hid (XA0.out.on hb1)
  have B1 := hid (B0.out.trans (hb1.mono B0.out.size))
  clear hb1 B0 XA0
  obtain ⟨a0, a1, a2⟩ := XA1.out.cells
  go_wp2_with fail
  refine (GA.out _).mono ?_
  rintro e2 w2 ⟨rfl, hb2⟩
  clear a0 a1 a2
  have XA2 := hid (XA1.out.on hb2)
  have B2 := hid (B1.out.trans (hb2.mono B1.out.size))
  clear hb2 B1 XA1
  cases hga : goodB K N S
  · clear XA2 GA hga
    go_wp2_with fail
    refine (U.out _).mono ?_
    rintro e3 w3 ⟨rfl, hb3⟩
    have B3 := hid (B2.out.trans (hb3.mono B2.out.size))
    clear hb3 B2 
    have XD3 := hid (Bx.new uK uN (bs uS) w3)
    have hw3 := B3.out.size
    replace B3 := hid (B3.out.alloc (by omega) (.cells #[.int .i64 uK, .int .i64 uN, .string (bs uS)] 23))
    unfold uV
    by_cases hue : ue = 0
    · subst hue
      obtain ⟨n1, n2, n3, n4, n5⟩ := fu.1 rfl
      have KC := key_any uK uN (bs uS) n3
      have KD := good_any uK uN (bs uS)
      rw [n4] at KD
      rw [show keyS uK uN (bs uS) = s.extract 0 un from n5] at KC
      replace KC := hid KC
      replace KD := hid KD
      simp only at n1 n2
      go_wp2_with fail
      generalize w3.alloc (.cells #[.int .i64 uK, .int .i64 uN, .string (bs uS)] 23) = z3 at *
      refine wp_quiet_in (fun wx => Below (z3).heap.size (z3) wx) (by kernel_rfl) (by kernel_rfl) (Below.refl _ _).drew ?_
      go_big_quiet_want
      go_big_quiet_op
      go_big_quiet_on
      go_big_quiet_want
      go_big_quiet_op
      refine ⟨.bool true, fun wx hx => ?_, ?_⟩
      · simp [go_sem]
      go_big_quiet_on
      go_big_quiet_want
      go_big_quiet_op
      go_big_quiet_on
      go_big_quiet_want
      go_big_quiet_op
      go_big_quiet_on
      go_big_quiet_want
      go_big_quiet_op
      refine ⟨.bool false, fun wx hx => ?_, ?_⟩
      · simp [go_sem] <;> omega
      go_big_quiet_on
      go_big_quiet_want
      go_big_quiet_op
      go_big_quiet_on
      go_big_quiet_want
      go_big_quiet_op
      go_big_quiet_on
      go_big_quiet_want
      go_big_quiet_op
      go_big_quiet_on
      go_big_quiet_want
      go_big_quiet_op
      refine ⟨.int .i64 s.size, fun wx hx => ?_, ?_⟩
      · simp [go_sem]
      go_big_quiet_on
      go_big_quiet_want
      go_big_quiet_op
      refine ⟨.bool false, fun wx hx => ?_, ?_⟩
      · simp [go_sem] <;> omega
      go_big_quiet_on
      go_big_quiet_want
      go_big_quiet_op
      refine ⟨.bool false, fun wx hx => ?_, ?_⟩
      · simp [go_sem]
      go_big_quiet_on
      go_big_quiet_want
      go_big_quiet_op
      go_big_quiet_on
      go_big_quiet_want
      go_big_quiet_op
      refine ⟨.agg #[.int .i64 uK, .int .i64 uN, .string (bs uS)], fun wx hx => ?_, ?_⟩
      · obtain ⟨c0, c1, c2⟩ := (XD3.out.on hx).cells
        simp [go_sem, c0, c1, c2]
      go_big_quiet_on
      go_big_quiet_want
      go_big_quiet_op
      refine ⟨.string (s.extract 0 un), fun wx hx => ?_, ?_⟩
      · refine (KC.out _ ((Hg.out.on B3.out).on hx)).mono ?_
        rintro e w3 ⟨rfl, hb3⟩
        exact ⟨rfl, hx.trans (hb3.mono hx.size)⟩
      go_big_quiet_on
      go_big_quiet_want
      go_big_quiet_op
      go_big_quiet_on
      go_big_quiet_want
      go_big_quiet_op
      go_big_quiet_on
      go_big_quiet_want
      go_big_quiet_op
      refine ⟨.string (s.extract 0 un), fun wx hx => ?_, ?_⟩
      · simp [go_sem] <;> omega
      go_big_quiet_on
      go_big_quiet_want
      go_big_quiet_op
      refine ⟨.bool false, fun wx hx => ?_, ?_⟩
      · simp [go_sem]
      go_big_quiet_on
      go_big_quiet_want
      go_big_quiet_op
      refine ⟨.bool false, fun wx hx => ?_, ?_⟩
      · simp [go_sem]
      go_big_quiet_on
      go_big_quiet_want
      go_big_quiet_op
      go_big_quiet_on
      go_big_quiet_want
      go_big_quiet_op
      refine ⟨.agg #[.int .i64 uK, .int .i64 uN, .string (bs uS)], fun wx hx => ?_, ?_⟩
      · obtain ⟨c0, c1, c2⟩ := (XD3.out.on hx).cells
        simp [go_sem, c0, c1, c2]
      go_big_quiet_on
      go_big_quiet_want
      go_big_quiet_op
      refine ⟨.bool true, fun wx hx => ?_, ?_⟩
      · refine (KD.out _).mono ?_
        rintro e w3 ⟨rfl, hb3⟩
        exact ⟨rfl, hx.trans (hb3.mono hx.size)⟩
      go_big_quiet_on
      go_big_quiet_want
      go_big_quiet_op
      refine ⟨.bool false, fun wx hx => ?_, ?_⟩
      · simp [go_sem]
      go_big_quiet_on
      go_big_quiet_want
      go_big_quiet_op
      refine ⟨.bool false, fun wx hx => ?_, ?_⟩
      · simp [go_sem]
      go_big_quiet_on
      go_big_quiet_want
      go_big_quiet_op
      refine ⟨.bool false, fun wx hx => ?_, ?_⟩
      · simp [go_sem]
      go_big_quiet_on
      refine wpQuiet_nil ?_
      intro w4 hb4
      have XD4 := hid (XD3.out.on hb4)
      have B4 := hid (B3.out.trans (hb4.mono B3.out.size))
      clear hb4 B3 XD3
      obtain ⟨d0, d1, d2⟩ := XD4.out.cells
      go_wp2_with fail
      refine (P.out _ (Hg.out.on B4.out)).mono ?_
      rintro e5 w5 ⟨rfl, hb5⟩
      clear d0 d1 d2
      have XD5 := hid (XD4.out.on hb5)
      have B5 := hid (B4.out.trans (hb5.mono B4.out.size))
      clear hb5 B4 XD4
      replace XD5 := hid (XD5.out.on ((Below.refl _ _).alloc (Nat.le_refl _) (.cells #[.int .i64 pK, .int .i64 pN, .string (bs pS)] 23)))
      have XE5 := hid (Bx.new pK pN (bs pS) w5)
      have hw5 := B5.out.size
      replace B5 := hid (B5.out.alloc (by omega) (.cells #[.int .i64 pK, .int .i64 pN, .string (bs pS)] 23))
      unfold uV
      by_cases hpe : pe = 0
      · subst hpe
        obtain ⟨m1, m2, m3, m4, m5⟩ := fp.1 rfl
        have KE := show_any pK pN (bs pS) m3
        have KF := good_any pK pN (bs pS)
        rw [m4] at KF
        rw [show showT pK pN (bs pS) = s.extract 0 pn from m5] at KE
        replace KE := hid KE
        replace KF := hid KF
        simp only at m1 m2
        go_wp2_with fail
        generalize w5.alloc (.cells #[.int .i64 pK, .int .i64 pN, .string (bs pS)] 23) = z5 at *
        refine wp_quiet_in (fun wx => Below (z5).heap.size (z5) wx) (by kernel_rfl) (by kernel_rfl) (Below.refl _ _).drew ?_
        go_big_quiet_want
        go_big_quiet_op
        go_big_quiet_on
        go_big_quiet_want
        go_big_quiet_op
        refine ⟨.bool true, fun wx hx => ?_, ?_⟩
        · simp [go_sem]
        go_big_quiet_on
        go_big_quiet_want
        go_big_quiet_op
        go_big_quiet_on
        go_big_quiet_want
        go_big_quiet_op
        go_big_quiet_on
        go_big_quiet_want
        go_big_quiet_op
        refine ⟨.bool false, fun wx hx => ?_, ?_⟩
        · simp [go_sem] <;> omega
        go_big_quiet_on
        go_big_quiet_want
        go_big_quiet_op
        go_big_quiet_on
        go_big_quiet_want
        go_big_quiet_op
        go_big_quiet_on
        go_big_quiet_want
        go_big_quiet_op
        go_big_quiet_on
        go_big_quiet_want
        go_big_quiet_op
        refine ⟨.int .i64 s.size, fun wx hx => ?_, ?_⟩
        · simp [go_sem]
        go_big_quiet_on
        go_big_quiet_want
        go_big_quiet_op
        refine ⟨.bool false, fun wx hx => ?_, ?_⟩
        · simp [go_sem] <;> omega
        go_big_quiet_on
        go_big_quiet_want
        go_big_quiet_op
        refine ⟨.bool false, fun wx hx => ?_, ?_⟩
        · simp [go_sem]
        go_big_quiet_on
        go_big_quiet_want
        go_big_quiet_op
        go_big_quiet_on
        go_big_quiet_want
        go_big_quiet_op
        refine ⟨.agg #[.int .i64 pK, .int .i64 pN, .string (bs pS)], fun wx hx => ?_, ?_⟩
        · obtain ⟨c0, c1, c2⟩ := (XE5.out.on hx).cells
          simp [go_sem, c0, c1, c2]
        go_big_quiet_on
        go_big_quiet_want
        go_big_quiet_op
        refine ⟨.string (s.extract 0 pn), fun wx hx => ?_, ?_⟩
        · refine (KE.out _ ((Hg.out.on B5.out).on hx)).mono ?_
          rintro e w3 ⟨rfl, hb3⟩
          exact ⟨rfl, hx.trans (hb3.mono hx.size)⟩
        go_big_quiet_on
        go_big_quiet_want
        go_big_quiet_op
        go_big_quiet_on
        go_big_quiet_want
        go_big_quiet_op
        go_big_quiet_on
        go_big_quiet_want
        go_big_quiet_op
        refine ⟨.string (s.extract 0 pn), fun wx hx => ?_, ?_⟩
        · simp [go_sem] <;> omega
        go_big_quiet_on
        go_big_quiet_want
        go_big_quiet_op
        refine ⟨.bool false, fun wx hx => ?_, ?_⟩
        · simp [go_sem]
        go_big_quiet_on
        go_big_quiet_want
        go_big_quiet_op
        refine ⟨.bool false, fun wx hx => ?_, ?_⟩
        · simp [go_sem]
        go_big_quiet_on
        go_big_quiet_want
        go_big_quiet_op
        go_big_quiet_on
        go_big_quiet_want
        go_big_quiet_op
        refine ⟨.agg #[.int .i64 pK, .int .i64 pN, .string (bs pS)], fun wx hx => ?_, ?_⟩
        · obtain ⟨c0, c1, c2⟩ := (XE5.out.on hx).cells
          simp [go_sem, c0, c1, c2]
        go_big_quiet_on
        go_big_quiet_want
        go_big_quiet_op
        refine ⟨.bool true, fun wx hx => ?_, ?_⟩
        · refine (KF.out _).mono ?_
          rintro e w3 ⟨rfl, hb3⟩
          exact ⟨rfl, hx.trans (hb3.mono hx.size)⟩
        go_big_quiet_on
        go_big_quiet_want
        go_big_quiet_op
        refine ⟨.bool false, fun wx hx => ?_, ?_⟩
        · simp [go_sem]
        go_big_quiet_on
        go_big_quiet_want
        go_big_quiet_op
        refine ⟨.bool false, fun wx hx => ?_, ?_⟩
        · simp [go_sem]
        go_big_quiet_on
        go_big_quiet_want
        go_big_quiet_op
        refine ⟨.bool false, fun wx hx => ?_, ?_⟩
        · simp [go_sem]
        go_big_quiet_on
        refine wpQuiet_nil ?_
        intro w6 hb6
        have XD6 := hid (XD5.out.on hb6)
        have XE6 := hid (XE5.out.on hb6)
        have B6 := hid (B5.out.trans (hb6.mono B5.out.size))
        clear hb6 B5 XD5 XE5
        obtain ⟨d0, d1, d2⟩ := XD6.out.cells
        obtain ⟨f0, f1, f2⟩ := XE6.out.cells
        go_wp2
        go_ret
        exact ⟨rfl, B6.out⟩
      · obtain ⟨rfl, rfl, rfl, rfl⟩ := fp.2 hpe
        rw [show bs [] = (⟨#[]⟩ : ByteArray) from rfl] at *
        have hpe' : (pe == 0) = false := by simpa using hpe
        go_wp2_with fail
        generalize w5.alloc (.cells #[.int .i64 0, .int .i64 0, .string ⟨#[]⟩] 23) = z5 at *
        refine wp_quiet_in (fun wx => Below (z5).heap.size (z5) wx) (by kernel_rfl) (by kernel_rfl) (Below.refl _ _).drew ?_
        go_big_quiet_want
        go_big_quiet_op
        go_big_quiet_on
        go_big_quiet_want
        go_big_quiet_op
        refine ⟨.bool false, fun wx hx => ?_, ?_⟩
        · simp [go_sem]
        go_big_quiet_on
        go_big_quiet_want
        go_big_quiet_op
        go_big_quiet_on
        go_big_quiet_skip
        go_big_quiet_skip
        go_big_quiet_skip
        go_big_quiet_skip
        go_big_quiet_skip
        go_big_quiet_skip
        go_big_quiet_skip
        go_big_quiet_skip
        go_big_quiet_skip
        go_big_quiet_skip
        go_big_quiet_skip
        go_big_quiet_skip
        go_big_quiet_skip
        go_big_quiet_skip
        go_big_quiet_skip
        go_big_quiet_skip
        go_big_quiet_skip
        go_big_quiet_skip
        go_big_quiet_skip
        go_big_quiet_skip
        go_big_quiet_skip
        go_big_quiet_want
        go_big_quiet_op
        refine ⟨.bool false, fun wx hx => ?_, ?_⟩
        · simp [go_sem]
        go_big_quiet_on
        refine wpQuiet_nil ?_
        intro w6 hb6
        have XD6 := hid (XD5.out.on hb6)
        have XE6 := hid (XE5.out.on hb6)
        have B6 := hid (B5.out.trans (hb6.mono B5.out.size))
        clear hb6 B5 XD5 XE5
        obtain ⟨d0, d1, d2⟩ := XD6.out.cells
        obtain ⟨f0, f1, f2⟩ := XE6.out.cells
        go_wp2
        go_ret
        exact ⟨rfl, B6.out⟩
    · obtain ⟨rfl, rfl, rfl, rfl⟩ := fu.2 hue
      rw [show bs [] = (⟨#[]⟩ : ByteArray) from rfl] at *
      have hue' : (ue == 0) = false := by simpa using hue
      go_wp2_with fail
      generalize w3.alloc (.cells #[.int .i64 0, .int .i64 0, .string ⟨#[]⟩] 23) = z3 at *
      refine wp_quiet_in (fun wx => Below (z3).heap.size (z3) wx) (by kernel_rfl) (by kernel_rfl) (Below.refl _ _).drew ?_
      go_big_quiet_want
      go_big_quiet_op
      go_big_quiet_on
      go_big_quiet_want
      go_big_quiet_op
      refine ⟨.bool false, fun wx hx => ?_, ?_⟩
      · simp [go_sem]
      go_big_quiet_on
      go_big_quiet_want
      go_big_quiet_op
      go_big_quiet_on
      go_big_quiet_skip
      go_big_quiet_skip
      go_big_quiet_skip
      go_big_quiet_skip
      go_big_quiet_skip
      go_big_quiet_skip
      go_big_quiet_skip
      go_big_quiet_skip
      go_big_quiet_skip
      go_big_quiet_skip
      go_big_quiet_skip
      go_big_quiet_skip
      go_big_quiet_skip
      go_big_quiet_skip
      go_big_quiet_skip
      go_big_quiet_skip
      go_big_quiet_skip
      go_big_quiet_skip
      go_big_quiet_skip
      go_big_quiet_skip
      go_big_quiet_skip
      go_big_quiet_want
      go_big_quiet_op
      refine ⟨.bool false, fun wx hx => ?_, ?_⟩
      · simp [go_sem]
      go_big_quiet_on
      refine wpQuiet_nil ?_
      intro w4 hb4
      have XD4 := hid (XD3.out.on hb4)
      have B4 := hid (B3.out.trans (hb4.mono B3.out.size))
      clear hb4 B3 XD3
      obtain ⟨d0, d1, d2⟩ := XD4.out.cells
      go_wp2_with fail
      refine (P.out _ (Hg.out.on B4.out)).mono ?_
      rintro e5 w5 ⟨rfl, hb5⟩
      clear d0 d1 d2
      have XD5 := hid (XD4.out.on hb5)
      have B5 := hid (B4.out.trans (hb5.mono B4.out.size))
      clear hb5 B4 XD4
      replace XD5 := hid (XD5.out.on ((Below.refl _ _).alloc (Nat.le_refl _) (.cells #[.int .i64 pK, .int .i64 pN, .string (bs pS)] 23)))
      have XE5 := hid (Bx.new pK pN (bs pS) w5)
      have hw5 := B5.out.size
      replace B5 := hid (B5.out.alloc (by omega) (.cells #[.int .i64 pK, .int .i64 pN, .string (bs pS)] 23))
      unfold uV
      by_cases hpe : pe = 0
      · subst hpe
        obtain ⟨m1, m2, m3, m4, m5⟩ := fp.1 rfl
        have KE := show_any pK pN (bs pS) m3
        have KF := good_any pK pN (bs pS)
        rw [m4] at KF
        rw [show showT pK pN (bs pS) = s.extract 0 pn from m5] at KE
        replace KE := hid KE
        replace KF := hid KF
        simp only at m1 m2
        go_wp2_with fail
        generalize w5.alloc (.cells #[.int .i64 pK, .int .i64 pN, .string (bs pS)] 23) = z5 at *
        refine wp_quiet_in (fun wx => Below (z5).heap.size (z5) wx) (by kernel_rfl) (by kernel_rfl) (Below.refl _ _).drew ?_
        go_big_quiet_want
        go_big_quiet_op
        go_big_quiet_on
        go_big_quiet_want
        go_big_quiet_op
        refine ⟨.bool true, fun wx hx => ?_, ?_⟩
        · simp [go_sem]
        go_big_quiet_on
        go_big_quiet_want
        go_big_quiet_op
        go_big_quiet_on
        go_big_quiet_want
        go_big_quiet_op
        go_big_quiet_on
        go_big_quiet_want
        go_big_quiet_op
        refine ⟨.bool false, fun wx hx => ?_, ?_⟩
        · simp [go_sem] <;> omega
        go_big_quiet_on
        go_big_quiet_want
        go_big_quiet_op
        go_big_quiet_on
        go_big_quiet_want
        go_big_quiet_op
        go_big_quiet_on
        go_big_quiet_want
        go_big_quiet_op
        go_big_quiet_on
        go_big_quiet_want
        go_big_quiet_op
        refine ⟨.int .i64 s.size, fun wx hx => ?_, ?_⟩
        · simp [go_sem]
        go_big_quiet_on
        go_big_quiet_want
        go_big_quiet_op
        refine ⟨.bool false, fun wx hx => ?_, ?_⟩
        · simp [go_sem] <;> omega
        go_big_quiet_on
        go_big_quiet_want
        go_big_quiet_op
        refine ⟨.bool false, fun wx hx => ?_, ?_⟩
        · simp [go_sem]
        go_big_quiet_on
        go_big_quiet_want
        go_big_quiet_op
        go_big_quiet_on
        go_big_quiet_want
        go_big_quiet_op
        refine ⟨.agg #[.int .i64 pK, .int .i64 pN, .string (bs pS)], fun wx hx => ?_, ?_⟩
        · obtain ⟨c0, c1, c2⟩ := (XE5.out.on hx).cells
          simp [go_sem, c0, c1, c2]
        go_big_quiet_on
        go_big_quiet_want
        go_big_quiet_op
        refine ⟨.string (s.extract 0 pn), fun wx hx => ?_, ?_⟩
        · refine (KE.out _ ((Hg.out.on B5.out).on hx)).mono ?_
          rintro e w3 ⟨rfl, hb3⟩
          exact ⟨rfl, hx.trans (hb3.mono hx.size)⟩
        go_big_quiet_on
        go_big_quiet_want
        go_big_quiet_op
        go_big_quiet_on
        go_big_quiet_want
        go_big_quiet_op
        go_big_quiet_on
        go_big_quiet_want
        go_big_quiet_op
        refine ⟨.string (s.extract 0 pn), fun wx hx => ?_, ?_⟩
        · simp [go_sem] <;> omega
        go_big_quiet_on
        go_big_quiet_want
        go_big_quiet_op
        refine ⟨.bool false, fun wx hx => ?_, ?_⟩
        · simp [go_sem]
        go_big_quiet_on
        go_big_quiet_want
        go_big_quiet_op
        refine ⟨.bool false, fun wx hx => ?_, ?_⟩
        · simp [go_sem]
        go_big_quiet_on
        go_big_quiet_want
        go_big_quiet_op
        go_big_quiet_on
        go_big_quiet_want
        go_big_quiet_op
        refine ⟨.agg #[.int .i64 pK, .int .i64 pN, .string (bs pS)], fun wx hx => ?_, ?_⟩
        · obtain ⟨c0, c1, c2⟩ := (XE5.out.on hx).cells
          simp [go_sem, c0, c1, c2]
        go_big_quiet_on
        go_big_quiet_want
        go_big_quiet_op
        refine ⟨.bool true, fun wx hx => ?_, ?_⟩
        · refine (KF.out _).mono ?_
          rintro e w3 ⟨rfl, hb3⟩
          exact ⟨rfl, hx.trans (hb3.mono hx.size)⟩
        go_big_quiet_on
        go_big_quiet_want
        go_big_quiet_op
        refine ⟨.bool false, fun wx hx => ?_, ?_⟩
        · simp [go_sem]
        go_big_quiet_on
        go_big_quiet_want
        go_big_quiet_op
        refine ⟨.bool false, fun wx hx => ?_, ?_⟩
        · simp [go_sem]
        go_big_quiet_on
        go_big_quiet_want
        go_big_quiet_op
        refine ⟨.bool false, fun wx hx => ?_, ?_⟩
        · simp [go_sem]
        go_big_quiet_on
        refine wpQuiet_nil ?_
        intro w6 hb6
        have XD6 := hid (XD5.out.on hb6)
        have XE6 := hid (XE5.out.on hb6)
        have B6 := hid (B5.out.trans (hb6.mono B5.out.size))
        clear hb6 B5 XD5 XE5
        obtain ⟨d0, d1, d2⟩ := XD6.out.cells
        obtain ⟨f0, f1, f2⟩ := XE6.out.cells
        go_wp2
        go_ret
        exact ⟨rfl, B6.out⟩
      · obtain ⟨rfl, rfl, rfl, rfl⟩ := fp.2 hpe
        rw [show bs [] = (⟨#[]⟩ : ByteArray) from rfl] at *
        have hpe' : (pe == 0) = false := by simpa using hpe
        go_wp2_with fail
        generalize w5.alloc (.cells #[.int .i64 0, .int .i64 0, .string ⟨#[]⟩] 23) = z5 at *
        refine wp_quiet_in (fun wx => Below (z5).heap.size (z5) wx) (by kernel_rfl) (by kernel_rfl) (Below.refl _ _).drew ?_
        go_big_quiet_want
        go_big_quiet_op
        go_big_quiet_on
        go_big_quiet_want
        go_big_quiet_op
        refine ⟨.bool false, fun wx hx => ?_, ?_⟩
        · simp [go_sem]
        go_big_quiet_on
        go_big_quiet_want
        go_big_quiet_op
        go_big_quiet_on
        go_big_quiet_skip
        go_big_quiet_skip
        go_big_quiet_skip
        go_big_quiet_skip
        go_big_quiet_skip
        go_big_quiet_skip
        go_big_quiet_skip
        go_big_quiet_skip
        go_big_quiet_skip
        go_big_quiet_skip
        go_big_quiet_skip
        go_big_quiet_skip
        go_big_quiet_skip
        go_big_quiet_skip
        go_big_quiet_skip
        go_big_quiet_skip
        go_big_quiet_skip
        go_big_quiet_skip
        go_big_quiet_skip
        go_big_quiet_skip
        go_big_quiet_skip
        go_big_quiet_want
        go_big_quiet_op
        refine ⟨.bool false, fun wx hx => ?_, ?_⟩
        · simp [go_sem]
        go_big_quiet_on
        refine wpQuiet_nil ?_
        intro w6 hb6
        have XD6 := hid (XD5.out.on hb6)
        have XE6 := hid (XE5.out.on hb6)
        have B6 := hid (B5.out.trans (hb6.mono B5.out.size))
        clear hb6 B5 XD5 XE5
        obtain ⟨d0, d1, d2⟩ := XD6.out.cells
        obtain ⟨f0, f1, f2⟩ := XE6.out.cells
        go_wp2
        go_ret
        exact ⟨rfl, B6.out⟩
  · have KA := hid (key_any K N S hN)
    have SA := hid (show_any K N S hN)
    have hx := keyS_size K N S
    have ht := showT_size S hN (K := K)
    have UA := hid (fun w => unkey_any (keyS K N S ++ s) (by rw [ByteArray.size_append]; unfold maxLen; omega) w)
    have PA := hid (fun w (g : Glob w) => parse_any (showT K N S ++ ⟨#[41]⟩ ++ s) (by rw [ByteArray.size_append, ByteArray.size_append, show (⟨#[41]⟩ : ByteArray).size = 1 from rfl]; unfold maxLen; omega) w g)
    rw [uV_key hga hN] at UA
    rw [uV_show hga hN] at PA
    clear hga GA
    obtain ⟨a0, a1, a2⟩ := XA2.out.cells
    go_wp2_with fail
    refine (KA.out _ (Hg.out.on B2.out)).mono ?_
    rintro e3 w3 ⟨rfl, hb3⟩
    clear a0 a1 a2
    have XA3 := hid (XA2.out.on hb3)
    have B3 := hid (B2.out.trans (hb3.mono B2.out.size))
    clear hb3 B2 XA2
    generalize keyS K N S = x at *
    obtain ⟨a0, a1, a2⟩ := XA3.out.cells
    go_wp2_with fail
    refine (UA.out _).mono ?_
    rintro e4 w4 ⟨rfl, hb4⟩
    clear a0 a1 a2
    have XA4 := hid (XA3.out.on hb4)
    have B4 := hid (B3.out.trans (hb4.mono B3.out.size))
    clear hb4 B3 XA3
    replace XA4 := hid (XA4.out.on ((Below.refl _ _).alloc (Nat.le_refl _) (.cells #[.int .i64 K, .int .i64 N, .string (bs (bl S))] 23)))
    have XB4 := hid (Bx.new K N (bs (bl S)) w4)
    have hw4 := B4.out.size
    replace B4 := hid (B4.out.alloc (by omega) (.cells #[.int .i64 K, .int .i64 N, .string (bs (bl S))] 23))
    unfold uV
    obtain ⟨a0, a1, a2⟩ := XA4.out.cells
    obtain ⟨b0, b1, b2⟩ := XB4.out.cells
    go_wp2_with fail
    refine (SA.out _ (Hg.out.on B4.out)).mono ?_
    rintro e5 w5 ⟨rfl, hb5⟩
    clear a0 a1 a2 b0 b1 b2
    have XA5 := hid (XA4.out.on hb5)
    have XB5 := hid (XB4.out.on hb5)
    have B5 := hid (B4.out.trans (hb5.mono B4.out.size))
    clear hb5 B4 XA4 XB4
    generalize showT K N S = y at *
    obtain ⟨a0, a1, a2⟩ := XA5.out.cells
    obtain ⟨b0, b1, b2⟩ := XB5.out.cells
    go_wp2_with fail
    refine (PA.out _ (Hg.out.on B5.out)).mono ?_
    rintro e6 w6 ⟨rfl, hb6⟩
    clear a0 a1 a2 b0 b1 b2
    have XA6 := hid (XA5.out.on hb6)
    have XB6 := hid (XB5.out.on hb6)
    have B6 := hid (B5.out.trans (hb6.mono B5.out.size))
    clear hb6 B5 XA5 XB5
    replace XA6 := hid (XA6.out.on ((Below.refl _ _).alloc (Nat.le_refl _) (.cells #[.int .i64 K, .int .i64 N, .string (bs (bl S))] 23)))
    replace XB6 := hid (XB6.out.on ((Below.refl _ _).alloc (Nat.le_refl _) (.cells #[.int .i64 K, .int .i64 N, .string (bs (bl S))] 23)))
    have XC6 := hid (Bx.new K N (bs (bl S)) w6)
    have hw6 := B6.out.size
    replace B6 := hid (B6.out.alloc (by omega) (.cells #[.int .i64 K, .int .i64 N, .string (bs (bl S))] 23))
    unfold uV
    obtain ⟨a0, a1, a2⟩ := XA6.out.cells
    obtain ⟨b0, b1, b2⟩ := XB6.out.cells
    obtain ⟨c0, c1, c2⟩ := XC6.out.cells
    go_wp2_with fail
    refine (U.out _).mono ?_
    rintro e7 w7 ⟨rfl, hb7⟩
    clear a0 a1 a2 b0 b1 b2 c0 c1 c2
    have XA7 := hid (XA6.out.on hb7)
    have XB7 := hid (XB6.out.on hb7)
    have XC7 := hid (XC6.out.on hb7)
    have B7 := hid (B6.out.trans (hb7.mono B6.out.size))
    clear hb7 B6 XA6 XB6 XC6
    replace XA7 := hid (XA7.out.on ((Below.refl _ _).alloc (Nat.le_refl _) (.cells #[.int .i64 uK, .int .i64 uN, .string (bs uS)] 23)))
    replace XB7 := hid (XB7.out.on ((Below.refl _ _).alloc (Nat.le_refl _) (.cells #[.int .i64 uK, .int .i64 uN, .string (bs uS)] 23)))
    replace XC7 := hid (XC7.out.on ((Below.refl _ _).alloc (Nat.le_refl _) (.cells #[.int .i64 uK, .int .i64 uN, .string (bs uS)] 23)))
    have XD7 := hid (Bx.new uK uN (bs uS) w7)
    have hw7 := B7.out.size
    replace B7 := hid (B7.out.alloc (by omega) (.cells #[.int .i64 uK, .int .i64 uN, .string (bs uS)] 23))
    unfold uV
    clear XA7 XB7 XC7
    by_cases hue : ue = 0
    · subst hue
      obtain ⟨n1, n2, n3, n4, n5⟩ := fu.1 rfl
      have KC := key_any uK uN (bs uS) n3
      have KD := good_any uK uN (bs uS)
      rw [n4] at KD
      rw [show keyS uK uN (bs uS) = s.extract 0 un from n5] at KC
      replace KC := hid KC
      replace KD := hid KD
      simp only at n1 n2
      go_wp2_with fail
      generalize w7.alloc (.cells #[.int .i64 uK, .int .i64 uN, .string (bs uS)] 23) = z7 at *
      refine wp_quiet_in (fun wx => Below (z7).heap.size (z7) wx) (by kernel_rfl) (by kernel_rfl) (Below.refl _ _).drew ?_
      go_big_quiet_want
      go_big_quiet_op
      go_big_quiet_on
      go_big_quiet_want
      go_big_quiet_op
      refine ⟨.bool true, fun wx hx => ?_, ?_⟩
      · simp [go_sem]
      go_big_quiet_on
      go_big_quiet_want
      go_big_quiet_op
      go_big_quiet_on
      go_big_quiet_want
      go_big_quiet_op
      go_big_quiet_on
      go_big_quiet_want
      go_big_quiet_op
      refine ⟨.bool false, fun wx hx => ?_, ?_⟩
      · simp [go_sem] <;> omega
      go_big_quiet_on
      go_big_quiet_want
      go_big_quiet_op
      go_big_quiet_on
      go_big_quiet_want
      go_big_quiet_op
      go_big_quiet_on
      go_big_quiet_want
      go_big_quiet_op
      go_big_quiet_on
      go_big_quiet_want
      go_big_quiet_op
      refine ⟨.int .i64 s.size, fun wx hx => ?_, ?_⟩
      · simp [go_sem]
      go_big_quiet_on
      go_big_quiet_want
      go_big_quiet_op
      refine ⟨.bool false, fun wx hx => ?_, ?_⟩
      · simp [go_sem] <;> omega
      go_big_quiet_on
      go_big_quiet_want
      go_big_quiet_op
      refine ⟨.bool false, fun wx hx => ?_, ?_⟩
      · simp [go_sem]
      go_big_quiet_on
      go_big_quiet_want
      go_big_quiet_op
      go_big_quiet_on
      go_big_quiet_want
      go_big_quiet_op
      refine ⟨.agg #[.int .i64 uK, .int .i64 uN, .string (bs uS)], fun wx hx => ?_, ?_⟩
      · obtain ⟨c0, c1, c2⟩ := (XD7.out.on hx).cells
        simp [go_sem, c0, c1, c2]
      go_big_quiet_on
      go_big_quiet_want
      go_big_quiet_op
      refine ⟨.string (s.extract 0 un), fun wx hx => ?_, ?_⟩
      · refine (KC.out _ ((Hg.out.on B7.out).on hx)).mono ?_
        rintro e w3 ⟨rfl, hb3⟩
        exact ⟨rfl, hx.trans (hb3.mono hx.size)⟩
      go_big_quiet_on
      go_big_quiet_want
      go_big_quiet_op
      go_big_quiet_on
      go_big_quiet_want
      go_big_quiet_op
      go_big_quiet_on
      go_big_quiet_want
      go_big_quiet_op
      refine ⟨.string (s.extract 0 un), fun wx hx => ?_, ?_⟩
      · simp [go_sem] <;> omega
      go_big_quiet_on
      go_big_quiet_want
      go_big_quiet_op
      refine ⟨.bool false, fun wx hx => ?_, ?_⟩
      · simp [go_sem]
      go_big_quiet_on
      go_big_quiet_want
      go_big_quiet_op
      refine ⟨.bool false, fun wx hx => ?_, ?_⟩
      · simp [go_sem]
      go_big_quiet_on
      go_big_quiet_want
      go_big_quiet_op
      go_big_quiet_on
      go_big_quiet_want
      go_big_quiet_op
      refine ⟨.agg #[.int .i64 uK, .int .i64 uN, .string (bs uS)], fun wx hx => ?_, ?_⟩
      · obtain ⟨c0, c1, c2⟩ := (XD7.out.on hx).cells
        simp [go_sem, c0, c1, c2]
      go_big_quiet_on
      go_big_quiet_want
      go_big_quiet_op
      refine ⟨.bool true, fun wx hx => ?_, ?_⟩
      · refine (KD.out _).mono ?_
        rintro e w3 ⟨rfl, hb3⟩
        exact ⟨rfl, hx.trans (hb3.mono hx.size)⟩
      go_big_quiet_on
      go_big_quiet_want
      go_big_quiet_op
      refine ⟨.bool false, fun wx hx => ?_, ?_⟩
      · simp [go_sem]
      go_big_quiet_on
      go_big_quiet_want
      go_big_quiet_op
      refine ⟨.bool false, fun wx hx => ?_, ?_⟩
      · simp [go_sem]
      go_big_quiet_on
      go_big_quiet_want
      go_big_quiet_op
      refine ⟨.bool false, fun wx hx => ?_, ?_⟩
      · simp [go_sem]
      go_big_quiet_on
      refine wpQuiet_nil ?_
      intro w8 hb8
      have XD8 := hid (XD7.out.on hb8)
      have B8 := hid (B7.out.trans (hb8.mono B7.out.size))
      clear hb8 B7 XD7
      obtain ⟨d0, d1, d2⟩ := XD8.out.cells
      go_wp2_with fail
      refine (P.out _ (Hg.out.on B8.out)).mono ?_
      rintro e9 w9 ⟨rfl, hb9⟩
      clear d0 d1 d2
      have XD9 := hid (XD8.out.on hb9)
      have B9 := hid (B8.out.trans (hb9.mono B8.out.size))
      clear hb9 B8 XD8
      replace XD9 := hid (XD9.out.on ((Below.refl _ _).alloc (Nat.le_refl _) (.cells #[.int .i64 pK, .int .i64 pN, .string (bs pS)] 23)))
      have XE9 := hid (Bx.new pK pN (bs pS) w9)
      have hw9 := B9.out.size
      replace B9 := hid (B9.out.alloc (by omega) (.cells #[.int .i64 pK, .int .i64 pN, .string (bs pS)] 23))
      unfold uV
      by_cases hpe : pe = 0
      · subst hpe
        obtain ⟨m1, m2, m3, m4, m5⟩ := fp.1 rfl
        have KE := show_any pK pN (bs pS) m3
        have KF := good_any pK pN (bs pS)
        rw [m4] at KF
        rw [show showT pK pN (bs pS) = s.extract 0 pn from m5] at KE
        replace KE := hid KE
        replace KF := hid KF
        simp only at m1 m2
        go_wp2_with fail
        generalize w9.alloc (.cells #[.int .i64 pK, .int .i64 pN, .string (bs pS)] 23) = z9 at *
        refine wp_quiet_in (fun wx => Below (z9).heap.size (z9) wx) (by kernel_rfl) (by kernel_rfl) (Below.refl _ _).drew ?_
        go_big_quiet_want
        go_big_quiet_op
        go_big_quiet_on
        go_big_quiet_want
        go_big_quiet_op
        refine ⟨.bool true, fun wx hx => ?_, ?_⟩
        · simp [go_sem]
        go_big_quiet_on
        go_big_quiet_want
        go_big_quiet_op
        go_big_quiet_on
        go_big_quiet_want
        go_big_quiet_op
        go_big_quiet_on
        go_big_quiet_want
        go_big_quiet_op
        refine ⟨.bool false, fun wx hx => ?_, ?_⟩
        · simp [go_sem] <;> omega
        go_big_quiet_on
        go_big_quiet_want
        go_big_quiet_op
        go_big_quiet_on
        go_big_quiet_want
        go_big_quiet_op
        go_big_quiet_on
        go_big_quiet_want
        go_big_quiet_op
        go_big_quiet_on
        go_big_quiet_want
        go_big_quiet_op
        refine ⟨.int .i64 s.size, fun wx hx => ?_, ?_⟩
        · simp [go_sem]
        go_big_quiet_on
        go_big_quiet_want
        go_big_quiet_op
        refine ⟨.bool false, fun wx hx => ?_, ?_⟩
        · simp [go_sem] <;> omega
        go_big_quiet_on
        go_big_quiet_want
        go_big_quiet_op
        refine ⟨.bool false, fun wx hx => ?_, ?_⟩
        · simp [go_sem]
        go_big_quiet_on
        go_big_quiet_want
        go_big_quiet_op
        go_big_quiet_on
        go_big_quiet_want
        go_big_quiet_op
        refine ⟨.agg #[.int .i64 pK, .int .i64 pN, .string (bs pS)], fun wx hx => ?_, ?_⟩
        · obtain ⟨c0, c1, c2⟩ := (XE9.out.on hx).cells
          simp [go_sem, c0, c1, c2]
        go_big_quiet_on
        go_big_quiet_want
        go_big_quiet_op
        refine ⟨.string (s.extract 0 pn), fun wx hx => ?_, ?_⟩
        · refine (KE.out _ ((Hg.out.on B9.out).on hx)).mono ?_
          rintro e w3 ⟨rfl, hb3⟩
          exact ⟨rfl, hx.trans (hb3.mono hx.size)⟩
        go_big_quiet_on
        go_big_quiet_want
        go_big_quiet_op
        go_big_quiet_on
        go_big_quiet_want
        go_big_quiet_op
        go_big_quiet_on
        go_big_quiet_want
        go_big_quiet_op
        refine ⟨.string (s.extract 0 pn), fun wx hx => ?_, ?_⟩
        · simp [go_sem] <;> omega
        go_big_quiet_on
        go_big_quiet_want
        go_big_quiet_op
        refine ⟨.bool false, fun wx hx => ?_, ?_⟩
        · simp [go_sem]
        go_big_quiet_on
        go_big_quiet_want
        go_big_quiet_op
        refine ⟨.bool false, fun wx hx => ?_, ?_⟩
        · simp [go_sem]
        go_big_quiet_on
        go_big_quiet_want
        go_big_quiet_op
        go_big_quiet_on
        go_big_quiet_want
        go_big_quiet_op
        refine ⟨.agg #[.int .i64 pK, .int .i64 pN, .string (bs pS)], fun wx hx => ?_, ?_⟩
        · obtain ⟨c0, c1, c2⟩ := (XE9.out.on hx).cells
          simp [go_sem, c0, c1, c2]
        go_big_quiet_on
        go_big_quiet_want
        go_big_quiet_op
        refine ⟨.bool true, fun wx hx => ?_, ?_⟩
        · refine (KF.out _).mono ?_
          rintro e w3 ⟨rfl, hb3⟩
          exact ⟨rfl, hx.trans (hb3.mono hx.size)⟩
        go_big_quiet_on
        go_big_quiet_want
        go_big_quiet_op
        refine ⟨.bool false, fun wx hx => ?_, ?_⟩
        · simp [go_sem]
        go_big_quiet_on
        go_big_quiet_want
        go_big_quiet_op
        refine ⟨.bool false, fun wx hx => ?_, ?_⟩
        · simp [go_sem]
        go_big_quiet_on
        go_big_quiet_want
        go_big_quiet_op
        refine ⟨.bool false, fun wx hx => ?_, ?_⟩
        · simp [go_sem]
        go_big_quiet_on
        refine wpQuiet_nil ?_
        intro w10 hb10
        have XD10 := hid (XD9.out.on hb10)
        have XE10 := hid (XE9.out.on hb10)
        have B10 := hid (B9.out.trans (hb10.mono B9.out.size))
        clear hb10 B9 XD9 XE9
        obtain ⟨d0, d1, d2⟩ := XD10.out.cells
        obtain ⟨f0, f1, f2⟩ := XE10.out.cells
        go_wp2
        go_ret
        exact ⟨rfl, B10.out⟩
      · obtain ⟨rfl, rfl, rfl, rfl⟩ := fp.2 hpe
        rw [show bs [] = (⟨#[]⟩ : ByteArray) from rfl] at *
        have hpe' : (pe == 0) = false := by simpa using hpe
        go_wp2_with fail
        generalize w9.alloc (.cells #[.int .i64 0, .int .i64 0, .string ⟨#[]⟩] 23) = z9 at *
        refine wp_quiet_in (fun wx => Below (z9).heap.size (z9) wx) (by kernel_rfl) (by kernel_rfl) (Below.refl _ _).drew ?_
        go_big_quiet_want
        go_big_quiet_op
        go_big_quiet_on
        go_big_quiet_want
        go_big_quiet_op
        refine ⟨.bool false, fun wx hx => ?_, ?_⟩
        · simp [go_sem]
        go_big_quiet_on
        go_big_quiet_want
        go_big_quiet_op
        go_big_quiet_on
        go_big_quiet_skip
        go_big_quiet_skip
        go_big_quiet_skip
        go_big_quiet_skip
        go_big_quiet_skip
        go_big_quiet_skip
        go_big_quiet_skip
        go_big_quiet_skip
        go_big_quiet_skip
        go_big_quiet_skip
        go_big_quiet_skip
        go_big_quiet_skip
        go_big_quiet_skip
        go_big_quiet_skip
        go_big_quiet_skip
        go_big_quiet_skip
        go_big_quiet_skip
        go_big_quiet_skip
        go_big_quiet_skip
        go_big_quiet_skip
        go_big_quiet_skip
        go_big_quiet_want
        go_big_quiet_op
        refine ⟨.bool false, fun wx hx => ?_, ?_⟩
        · simp [go_sem]
        go_big_quiet_on
        refine wpQuiet_nil ?_
        intro w10 hb10
        have XD10 := hid (XD9.out.on hb10)
        have XE10 := hid (XE9.out.on hb10)
        have B10 := hid (B9.out.trans (hb10.mono B9.out.size))
        clear hb10 B9 XD9 XE9
        obtain ⟨d0, d1, d2⟩ := XD10.out.cells
        obtain ⟨f0, f1, f2⟩ := XE10.out.cells
        go_wp2
        go_ret
        exact ⟨rfl, B10.out⟩
    · obtain ⟨rfl, rfl, rfl, rfl⟩ := fu.2 hue
      rw [show bs [] = (⟨#[]⟩ : ByteArray) from rfl] at *
      have hue' : (ue == 0) = false := by simpa using hue
      go_wp2_with fail
      generalize w7.alloc (.cells #[.int .i64 0, .int .i64 0, .string ⟨#[]⟩] 23) = z7 at *
      refine wp_quiet_in (fun wx => Below (z7).heap.size (z7) wx) (by kernel_rfl) (by kernel_rfl) (Below.refl _ _).drew ?_
      go_big_quiet_want
      go_big_quiet_op
      go_big_quiet_on
      go_big_quiet_want
      go_big_quiet_op
      refine ⟨.bool false, fun wx hx => ?_, ?_⟩
      · simp [go_sem]
      go_big_quiet_on
      go_big_quiet_want
      go_big_quiet_op
      go_big_quiet_on
      go_big_quiet_skip
      go_big_quiet_skip
      go_big_quiet_skip
      go_big_quiet_skip
      go_big_quiet_skip
      go_big_quiet_skip
      go_big_quiet_skip
      go_big_quiet_skip
      go_big_quiet_skip
      go_big_quiet_skip
      go_big_quiet_skip
      go_big_quiet_skip
      go_big_quiet_skip
      go_big_quiet_skip
      go_big_quiet_skip
      go_big_quiet_skip
      go_big_quiet_skip
      go_big_quiet_skip
      go_big_quiet_skip
      go_big_quiet_skip
      go_big_quiet_skip
      go_big_quiet_want
      go_big_quiet_op
      refine ⟨.bool false, fun wx hx => ?_, ?_⟩
      · simp [go_sem]
      go_big_quiet_on
      refine wpQuiet_nil ?_
      intro w8 hb8
      have XD8 := hid (XD7.out.on hb8)
      have B8 := hid (B7.out.trans (hb8.mono B7.out.size))
      clear hb8 B7 XD7
      obtain ⟨d0, d1, d2⟩ := XD8.out.cells
      go_wp2_with fail
      refine (P.out _ (Hg.out.on B8.out)).mono ?_
      rintro e9 w9 ⟨rfl, hb9⟩
      clear d0 d1 d2
      have XD9 := hid (XD8.out.on hb9)
      have B9 := hid (B8.out.trans (hb9.mono B8.out.size))
      clear hb9 B8 XD8
      replace XD9 := hid (XD9.out.on ((Below.refl _ _).alloc (Nat.le_refl _) (.cells #[.int .i64 pK, .int .i64 pN, .string (bs pS)] 23)))
      have XE9 := hid (Bx.new pK pN (bs pS) w9)
      have hw9 := B9.out.size
      replace B9 := hid (B9.out.alloc (by omega) (.cells #[.int .i64 pK, .int .i64 pN, .string (bs pS)] 23))
      unfold uV
      by_cases hpe : pe = 0
      · subst hpe
        obtain ⟨m1, m2, m3, m4, m5⟩ := fp.1 rfl
        have KE := show_any pK pN (bs pS) m3
        have KF := good_any pK pN (bs pS)
        rw [m4] at KF
        rw [show showT pK pN (bs pS) = s.extract 0 pn from m5] at KE
        replace KE := hid KE
        replace KF := hid KF
        simp only at m1 m2
        go_wp2_with fail
        generalize w9.alloc (.cells #[.int .i64 pK, .int .i64 pN, .string (bs pS)] 23) = z9 at *
        refine wp_quiet_in (fun wx => Below (z9).heap.size (z9) wx) (by kernel_rfl) (by kernel_rfl) (Below.refl _ _).drew ?_
        go_big_quiet_want
        go_big_quiet_op
        go_big_quiet_on
        go_big_quiet_want
        go_big_quiet_op
        refine ⟨.bool true, fun wx hx => ?_, ?_⟩
        · simp [go_sem]
        go_big_quiet_on
        go_big_quiet_want
        go_big_quiet_op
        go_big_quiet_on
        go_big_quiet_want
        go_big_quiet_op
        go_big_quiet_on
        go_big_quiet_want
        go_big_quiet_op
        refine ⟨.bool false, fun wx hx => ?_, ?_⟩
        · simp [go_sem] <;> omega
        go_big_quiet_on
        go_big_quiet_want
        go_big_quiet_op
        go_big_quiet_on
        go_big_quiet_want
        go_big_quiet_op
        go_big_quiet_on
        go_big_quiet_want
        go_big_quiet_op
        go_big_quiet_on
        go_big_quiet_want
        go_big_quiet_op
        refine ⟨.int .i64 s.size, fun wx hx => ?_, ?_⟩
        · simp [go_sem]
        go_big_quiet_on
        go_big_quiet_want
        go_big_quiet_op
        refine ⟨.bool false, fun wx hx => ?_, ?_⟩
        · simp [go_sem] <;> omega
        go_big_quiet_on
        go_big_quiet_want
        go_big_quiet_op
        refine ⟨.bool false, fun wx hx => ?_, ?_⟩
        · simp [go_sem]
        go_big_quiet_on
        go_big_quiet_want
        go_big_quiet_op
        go_big_quiet_on
        go_big_quiet_want
        go_big_quiet_op
        refine ⟨.agg #[.int .i64 pK, .int .i64 pN, .string (bs pS)], fun wx hx => ?_, ?_⟩
        · obtain ⟨c0, c1, c2⟩ := (XE9.out.on hx).cells
          simp [go_sem, c0, c1, c2]
        go_big_quiet_on
        go_big_quiet_want
        go_big_quiet_op
        refine ⟨.string (s.extract 0 pn), fun wx hx => ?_, ?_⟩
        · refine (KE.out _ ((Hg.out.on B9.out).on hx)).mono ?_
          rintro e w3 ⟨rfl, hb3⟩
          exact ⟨rfl, hx.trans (hb3.mono hx.size)⟩
        go_big_quiet_on
        go_big_quiet_want
        go_big_quiet_op
        go_big_quiet_on
        go_big_quiet_want
        go_big_quiet_op
        go_big_quiet_on
        go_big_quiet_want
        go_big_quiet_op
        refine ⟨.string (s.extract 0 pn), fun wx hx => ?_, ?_⟩
        · simp [go_sem] <;> omega
        go_big_quiet_on
        go_big_quiet_want
        go_big_quiet_op
        refine ⟨.bool false, fun wx hx => ?_, ?_⟩
        · simp [go_sem]
        go_big_quiet_on
        go_big_quiet_want
        go_big_quiet_op
        refine ⟨.bool false, fun wx hx => ?_, ?_⟩
        · simp [go_sem]
        go_big_quiet_on
        go_big_quiet_want
        go_big_quiet_op
        go_big_quiet_on
        go_big_quiet_want
        go_big_quiet_op
        refine ⟨.agg #[.int .i64 pK, .int .i64 pN, .string (bs pS)], fun wx hx => ?_, ?_⟩
        · obtain ⟨c0, c1, c2⟩ := (XE9.out.on hx).cells
          simp [go_sem, c0, c1, c2]
        go_big_quiet_on
        go_big_quiet_want
        go_big_quiet_op
        refine ⟨.bool true, fun wx hx => ?_, ?_⟩
        · refine (KF.out _).mono ?_
          rintro e w3 ⟨rfl, hb3⟩
          exact ⟨rfl, hx.trans (hb3.mono hx.size)⟩
        go_big_quiet_on
        go_big_quiet_want
        go_big_quiet_op
        refine ⟨.bool false, fun wx hx => ?_, ?_⟩
        · simp [go_sem]
        go_big_quiet_on
        go_big_quiet_want
        go_big_quiet_op
        refine ⟨.bool false, fun wx hx => ?_, ?_⟩
        · simp [go_sem]
        go_big_quiet_on
        go_big_quiet_want
        go_big_quiet_op
        refine ⟨.bool false, fun wx hx => ?_, ?_⟩
        · simp [go_sem]
        go_big_quiet_on
        refine wpQuiet_nil ?_
        intro w10 hb10
        have XD10 := hid (XD9.out.on hb10)
        have XE10 := hid (XE9.out.on hb10)
        have B10 := hid (B9.out.trans (hb10.mono B9.out.size))
        clear hb10 B9 XD9 XE9
        obtain ⟨d0, d1, d2⟩ := XD10.out.cells
        obtain ⟨f0, f1, f2⟩ := XE10.out.cells
        go_wp2
        go_ret
        exact ⟨rfl, B10.out⟩
      · obtain ⟨rfl, rfl, rfl, rfl⟩ := fp.2 hpe
        rw [show bs [] = (⟨#[]⟩ : ByteArray) from rfl] at *
        have hpe' : (pe == 0) = false := by simpa using hpe
        go_wp2_with fail
        generalize w9.alloc (.cells #[.int .i64 0, .int .i64 0, .string ⟨#[]⟩] 23) = z9 at *
        refine wp_quiet_in (fun wx => Below (z9).heap.size (z9) wx) (by kernel_rfl) (by kernel_rfl) (Below.refl _ _).drew ?_
        go_big_quiet_want
        go_big_quiet_op
        go_big_quiet_on
        go_big_quiet_want
        go_big_quiet_op
        refine ⟨.bool false, fun wx hx => ?_, ?_⟩
        · simp [go_sem]
        go_big_quiet_on
        go_big_quiet_want
        go_big_quiet_op
        go_big_quiet_on
        go_big_quiet_skip
        go_big_quiet_skip
        go_big_quiet_skip
        go_big_quiet_skip
        go_big_quiet_skip
        go_big_quiet_skip
        go_big_quiet_skip
        go_big_quiet_skip
        go_big_quiet_skip
        go_big_quiet_skip
        go_big_quiet_skip
        go_big_quiet_skip
        go_big_quiet_skip
        go_big_quiet_skip
        go_big_quiet_skip
        go_big_quiet_skip
        go_big_quiet_skip
        go_big_quiet_skip
        go_big_quiet_skip
        go_big_quiet_skip
        go_big_quiet_skip
        go_big_quiet_want
        go_big_quiet_op
        refine ⟨.bool false, fun wx hx => ?_, ?_⟩
        · simp [go_sem]
        go_big_quiet_on
        refine wpQuiet_nil ?_
        intro w10 hb10
        have XD10 := hid (XD9.out.on hb10)
        have XE10 := hid (XE9.out.on hb10)
        have B10 := hid (B9.out.trans (hb10.mono B9.out.size))
        clear hb10 B9 XD9 XE9
        obtain ⟨d0, d1, d2⟩ := XD10.out.cells
        obtain ⟨f0, f1, f2⟩ := XE10.out.cells
        go_wp2
        go_ret
        exact ⟨rfl, B10.out⟩
end Go.Proofs.YtpabhekbkdpkiaaDoor.valueBack
