/-
  The walk of RowBack: it answers true; the old memory stays.
-/
import Derived.Test.YtiellodbkanciaaGreatDoorRowAwake
import Derived.Test.YtiellodbkanciaaGreatDoorRowFrame
import Derived.Deep.DeepCutAuto
namespace Go.Proofs.YtiellodbkanciaaGreatDoor.rowBack
open Go.RowKit Go.Proofs.YtiellodbkanciaaGreatDoor.Va Go.Proofs.YtiellodbkanciaaGreatDoor.Ro
open Num (hid)
theorem bl_app (a b : ByteArray) : bl (a ++ b) = bl a ++ bl b := by
  show (a ++ b).data.toList = _
  rw [ByteArray.data_append, Array.toList_append]
theorem bl_take (a : ByteArray) (k : Nat) : bl (a.extract 0 k) = (bl a).take k := by
  have h := ex_take (bl a) k
  rw [bs_bl] at h
  rw [h]
  rfl
theorem encL_most {l : Vs} (h : goodR l = true) : (encL l).length ≤ 100000 := by
  have h1 := upto_most (l := l) (fun v hv => ((goodR_iff l).1 h).2 v hv) l.length
  have h2 := few h
  have e : upto l l.length = encL l := by unfold upto encL; rw [List.take_length]
  rw [e] at h1
  omega
theorem showR_most {l : Vs} (h : goodR l = true) (hw : Wide l) : (showR l).length ≤ 100000 := by
  rw [showR_yes h, List.length_cons, List.length_append, List.length_singleton]
  have h1 := joinV_most l hw
  have h2 := few h
  omega
/-- What the walk wants of what is read from s. -/
structure Tail (s : ByteArray) (r : Vs) (q : Int) (p : Vs) (n : Nat) (m : Int) : Prop where
  dec : ∀ w, Calls Tryz.prog 35 #[.string s] w fun e w' => DecGives ⟨r, q⟩ w w' e
  par : ∀ w, Glob w → Calls Tryz.prog 37 #[.string s] w fun e w' => ParGives ⟨p, n, m⟩ w w' e
  enc : q = 0 → ∀ x w, RowAt w x r → Calls Tryz.prog 25 #[x] w fun e w' => e = .returned (.tuple #[.string s, .int .i64 0]) ∧ Below w.heap.size w w'
  bare : q ≠ 0 → r = []
  shw : m = 0 → 2 ≤ n ∧ n ≤ s.size ∧ ∀ x w, RowAt w x p → Glob w → Calls Tryz.prog 33 #[x] w fun e w' => e = .returned (.string (s.extract 0 n)) ∧ Below w.heap.size w w'
  none : m ≠ 0 → n = 0 ∧ p = []
theorem tail_of (s : ByteArray) (hs : s.size ≤ 140737488351232) : Tail s (decR (bl s)).r (decR (bl s)).e (parR (bl s)).r (parR (bl s)).n (parR (bl s)).e := by
  refine ⟨fun w => decode_any s (by omega) w, fun w g => Ro.parse_any s (by omega) w g, ?_, fun h => decR_bare _ h, ?_, fun h => parR_bare _ h⟩
  · intro h x w hx
    obtain ⟨h1, h2, h3⟩ := decR_back _ h
    have he := encode_any x _ w hx h2
    rw [encR_yes h1, h3] at he
    exact he
  · intro h
    obtain ⟨h1, h2, h3, h4, h5⟩ := parR_back _ h
    rw [bl_len] at h4
    refine ⟨h3, h4, fun x w hx g => ?_⟩
    have he := Ro.show_any x _ w hx h2 g
    rw [h5, ← ex_take, bs_bl] at he
    exact he
set_option maxRecDepth 100000 in
set_option maxHeartbeats 16000000 in
theorem walk (v : Value) (l : Vs) (s : ByteArray) (w : World) (ra : RowAt w v l) (wd : Wide l) (fw : Few l) (hs : s.size ≤ 140737488351232) (g : Glob w) :
    Calls Tryz.prog 7 #[v, .string s] w fun e w' => e = .returned (.bool true) ∧ Below w.heap.size w w' := by
  have Hg := hid g
  have HA := hid ra
  have HW := hid wd
  have HTl := hid (tail_of s hs)
  generalize decR (bl s) = xd at *
  generalize parR (bl s) = xp at *
  obtain ⟨r, q⟩ := xd
  obtain ⟨p, n, m⟩ := xp
  have HT := hid (fun w (h : RowAt w v l) => total_any v l w h (fun x hx => Nat.le_trans (fw.each x hx) (by decide)) (Nat.le_trans fw.len (by decide)))
  obtain ⟨ao, cap, hv, -, -⟩ := ra.ways
  subst hv
  have HGd := hid (fun w (h : RowAt w (.slice ao l.length cap) l) => Ro.good_any _ l w h)
  clear ra wd fw g
  obtain ⟨nl, hnl⟩ : ∃ k, l.length = k := ⟨_, rfl⟩
  rw [hnl] at HT HA HGd ⊢
  have HNL := hid hnl
  clear hnl
  go_enter Tryz.func7, Tryz.ntmps7
  go_wp2_with fail
  refine (awake_any _ Hg.out).mono ?_
  rintro e1 w1 ⟨rfl, hb⟩
  have B := hid hb
  clear hb
  go_upto_region 3 with fail
  go_cut [33] (fun c wx => ∃ x : Bool, c = .bool x ∧ (x = true → goodR l = true) ∧ Hid (Below w.heap.size w wx))
  case first =>
    go_wp2_with fail
    refine (HT.out _ (HA.out.on B.out)).mono ?_
    rintro e2 w2 ⟨⟨t, rfl, ht⟩, rfl⟩
    by_cases ht1 : t ≤ 65536
    · have ht1' : (t : Int) ≤ 65536 := by omega
      clear ht1 ht
      cases hgl : goodR l with
      | false =>
        rw [hgl] at HGd
        clear hgl
        go_wp2_with fail
        refine (HGd.out _ (HA.out.on B.out)).mono ?_
        rintro e3 w3 ⟨rfl, hb⟩
        have B := hid (B.out.trans (hb.mono B.out.size))
        clear hb
        go_wp2_with fail
        go_meet
        exact ⟨false, rfl, (fun h => by cases h), B⟩
      | true =>
        have HH := hid hgl
        rw [hgl] at HGd
        clear hgl
        go_wp2_with fail
        refine (HGd.out _ (HA.out.on B.out)).mono ?_
        rintro e3 w3 ⟨rfl, hb⟩
        have B := hid (B.out.trans (hb.mono B.out.size))
        clear hb
        go_wp2_with fail
        go_meet
        exact ⟨true, rfl, fun _ => HH.out, B⟩
    · have ht1' : ¬ (t : Int) ≤ 65536 := by omega
      clear ht1 ht
      go_wp2_with fail
      go_meet
      exact ⟨false, rfl, (fun h => by cases h), B⟩
  case rest =>
  clear B
  obtain ⟨x, rfl, hx, B⟩ := hcut
  go_upto_if 33 with fail
  go_cut [] (fun wx => Hid (Below w.heap.size w wx))
  case first =>
    cases x with
    | false =>
      go_wp2_with fail
      go_meet
      exact B
    | true =>
      have hgl := hx rfl
      clear hx
      have hem := encL_most hgl
      have hsm := showR_most hgl HW.out
      have HEn : Hid (∀ w, RowAt w (.slice ao nl cap) l → Calls Tryz.prog 25 #[.slice ao nl cap] w fun e w' => e = .returned (.tuple #[.string (bs (encL l)), .int .i64 0]) ∧ Below w.heap.size w w') := hid (fun w h => by
        have h := encode_any _ l w h HW.out
        rw [encR_yes hgl] at h
        exact h)
      have HDe : Hid (∀ w, Calls Tryz.prog 35 #[.string (bs (encL l))] w fun e w' => DecGives ⟨l, 0⟩ w w' e) := hid (fun w => by
        have h := decode_any (bs (encL l)) (by rw [bs_size]; omega) w
        have e := decR_enc hgl HW.out []
        rw [List.append_nil] at e
        rw [bl_bs, e] at h
        exact h)
      have HDx : Hid (∀ w, Calls Tryz.prog 35 #[.string (bs (encL l) ++ ⟨#[120]⟩)] w fun e w' => DecGives ⟨[], 4⟩ w w' e) := hid (fun w => by
        have h := decode_any (bs (encL l) ++ ⟨#[120]⟩) (by rw [ByteArray.size_append, bs_size]; show _ + 1 ≤ _; omega) w
        rw [bl_app, bl_bs, show bl ⟨#[120]⟩ = [120] from rfl, decR_enc hgl HW.out [120]] at h
        exact h)
      have HDk : Hid (∀ (k : Nat), k < (bs (encL l)).size → ∀ w, Calls Tryz.prog 35 #[.string ((bs (encL l)).extract 0 k)] w fun e w' => DecGives ⟨[], 3⟩ w w' e) := hid (fun k hk w => by
        rw [bs_size] at hk
        have h := decode_any ((bs (encL l)).extract 0 k) (by rw [ByteArray.size_extract, bs_size]; omega) w
        rw [bl_take, bl_bs, decR_cut hgl HW.out k hk] at h
        exact h)
      have HSh : Hid (∀ w, RowAt w (.slice ao nl cap) l → Glob w → Calls Tryz.prog 33 #[.slice ao nl cap] w fun e w' => e = .returned (.string (bs (showR l))) ∧ Below w.heap.size w w') := hid (fun w h g => Ro.show_any _ l w h HW.out g)
      have HPa : Hid (∀ w, Glob w → Calls Tryz.prog 37 #[.string (bs (showR l) ++ s)] w fun e w' => ParGives ⟨l, (bs (showR l)).size, 0⟩ w w' e) := hid (fun w g => by
        have h := Ro.parse_any (bs (showR l) ++ s) (by rw [ByteArray.size_append, bs_size]; omega) w g
        rw [bl_app, bl_bs, parR_show hgl HW.out (bl s), ← bs_size] at h
        exact h)
      have hAs := bs_size (encL l)
      have hTs := bs_size (showR l)
      clear hgl
      generalize bs (encL l) = A at *
      generalize bs (showR l) = T at *
      have s1 : ¬ 9223372036854775807 < T.size + s.size := by omega
      have s2 : ¬ 9223372036854775807 < A.size + (⟨#[120]⟩ : ByteArray).size := by show ¬ _ < _ + 1; omega
      have HAm : Hid (A.size ≤ 100000) := hid (by omega)
      clear hAs hTs hem hsm
      go_wp2_with fail
      refine (HEn.out _ (HA.out.on B.out)).mono ?_
      rintro e3 w4 ⟨rfl, hb⟩
      have B := hid (B.out.trans (hb.mono B.out.size))
      clear hb
      go_wp2_with fail
      refine (HDe.out _).mono ?_
      rintro e3 w5 ⟨⟨d, rfl, hd⟩, hb⟩
      have RD := hid hd
      have B := hid (B.out.trans (hb.mono B.out.size))
      clear hb hd
      go_wp2_with fail
      refine (HSh.out _ (HA.out.on B.out) (Hg.out.on B.out)).mono ?_
      rintro e3 w6 ⟨rfl, hb⟩
      have RD := hid (RD.out.on hb)
      have B := hid (B.out.trans (hb.mono B.out.size))
      clear hb
      go_wp2_with fail
      refine (HPa.out _ (Hg.out.on B.out)).mono ?_
      rintro e3 w7 ⟨⟨c, rfl, hd⟩, hb⟩
      have RD := hid (RD.out.on hb)
      have RC := hid hd
      have B := hid (B.out.trans (hb.mono B.out.size))
      clear hb hd
      go_wp2_with fail
      refine (same_yes _ _ l _ RD.out (HA.out.on B.out)).mono ?_
      rintro e3 w8 ⟨rfl, hb⟩
      have RC := hid (RC.out.on hb)
      have B := hid (B.out.trans (hb.mono B.out.size))
      clear hb RD
      go_wp2_with fail
      refine (same_yes _ _ l _ RC.out (HA.out.on B.out)).mono ?_
      rintro e3 w9 ⟨rfl, hb⟩
      have B := hid (B.out.trans (hb.mono B.out.size))
      clear hb RC
      go_wp2_with fail
      refine (HDx.out _).mono ?_
      rintro e3 w10 ⟨⟨dx, rfl, -⟩, hb⟩
      have B := hid (B.out.trans (hb.mono B.out.size))
      clear hb
      go_wp2
      go_loopw [15] (fun i wr => ∃ k : Nat, k ≤ A.size ∧ i = .int .i64 k ∧ Hid (Below w.heap.size w wr)) (fun i _ => A.size - (intOf i).toNat)
      case atStart => exact ⟨0, Nat.zero_le _, rfl, B⟩
      case round =>
        obtain ⟨k, hk, rfl, B⟩ := hrel
        by_cases hlt : k < A.size ∧ k < 50
        · obtain ⟨hlt1, hlt2⟩ := hlt
          have hi1 : (k : Int) < A.size := by omega
          have hi2 : (k : Int) < 50 := by omega
          have hi3 : k ≤ A.size := hk
          have hi4 : (k : Int) ≤ A.size := by omega
          have HDk1 := hid (HDk.out k hlt1)
          go_wp2_with fail
          refine (HDk1.out _).mono ?_
          rintro e3 w11 ⟨⟨dk, rfl, -⟩, hb⟩
          have B := hid (B.out.trans (hb.mono B.out.size))
          clear hb
          go_wp2
          go_roundw
          case rel => exact ⟨k + 1, by omega, by go_num, B⟩
          case measure => simp [intOf]; omega
        · have hor : A.size ≤ k ∨ 50 ≤ k := by omega
          have hi5 : ¬ (k : Int) < A.size ∨ ((k : Int) < A.size ∧ ¬ (k : Int) < 50) := by omega
          clear hlt hor
          rcases hi5 with hi5 | ⟨hi6, hi5⟩
          · go_wp2
            go_meet
            exact B
          · go_wp2
            go_meet
            exact B
  case rest =>
  have B := hcut
  clear hcut hx
  go_wp2_with fail
  refine (HTl.out.dec _).mono ?_
  rintro e4 wd ⟨⟨a, rfl, hd⟩, hb⟩
  have RA := hid hd
  have B := hid (B.out.trans (hb.mono B.out.size))
  clear hb hd
  obtain ⟨ro, rc, hav, -, -⟩ := RA.out.ways
  subst hav
  go_upto_if 115 with fail
  go_cut [] (fun wx => Hid (Below w.heap.size w wx) ∧ Hid (RowAt wx (.slice ro r.length rc) r))
  case first =>
    by_cases hq : q = 0
    · subst hq
      go_wp2_with fail
      refine (HTl.out.enc rfl _ _ RA.out).mono ?_
      rintro e4 we ⟨rfl, hb⟩
      have RA := hid (RA.out.on hb)
      have B := hid (B.out.trans (hb.mono B.out.size))
      clear hb
      go_wp2
      go_meet
      exact ⟨B, RA⟩
    · have hqf : (q == 0) = false := by simpa using hq
      go_wp2
      go_meet
      exact ⟨B, RA⟩
  case rest =>
  clear B RA
  obtain ⟨B, RA⟩ := hcut
  go_wp2_with fail
  refine (HTl.out.par _ (Hg.out.on B.out)).mono ?_
  rintro e5 wz ⟨⟨b, rfl, hd⟩, hb⟩
  have RP := hid hd
  have B := hid (B.out.trans (hb.mono B.out.size))
  have HG := hid (Hg.out.on B.out)
  clear hb hd
  by_cases hq : q = 0
  · subst hq
    by_cases hm : m = 0
    · subst hm
      obtain ⟨hn1, hn2, hshw⟩ := HTl.out.shw rfl
      have HShw := hid hshw
      have hn3 : n ≤ s.size := hn2
      have hn4 : (n : Int) ≤ (s.size : Int) := by omega
      clear hshw
      go_wp2_with fail
      refine wp_quiet_in (fun wx => Below wz.heap.size wz wx) (by kernel_rfl) (by kernel_rfl) (Below.refl _ _).drew ?_
      go_big_quiet_want
      go_big_quiet_op
      go_big_quiet_on
      go_big_quiet_want
      go_big_quiet_op
      refine ⟨.bool true, fun wx hx => ?_, ?_⟩
      · simp [go_sem]
      go_big_quiet_on
      go_big_quiet_want
      go_big_quiet_op
      go_big_quiet_on
      go_big_quiet_skip
      go_big_quiet_skip
      go_big_quiet_skip
      go_big_quiet_want
      go_big_quiet_op
      refine ⟨.bool true, fun wx hx => ?_, ?_⟩
      · simp [go_sem]
      go_big_quiet_on
      go_big_quiet_want
      go_big_quiet_op
      go_big_quiet_on
      go_big_quiet_want
      go_big_quiet_op
      go_big_quiet_on
      go_big_quiet_want
      go_big_quiet_op
      refine ⟨.bool true, fun wx hx => ?_, ?_⟩
      · simp [go_sem]
      go_big_quiet_on
      go_big_quiet_want
      go_big_quiet_op
      go_big_quiet_on
      go_big_quiet_want
      go_big_quiet_op
      go_big_quiet_on
      go_big_quiet_want
      go_big_quiet_op
      refine ⟨.bool true, fun wx hx => ?_, ?_⟩
      · simp [go_sem] <;> omega
      go_big_quiet_on
      go_big_quiet_want
      go_big_quiet_op
      refine ⟨.bool true, fun wx hx => ?_, ?_⟩
      · simp [go_sem]
      go_big_quiet_on
      go_big_quiet_want
      go_big_quiet_op
      go_big_quiet_on
      go_big_quiet_want
      go_big_quiet_op
      go_big_quiet_on
      go_big_quiet_want
      go_big_quiet_op
      go_big_quiet_on
      go_big_quiet_want
      go_big_quiet_op
      refine ⟨.int .i64 (s.size : Nat), fun wx hx => ?_, ?_⟩
      · simp [go_sem]
      go_big_quiet_on
      go_big_quiet_want
      go_big_quiet_op
      refine ⟨.bool true, fun wx hx => ?_, ?_⟩
      · simp [go_sem] <;> omega
      go_big_quiet_on
      go_big_quiet_want
      go_big_quiet_op
      refine ⟨.bool true, fun wx hx => ?_, ?_⟩
      · simp [go_sem]
      go_big_quiet_on
      go_big_quiet_want
      go_big_quiet_op
      go_big_quiet_on
      go_big_quiet_want
      go_big_quiet_op
      go_big_quiet_on
      go_big_quiet_want
      go_big_quiet_op
      refine ⟨.string (s.extract 0 n), fun wx hx => ?_, ?_⟩
      · refine (HShw.out _ _ (RP.out.on hx) (HG.out.on hx)).mono ?_
        rintro e w9 ⟨rfl, hb9⟩
        exact ⟨rfl, hx.trans (hb9.mono hx.size)⟩
      go_big_quiet_on
      go_big_quiet_want
      go_big_quiet_op
      go_big_quiet_on
      go_big_quiet_want
      go_big_quiet_op
      go_big_quiet_on
      go_big_quiet_want
      go_big_quiet_op
      refine ⟨.string (s.extract 0 n), fun wx hx => ?_, ?_⟩
      · simp [go_sem]
      go_big_quiet_on
      go_big_quiet_want
      go_big_quiet_op
      refine ⟨.bool true, fun wx hx => ?_, ?_⟩
      · simp [go_sem]
      go_big_quiet_on
      go_big_quiet_want
      go_big_quiet_op
      refine ⟨.bool true, fun wx hx => ?_, ?_⟩
      · simp [go_sem]
      go_big_quiet_on
      go_big_quiet_want
      go_big_quiet_op
      go_big_quiet_on
      go_big_quiet_skip
      go_big_quiet_skip
      go_big_quiet_skip
      go_big_quiet_skip
      go_big_quiet_skip
      go_big_quiet_skip
      go_big_quiet_skip
      go_big_quiet_skip
      go_big_quiet_skip
      go_big_quiet_skip
      go_big_quiet_skip
      go_big_quiet_want
      go_big_quiet_op
      refine ⟨.bool true, fun wx hx => ?_, ?_⟩
      · simp [go_sem]
      go_big_quiet_on
      go_big_quiet_want
      go_big_quiet_op
      refine ⟨.bool true, fun wx hx => ?_, ?_⟩
      · simp [go_sem]
      go_big_quiet_on
      go_big_quiet_want
      go_big_quiet_op
      go_big_quiet_on
      refine wpQuiet_nil ?_
      intro w15 hb
      have B := hid (B.out.trans (hb.mono B.out.size))
      clear hb
      go_wp2
      go_ret
      exact ⟨rfl, B.out⟩
    · obtain ⟨rfl, rfl⟩ := HTl.out.none hm
      have hmf : (m == 0) = false := by simpa using hm
      obtain ⟨bo, bc, hbv, -, -⟩ := RP.out.ways
      have hbv' : b = .slice bo 0 bc := hbv
      subst hbv'
      go_wp2_with fail
      refine wp_quiet_in (fun wx => Below wz.heap.size wz wx) (by kernel_rfl) (by kernel_rfl) (Below.refl _ _).drew ?_
      go_big_quiet_want
      go_big_quiet_op
      go_big_quiet_on
      go_big_quiet_want
      go_big_quiet_op
      refine ⟨.bool true, fun wx hx => ?_, ?_⟩
      · simp [go_sem]
      go_big_quiet_on
      go_big_quiet_want
      go_big_quiet_op
      go_big_quiet_on
      go_big_quiet_skip
      go_big_quiet_skip
      go_big_quiet_skip
      go_big_quiet_want
      go_big_quiet_op
      refine ⟨.bool true, fun wx hx => ?_, ?_⟩
      · simp [go_sem]
      go_big_quiet_on
      go_big_quiet_want
      go_big_quiet_op
      go_big_quiet_on
      go_big_quiet_want
      go_big_quiet_op
      go_big_quiet_on
      go_big_quiet_want
      go_big_quiet_op
      refine ⟨.bool false, fun wx hx => ?_, ?_⟩
      · simp [go_sem]
      go_big_quiet_on
      go_big_quiet_want
      go_big_quiet_op
      go_big_quiet_on
      go_big_quiet_skip
      go_big_quiet_skip
      go_big_quiet_want
      go_big_quiet_op
      refine ⟨.bool false, fun wx hx => ?_, ?_⟩
      · simp [go_sem]
      go_big_quiet_on
      go_big_quiet_want
      go_big_quiet_op
      go_big_quiet_on
      go_big_quiet_skip
      go_big_quiet_skip
      go_big_quiet_skip
      go_big_quiet_skip
      go_big_quiet_want
      go_big_quiet_op
      refine ⟨.bool false, fun wx hx => ?_, ?_⟩
      · simp [go_sem]
      go_big_quiet_on
      go_big_quiet_want
      go_big_quiet_op
      go_big_quiet_on
      go_big_quiet_skip
      go_big_quiet_skip
      go_big_quiet_skip
      go_big_quiet_skip
      go_big_quiet_skip
      go_big_quiet_skip
      go_big_quiet_want
      go_big_quiet_op
      refine ⟨.bool false, fun wx hx => ?_, ?_⟩
      · simp [go_sem]
      go_big_quiet_on
      go_big_quiet_want
      go_big_quiet_op
      go_big_quiet_on
      go_big_quiet_want
      go_big_quiet_op
      go_big_quiet_on
      go_big_quiet_want
      go_big_quiet_op
      refine ⟨.bool true, fun wx hx => ?_, ?_⟩
      · simp [go_sem, hmf, bne]
      go_big_quiet_on
      go_big_quiet_want
      go_big_quiet_op
      go_big_quiet_on
      go_big_quiet_want
      go_big_quiet_op
      go_big_quiet_on
      go_big_quiet_want
      go_big_quiet_op
      refine ⟨.bool true, fun wx hx => ?_, ?_⟩
      · simp [go_sem]
      go_big_quiet_on
      go_big_quiet_want
      go_big_quiet_op
      refine ⟨.bool true, fun wx hx => ?_, ?_⟩
      · simp [go_sem]
      go_big_quiet_on
      go_big_quiet_want
      go_big_quiet_op
      go_big_quiet_on
      go_big_quiet_want
      go_big_quiet_op
      go_big_quiet_on
      go_big_quiet_want
      go_big_quiet_op
      refine ⟨.int .i64 0, fun wx hx => ?_, ?_⟩
      · simp [go_sem]
      go_big_quiet_on
      go_big_quiet_want
      go_big_quiet_op
      refine ⟨.bool true, fun wx hx => ?_, ?_⟩
      · simp [go_sem]
      go_big_quiet_on
      go_big_quiet_want
      go_big_quiet_op
      refine ⟨.bool true, fun wx hx => ?_, ?_⟩
      · simp [go_sem]
      go_big_quiet_on
      go_big_quiet_want
      go_big_quiet_op
      refine ⟨.bool true, fun wx hx => ?_, ?_⟩
      · simp [go_sem]
      go_big_quiet_on
      go_big_quiet_want
      go_big_quiet_op
      refine ⟨.bool true, fun wx hx => ?_, ?_⟩
      · simp [go_sem]
      go_big_quiet_on
      go_big_quiet_want
      go_big_quiet_op
      go_big_quiet_on
      refine wpQuiet_nil ?_
      intro w15 hb
      have B := hid (B.out.trans (hb.mono B.out.size))
      clear hb
      go_wp2
      go_ret
      exact ⟨rfl, B.out⟩
  · have hrn := HTl.out.bare hq
    subst hrn
    have hqf : (q == 0) = false := by simpa using hq
    by_cases hm : m = 0
    · subst hm
      obtain ⟨hn1, hn2, hshw⟩ := HTl.out.shw rfl
      have HShw := hid hshw
      have hn3 : n ≤ s.size := hn2
      have hn4 : (n : Int) ≤ (s.size : Int) := by omega
      clear hshw
      go_wp2_with fail
      refine wp_quiet_in (fun wx => Below wz.heap.size wz wx) (by kernel_rfl) (by kernel_rfl) (Below.refl _ _).drew ?_
      go_big_quiet_want
      go_big_quiet_op
      go_big_quiet_on
      go_big_quiet_want
      go_big_quiet_op
      refine ⟨.bool false, fun wx hx => ?_, ?_⟩
      · simp [go_sem]
      go_big_quiet_on
      go_big_quiet_want
      go_big_quiet_op
      go_big_quiet_on
      go_big_quiet_want
      go_big_quiet_op
      go_big_quiet_on
      go_big_quiet_want
      go_big_quiet_op
      refine ⟨.int .i64 0, fun wx hx => ?_, ?_⟩
      · simp [go_sem]
      go_big_quiet_on
      go_big_quiet_want
      go_big_quiet_op
      refine ⟨.bool true, fun wx hx => ?_, ?_⟩
      · simp [go_sem]
      go_big_quiet_on
      go_big_quiet_want
      go_big_quiet_op
      refine ⟨.bool true, fun wx hx => ?_, ?_⟩
      · simp [go_sem]
      go_big_quiet_on
      go_big_quiet_want
      go_big_quiet_op
      go_big_quiet_on
      go_big_quiet_want
      go_big_quiet_op
      go_big_quiet_on
      go_big_quiet_want
      go_big_quiet_op
      refine ⟨.bool true, fun wx hx => ?_, ?_⟩
      · simp [go_sem]
      go_big_quiet_on
      go_big_quiet_want
      go_big_quiet_op
      go_big_quiet_on
      go_big_quiet_want
      go_big_quiet_op
      go_big_quiet_on
      go_big_quiet_want
      go_big_quiet_op
      refine ⟨.bool true, fun wx hx => ?_, ?_⟩
      · simp [go_sem] <;> omega
      go_big_quiet_on
      go_big_quiet_want
      go_big_quiet_op
      refine ⟨.bool true, fun wx hx => ?_, ?_⟩
      · simp [go_sem]
      go_big_quiet_on
      go_big_quiet_want
      go_big_quiet_op
      go_big_quiet_on
      go_big_quiet_want
      go_big_quiet_op
      go_big_quiet_on
      go_big_quiet_want
      go_big_quiet_op
      go_big_quiet_on
      go_big_quiet_want
      go_big_quiet_op
      refine ⟨.int .i64 (s.size : Nat), fun wx hx => ?_, ?_⟩
      · simp [go_sem]
      go_big_quiet_on
      go_big_quiet_want
      go_big_quiet_op
      refine ⟨.bool true, fun wx hx => ?_, ?_⟩
      · simp [go_sem] <;> omega
      go_big_quiet_on
      go_big_quiet_want
      go_big_quiet_op
      refine ⟨.bool true, fun wx hx => ?_, ?_⟩
      · simp [go_sem]
      go_big_quiet_on
      go_big_quiet_want
      go_big_quiet_op
      go_big_quiet_on
      go_big_quiet_want
      go_big_quiet_op
      go_big_quiet_on
      go_big_quiet_want
      go_big_quiet_op
      refine ⟨.string (s.extract 0 n), fun wx hx => ?_, ?_⟩
      · refine (HShw.out _ _ (RP.out.on hx) (HG.out.on hx)).mono ?_
        rintro e w9 ⟨rfl, hb9⟩
        exact ⟨rfl, hx.trans (hb9.mono hx.size)⟩
      go_big_quiet_on
      go_big_quiet_want
      go_big_quiet_op
      go_big_quiet_on
      go_big_quiet_want
      go_big_quiet_op
      go_big_quiet_on
      go_big_quiet_want
      go_big_quiet_op
      refine ⟨.string (s.extract 0 n), fun wx hx => ?_, ?_⟩
      · simp [go_sem]
      go_big_quiet_on
      go_big_quiet_want
      go_big_quiet_op
      refine ⟨.bool true, fun wx hx => ?_, ?_⟩
      · simp [go_sem]
      go_big_quiet_on
      go_big_quiet_want
      go_big_quiet_op
      refine ⟨.bool true, fun wx hx => ?_, ?_⟩
      · simp [go_sem]
      go_big_quiet_on
      go_big_quiet_want
      go_big_quiet_op
      go_big_quiet_on
      go_big_quiet_skip
      go_big_quiet_skip
      go_big_quiet_skip
      go_big_quiet_skip
      go_big_quiet_skip
      go_big_quiet_skip
      go_big_quiet_skip
      go_big_quiet_skip
      go_big_quiet_skip
      go_big_quiet_skip
      go_big_quiet_skip
      go_big_quiet_want
      go_big_quiet_op
      refine ⟨.bool true, fun wx hx => ?_, ?_⟩
      · simp [go_sem]
      go_big_quiet_on
      go_big_quiet_want
      go_big_quiet_op
      refine ⟨.bool true, fun wx hx => ?_, ?_⟩
      · simp [go_sem]
      go_big_quiet_on
      go_big_quiet_want
      go_big_quiet_op
      go_big_quiet_on
      refine wpQuiet_nil ?_
      intro w15 hb
      have B := hid (B.out.trans (hb.mono B.out.size))
      clear hb
      go_wp2
      go_ret
      exact ⟨rfl, B.out⟩
    · obtain ⟨rfl, rfl⟩ := HTl.out.none hm
      have hmf : (m == 0) = false := by simpa using hm
      obtain ⟨bo, bc, hbv, -, -⟩ := RP.out.ways
      have hbv' : b = .slice bo 0 bc := hbv
      subst hbv'
      go_wp2_with fail
      refine wp_quiet_in (fun wx => Below wz.heap.size wz wx) (by kernel_rfl) (by kernel_rfl) (Below.refl _ _).drew ?_
      go_big_quiet_want
      go_big_quiet_op
      go_big_quiet_on
      go_big_quiet_want
      go_big_quiet_op
      refine ⟨.bool false, fun wx hx => ?_, ?_⟩
      · simp [go_sem]
      go_big_quiet_on
      go_big_quiet_want
      go_big_quiet_op
      go_big_quiet_on
      go_big_quiet_want
      go_big_quiet_op
      go_big_quiet_on
      go_big_quiet_want
      go_big_quiet_op
      refine ⟨.int .i64 0, fun wx hx => ?_, ?_⟩
      · simp [go_sem]
      go_big_quiet_on
      go_big_quiet_want
      go_big_quiet_op
      refine ⟨.bool true, fun wx hx => ?_, ?_⟩
      · simp [go_sem]
      go_big_quiet_on
      go_big_quiet_want
      go_big_quiet_op
      refine ⟨.bool true, fun wx hx => ?_, ?_⟩
      · simp [go_sem]
      go_big_quiet_on
      go_big_quiet_want
      go_big_quiet_op
      go_big_quiet_on
      go_big_quiet_want
      go_big_quiet_op
      go_big_quiet_on
      go_big_quiet_want
      go_big_quiet_op
      refine ⟨.bool false, fun wx hx => ?_, ?_⟩
      · simp [go_sem]
      go_big_quiet_on
      go_big_quiet_want
      go_big_quiet_op
      go_big_quiet_on
      go_big_quiet_skip
      go_big_quiet_skip
      go_big_quiet_want
      go_big_quiet_op
      refine ⟨.bool false, fun wx hx => ?_, ?_⟩
      · simp [go_sem]
      go_big_quiet_on
      go_big_quiet_want
      go_big_quiet_op
      go_big_quiet_on
      go_big_quiet_skip
      go_big_quiet_skip
      go_big_quiet_skip
      go_big_quiet_skip
      go_big_quiet_want
      go_big_quiet_op
      refine ⟨.bool false, fun wx hx => ?_, ?_⟩
      · simp [go_sem]
      go_big_quiet_on
      go_big_quiet_want
      go_big_quiet_op
      go_big_quiet_on
      go_big_quiet_skip
      go_big_quiet_skip
      go_big_quiet_skip
      go_big_quiet_skip
      go_big_quiet_skip
      go_big_quiet_skip
      go_big_quiet_want
      go_big_quiet_op
      refine ⟨.bool false, fun wx hx => ?_, ?_⟩
      · simp [go_sem]
      go_big_quiet_on
      go_big_quiet_want
      go_big_quiet_op
      go_big_quiet_on
      go_big_quiet_want
      go_big_quiet_op
      go_big_quiet_on
      go_big_quiet_want
      go_big_quiet_op
      refine ⟨.bool true, fun wx hx => ?_, ?_⟩
      · simp [go_sem, hmf, bne]
      go_big_quiet_on
      go_big_quiet_want
      go_big_quiet_op
      go_big_quiet_on
      go_big_quiet_want
      go_big_quiet_op
      go_big_quiet_on
      go_big_quiet_want
      go_big_quiet_op
      refine ⟨.bool true, fun wx hx => ?_, ?_⟩
      · simp [go_sem]
      go_big_quiet_on
      go_big_quiet_want
      go_big_quiet_op
      refine ⟨.bool true, fun wx hx => ?_, ?_⟩
      · simp [go_sem]
      go_big_quiet_on
      go_big_quiet_want
      go_big_quiet_op
      go_big_quiet_on
      go_big_quiet_want
      go_big_quiet_op
      go_big_quiet_on
      go_big_quiet_want
      go_big_quiet_op
      refine ⟨.int .i64 0, fun wx hx => ?_, ?_⟩
      · simp [go_sem]
      go_big_quiet_on
      go_big_quiet_want
      go_big_quiet_op
      refine ⟨.bool true, fun wx hx => ?_, ?_⟩
      · simp [go_sem]
      go_big_quiet_on
      go_big_quiet_want
      go_big_quiet_op
      refine ⟨.bool true, fun wx hx => ?_, ?_⟩
      · simp [go_sem]
      go_big_quiet_on
      go_big_quiet_want
      go_big_quiet_op
      refine ⟨.bool true, fun wx hx => ?_, ?_⟩
      · simp [go_sem]
      go_big_quiet_on
      go_big_quiet_want
      go_big_quiet_op
      refine ⟨.bool true, fun wx hx => ?_, ?_⟩
      · simp [go_sem]
      go_big_quiet_on
      go_big_quiet_want
      go_big_quiet_op
      go_big_quiet_on
      refine wpQuiet_nil ?_
      intro w15 hb
      have B := hid (B.out.trans (hb.mono B.out.size))
      clear hb
      go_wp2
      go_ret
      exact ⟨rfl, B.out⟩
end Go.Proofs.YtiellodbkanciaaGreatDoor.rowBack
