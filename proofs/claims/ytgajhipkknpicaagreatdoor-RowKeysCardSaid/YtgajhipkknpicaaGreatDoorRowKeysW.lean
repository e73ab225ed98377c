/-
  The walk of RowKeys: it answers true; the old memory stays.
-/
import Derived.Test.YtgajhipkknpicaaGreatDoorRowAwake
import Derived.Test.YtgajhipkknpicaaGreatDoorRowFrame
import Derived.Test.YtgajhipkknpicaaGreatDoorRowCut
namespace Go.Proofs.YtgajhipkknpicaaGreatDoor.rowKeys
open Go.RowKit Go.Proofs.YtgajhipkknpicaaGreatDoor.Va Go.Proofs.YtgajhipkknpicaaGreatDoor.Ro
open Num (hid)
theorem key_most (l : Vs) (h : goodR l = true) : (bs (keyR l)).size ≤ 100000 := by
  rw [bs_size, keyR_yes h]
  have h1 := keysV_most l
  have h2 := few h
  omega
theorem wide_drop {l : Vs} (h : Wide l) (k : Nat) : Wide (l.drop k) := fun v hv => h v (List.mem_of_mem_drop hv)
/-- What keys tell of two rows that are cut alike. -/
theorem keys_tell {l m : Vs} (hl : goodR l = true) (hm : goodR m = true) (wl : Wide l) (wm : Wide m) {n : Nat} (h1 : n ≤ l.length) (h2 : n ≤ m.length) :
    cmpR (l.take n) (m.take n) = lexV (l.take n) (m.take n) ∧ Op.bytesLess (bs (keyR (l.take n))).toList (bs (keyR (m.take n))).toList = decide (lexV (l.take n) (m.take n) < 0) ∧ (((bs (keyR (l.take n))).toList == (bs (keyR (m.take n))).toList) = decide (lexV (l.take n) (m.take n) = 0)) := by
  have g1 := good_take hl n
  have g2 := good_take hm n
  obtain ⟨k1, k2⟩ := keys_of (l.take n) (m.take n) (good_each g1 (wide_take wl n)) (good_each g2 (wide_take wm n)) (by rw [List.length_take, List.length_take]; omega)
  rw [keyR_yes g1, keyR_yes g2]
  refine ⟨cmpR_yes g1 g2, ?_, ?_⟩
  · rw [ByteArray.toList_eq, ByteArray.toList_eq]
    exact k1
  · rw [ByteArray.toList_eq, ByteArray.toList_eq, Bool.eq_iff_iff, beq_iff_eq, decide_eq_true_iff]
    exact k2
/-- What the walk wants of the two rows. -/
structure Ks (ao : Option Addr) (cap n : Nat) (l : Vs) : Prop where
  room : n ≤ cap
  key : ∀ k, k ≤ n → ∀ w, RowAt w (.slice ao n cap) l → Glob w → Calls Tryz.prog 16 #[.slice ao k cap] w fun e w' => e = .returned (.string (bs (keyR (l.take k)))) ∧ Below w.heap.size w w'
  rest : ∀ k, k ≤ n → ∀ w, RowAt w (.slice ao n cap) l → Glob w → Calls Tryz.prog 16 #[dropS ao n cap k] w fun e w' => e = .returned (.string (bs (keyR (l.drop k)))) ∧ Below w.heap.size w w'
theorem ks_of {ao : Option Addr} {cap n : Nat} {l : Vs} {w : World} (h : RowAt w (.slice ao n cap) l) (wd : Wide l) : Ks ao cap n l :=
  ⟨h.room.2, fun k hk w h g => Ro.key_any _ _ w (h.take hk) (wide_take wd k) g, fun k hk w h g => Ro.key_any _ _ w (h.drop hk) (wide_drop wd k) g⟩
/-- A number cut by one more than a length lies within it. -/
theorem cut_num (x nl : Nat) : x % (nl + 1) ≤ nl ∧ (x : Int).tmod ((nl : Int) + 1) = ((x % (nl + 1) : Nat) : Int) := by
  refine ⟨Nat.le_of_lt_succ (Nat.mod_lt x (Nat.succ_pos nl)), ?_⟩
  rw [Int.tmod_eq_emod_of_nonneg (by omega)]
  exact (Int.natCast_emod x (nl + 1)).symm

/-- A short length is its own word. -/
theorem wrap_short (k nl : Nat) (h : k ≤ nl) (h' : nl ≤ 65536) : wrap64 (k : Int) = (k : Int) := by
  rw [Num.wrap_i]
  omega

set_option maxRecDepth 100000 in
set_option maxHeartbeats 16000000 in
theorem walk (v : Value) (l : Vs) (v' : Value) (l' : Vs) (c : Int) (w : World) (ra : RowAt w v l) (wd : Wide l) (fw : Few l) (ra' : RowAt w v' l') (wd' : Wide l') (fw' : Few l') (g : Glob w) :
    Calls Tryz.prog 6 #[v, v', .int .i64 c] w fun e w' => e = .returned (.bool true) ∧ Below w.heap.size w w' := by
  have Hg := hid g
  have HT := hid (fun w (h : RowAt w v l) => total_any v l w h (fun x hx => Nat.le_trans (fw.each x hx) (by decide)) (Nat.le_trans fw.len (by decide)))
  have HT' := hid (fun w (h : RowAt w v' l') => total_any v' l' w h (fun x hx => Nat.le_trans (fw'.each x hx) (by decide)) (Nat.le_trans fw'.len (by decide)))
  obtain ⟨ao, cap, hv, -, -⟩ := ra.ways
  obtain ⟨ao', cap', hv', -, -⟩ := ra'.ways
  obtain ⟨nl, hnl⟩ : ∃ k, l.length = k := ⟨_, rfl⟩
  obtain ⟨nm, hnm⟩ : ∃ k, l'.length = k := ⟨_, rfl⟩
  rw [hnl] at hv
  rw [hnm] at hv'
  subst hv hv'
  have HA := hid ra
  have HB := hid ra'
  have HK := hid (ks_of ra wd)
  have HK' := hid (ks_of ra' wd')
  have HGd := hid (fun w (h : RowAt w (.slice ao nl cap) l) => Ro.good_any _ l w h)
  have HGd' := hid (fun w (h : RowAt w (.slice ao' nm cap') l') => Ro.good_any _ l' w h)
  have HNL := hid hnl
  have HNM := hid hnm
  have HW := hid wd
  have HW' := hid wd'
  have hr1 : nl ≤ cap := HK.out.room
  have hr2 : nm ≤ cap' := HK'.out.room
  clear ra wd fw ra' wd' fw' g hnl hnm
  go_enter Tryz.func6, Tryz.ntmps6
  go_wp2_with fail
  refine (awake_any _ Hg.out).mono ?_
  rintro e1 w1 ⟨rfl, hb⟩
  have B := hid hb
  clear hb
  go_wp2_with fail
  refine (HT.out _ (HA.out.on B.out)).mono ?_
  rintro e2 w2 ⟨⟨t, rfl, ht⟩, rfl⟩
  by_cases ht1 : t ≤ 65536
  rotate_left
  · have ht1' : (65536 : Int) < t := by omega
    clear ht1 ht
    go_wp2
    go_ret
    exact ⟨rfl, B.out⟩
  have ht1' : ¬ (65536 : Int) < t := by omega
  clear ht1 ht
  go_wp2_with fail
  refine (HT'.out _ (HB.out.on B.out)).mono ?_
  rintro e2 w2 ⟨⟨t', rfl, ht'⟩, rfl⟩
  by_cases ht2 : t' ≤ 65536
  rotate_left
  · have ht2' : (65536 : Int) < t' := by omega
    clear ht2 ht'
    go_wp2
    go_ret
    exact ⟨rfl, B.out⟩
  have ht2' : ¬ (65536 : Int) < t' := by omega
  clear ht2 ht'
  cases hgl : goodR l
  · rw [hgl] at HGd
    go_wp2_with fail
    refine (HGd.out _ (HA.out.on B.out)).mono ?_
    rintro e3 w3 ⟨rfl, hb⟩
    have B := hid (B.out.trans (hb.mono B.out.size))
    clear hb
    go_wp2
    go_ret
    exact ⟨rfl, B.out⟩
  rw [hgl] at HGd
  go_wp2_with fail
  refine (HGd.out _ (HA.out.on B.out)).mono ?_
  rintro e3 w3 ⟨rfl, hb⟩
  have B := hid (B.out.trans (hb.mono B.out.size))
  clear hb
  cases hgm : goodR l'
  · rw [hgm] at HGd'
    go_wp2_with fail
    refine (HGd'.out _ (HB.out.on B.out)).mono ?_
    rintro e3 w4 ⟨rfl, hb⟩
    have B := hid (B.out.trans (hb.mono B.out.size))
    clear hb
    go_wp2
    go_ret
    exact ⟨rfl, B.out⟩
  rw [hgm] at HGd'
  go_wp2_with fail
  refine (HGd'.out _ (HB.out.on B.out)).mono ?_
  rintro e3 w4 ⟨rfl, hb⟩
  have B := hid (B.out.trans (hb.mono B.out.size))
  clear hb
  have hfew := few hgl
  rw [HNL.out] at hfew
  -- the number at which the first row is cut
  obtain ⟨x, hx⟩ : ∃ x : Nat, IntKind.u64.wrap c = (x : Int) := ⟨(IntKind.u64.wrap c).toNat, by rw [Num.wrap_u]; omega⟩
  have hl1 : IntKind.u64.wrap ((nl : Int) + 1) = ((nl + 1 : Nat) : Int) := by rw [Num.wrap_u]; omega
  have hn0 : ¬ (nl : Int) + 1 = 0 := by omega
  have hn1 : (nl : Int) + 1 ≠ 0 := by omega
  obtain ⟨k, hkn, htm⟩ : ∃ k, k ≤ nl ∧ (x : Int).tmod ((nl : Int) + 1) = (k : Int) := ⟨_, cut_num x nl⟩
  have HTM := hid htm
  clear htm
  have hwk : wrap64 (k : Int) = (k : Int) := wrap_short k nl hkn (Nat.le_trans hfew (by decide))
  have hka : k ≤ cap := Nat.le_trans hkn hr1
  have hkb : (k : Int) ≤ (cap : Int) := Int.ofNat_le.mpr hka
  have hkc : (k : Int) ≤ (nl : Int) := Int.ofNat_le.mpr hkn
  have HKk := hid (HK.out.key k hkn)
  have HKr := hid (HK.out.rest k hkn)
  have HKn := hid (HK.out.key nl (Nat.le_refl _))
  have htk : l.take nl = l := List.take_of_length_le (by rw [HNL.out]; exact Nat.le_refl _)
  have hcut : bs (keyR (l.take k)) ++ bs (keyR (l.drop k)) = bs (keyR l) := by rw [bs_append, keyR_cut hgl]
  have hm1 := key_most (l.take k) (good_take hgl k)
  have hm2 := key_most (l.drop k) (good_drop hgl k)
  rw [htk, ← hcut] at HKn
  clear htk hcut
  generalize bs (keyR (l.take k)) = P at *
  generalize bs (keyR (l.drop k)) = Q at *
  have s1 : ¬ 9223372036854775807 < P.size + Q.size := by omega
  clear hm1 hm2
  have HX0 := hid hx
  clear hx
  have hna : (min (nl : Int) (nm : Int)).toNat ≤ cap := by omega
  have hnb : (min (nl : Int) (nm : Int)).toNat ≤ cap' := by omega
  have hnc : min (nl : Int) (nm : Int) ≤ (cap : Int) := by omega
  have hnd : min (nl : Int) (nm : Int) ≤ (cap' : Int) := by omega
  have hne : ¬ min (nl : Int) (nm : Int) < 0 := by omega
  have hnf : 0 ≤ min (nl : Int) (nm : Int) := by omega
  obtain ⟨hc1, hc2, hc3⟩ := keys_tell hgl hgm HW.out HW'.out (n := (min (nl : Int) (nm : Int)).toNat) (by rw [HNL.out]; omega) (by rw [HNM.out]; omega)
  have HX := hid (HK.out.key (min (nl : Int) (nm : Int)).toNat (by omega))
  have HY := hid (HK'.out.key (min (nl : Int) (nm : Int)).toNat (by omega))
  have HC : Hid (∀ w, RowAt w (.slice ao nl cap) l → RowAt w (.slice ao' nm cap') l' → Calls Tryz.prog 14 #[.slice ao (min (nl : Int) (nm : Int)).toNat cap, .slice ao' (min (nl : Int) (nm : Int)).toNat cap'] w fun e w' => e = .returned (.int .i64 (lexV (l.take (min (nl : Int) (nm : Int)).toNat) (l'.take (min (nl : Int) (nm : Int)).toNat))) ∧ Below w.heap.size w w') := hid (fun w h h' => by
    have h := Ro.compare_any _ _ _ _ w (h.take (k := (min (nl : Int) (nm : Int)).toNat) (by omega)) (h'.take (k := (min (nl : Int) (nm : Int)).toNat) (by omega))
    rw [hc1] at h
    exact h)
  have hways := lexV_ways (l.take (min (nl : Int) (nm : Int)).toNat) (l'.take (min (nl : Int) (nm : Int)).toNat)
  generalize lexV (l.take (min (nl : Int) (nm : Int)).toNat) (l'.take (min (nl : Int) (nm : Int)).toNat) = C at *
  generalize bs (keyR (l.take (min (nl : Int) (nm : Int)).toNat)) = X at *
  generalize bs (keyR (l'.take (min (nl : Int) (nm : Int)).toNat)) = Y at *
  clear hc1
  go_wp2_with fail
  refine (HX.out _ (HA.out.on B.out) (Hg.out.on B.out)).mono ?_
  rintro e3 w5 ⟨rfl, hb⟩
  have B := hid (B.out.trans (hb.mono B.out.size))
  clear hb
  go_wp2_with fail
  refine (HY.out _ (HB.out.on B.out) (Hg.out.on B.out)).mono ?_
  rintro e3 w6 ⟨rfl, hb⟩
  have B := hid (B.out.trans (hb.mono B.out.size))
  clear hb
  have RA := hid (HA.out.on B.out)
  have RB := hid (HB.out.on B.out)
  go_wp2_with fail
  refine wp_quiet_in (fun wx => Below w6.heap.size w6 wx) (by kernel_rfl) (by kernel_rfl) (Below.refl _ _).drew ?_
  go_big_quiet_want
  go_big_quiet_op
  go_big_quiet_on
  go_big_quiet_want
  go_big_quiet_op
  go_big_quiet_on
  go_big_quiet_want
  go_big_quiet_op
  refine ⟨.slice ao (min (nl : Int) (nm : Int)).toNat cap, fun wx hx => ?_, ?_⟩
  · simp [go_sem]
  go_big_quiet_on
  go_big_quiet_want
  go_big_quiet_op
  go_big_quiet_on
  go_big_quiet_want
  go_big_quiet_op
  go_big_quiet_on
  go_big_quiet_want
  go_big_quiet_op
  refine ⟨.slice ao' (min (nl : Int) (nm : Int)).toNat cap', fun wx hx => ?_, ?_⟩
  · simp [go_sem]
  go_big_quiet_on
  go_big_quiet_want
  go_big_quiet_op
  refine ⟨.int .i64 C, fun wx hx => ?_, ?_⟩
  · refine (HC.out _ (RA.out.on hx) (RB.out.on hx)).mono ?_
    rintro e w9 ⟨rfl, hb9⟩
    exact ⟨rfl, hx.trans (hb9.mono hx.size)⟩
  go_big_quiet_on
  go_big_quiet_want
  go_big_quiet_op
  go_big_quiet_on
  refine wpQuiet_nil ?_
  intro w7 hb
  have B := hid (B.out.trans (hb.mono B.out.size))
  clear hb
  have hout : (decide (C < 0) != Op.bytesLess X.toList Y.toList) = false ∧ ((C == 0) != (X.toList == Y.toList)) = false := by
    rw [hc2, hc3]
    have e : (C == 0) = decide (C = 0) := by rw [Bool.eq_iff_iff]; simp
    rw [e]
    simp
  have HO := hid hout
  clear hc2 hc3 hout
  have RA := hid (HA.out.on B.out)
  have RG := hid (Hg.out.on B.out)
  rcases hways with rfl | rfl | rfl
  · obtain ⟨ho1, ho2⟩ := HO.out
    have ho3 : Op.bytesLess X.toList Y.toList = true := by revert ho1; cases Op.bytesLess X.toList Y.toList <;> simp
    have ho4 : (X.toList == Y.toList) = false := by revert ho2; cases (X.toList == Y.toList) <;> simp
    clear ho1 ho2
    have htm := HTM.out
    have hx := HX0.out
    go_wp2_with fail
    refine wp_quiet_in (fun wx => Below w7.heap.size w7 wx) (by kernel_rfl) (by kernel_rfl) (Below.refl _ _).drew ?_
    go_big_quiet_want
    go_big_quiet_op
    go_big_quiet_on
    go_big_quiet_want
    go_big_quiet_op
    go_big_quiet_on
    go_big_quiet_want
    go_big_quiet_op
    refine ⟨.slice ao k cap, fun wx hx => ?_, ?_⟩
    · simp [go_sem]
    go_big_quiet_on
    go_big_quiet_want
    go_big_quiet_op
    refine ⟨.string P, fun wx hx => ?_, ?_⟩
    · refine (HKk.out _ (RA.out.on hx) (RG.out.on hx)).mono ?_
      rintro e w9 ⟨rfl, hb9⟩
      exact ⟨rfl, hx.trans (hb9.mono hx.size)⟩
    go_big_quiet_on
    go_big_quiet_want
    go_big_quiet_op
    go_big_quiet_on
    go_big_quiet_want
    go_big_quiet_op
    go_big_quiet_on
    go_big_quiet_want
    go_big_quiet_op
    refine ⟨dropS ao nl cap k, fun wx hx => ?_, ?_⟩
    · simp [go_sem, dropS]
    go_big_quiet_on
    go_big_quiet_want
    go_big_quiet_op
    refine ⟨.string Q, fun wx hx => ?_, ?_⟩
    · refine (HKr.out _ (RA.out.on hx) (RG.out.on hx)).mono ?_
      rintro e w9 ⟨rfl, hb9⟩
      exact ⟨rfl, hx.trans (hb9.mono hx.size)⟩
    go_big_quiet_on
    go_big_quiet_want
    go_big_quiet_op
    refine ⟨.string (P ++ Q), fun wx hx => ?_, ?_⟩
    · simp [go_sem]
    go_big_quiet_on
    go_big_quiet_want
    go_big_quiet_op
    go_big_quiet_on
    go_big_quiet_want
    go_big_quiet_op
    refine ⟨.string (P ++ Q), fun wx hx => ?_, ?_⟩
    · refine (HKn.out _ (RA.out.on hx) (RG.out.on hx)).mono ?_
      rintro e w9 ⟨rfl, hb9⟩
      exact ⟨rfl, hx.trans (hb9.mono hx.size)⟩
    go_big_quiet_on
    go_big_quiet_want
    go_big_quiet_op
    refine ⟨.bool true, fun wx hx => ?_, ?_⟩
    · simp [go_sem]
    go_big_quiet_on
    go_big_quiet_want
    go_big_quiet_op
    go_big_quiet_on
    refine wpQuiet_nil ?_
    intro w8 hb
    have B := hid (B.out.trans (hb.mono B.out.size))
    clear hb
    go_wp2
    go_ret
    exact ⟨rfl, B.out⟩
  · obtain ⟨ho1, ho2⟩ := HO.out
    have ho3 : Op.bytesLess X.toList Y.toList = false := by revert ho1; cases Op.bytesLess X.toList Y.toList <;> simp
    have ho4 : (X.toList == Y.toList) = true := by revert ho2; cases (X.toList == Y.toList) <;> simp
    clear ho1 ho2
    have htm := HTM.out
    have hx := HX0.out
    go_wp2_with fail
    refine wp_quiet_in (fun wx => Below w7.heap.size w7 wx) (by kernel_rfl) (by kernel_rfl) (Below.refl _ _).drew ?_
    go_big_quiet_want
    go_big_quiet_op
    go_big_quiet_on
    go_big_quiet_want
    go_big_quiet_op
    go_big_quiet_on
    go_big_quiet_want
    go_big_quiet_op
    refine ⟨.slice ao k cap, fun wx hx => ?_, ?_⟩
    · simp [go_sem]
    go_big_quiet_on
    go_big_quiet_want
    go_big_quiet_op
    refine ⟨.string P, fun wx hx => ?_, ?_⟩
    · refine (HKk.out _ (RA.out.on hx) (RG.out.on hx)).mono ?_
      rintro e w9 ⟨rfl, hb9⟩
      exact ⟨rfl, hx.trans (hb9.mono hx.size)⟩
    go_big_quiet_on
    go_big_quiet_want
    go_big_quiet_op
    go_big_quiet_on
    go_big_quiet_want
    go_big_quiet_op
    go_big_quiet_on
    go_big_quiet_want
    go_big_quiet_op
    refine ⟨dropS ao nl cap k, fun wx hx => ?_, ?_⟩
    · simp [go_sem, dropS]
    go_big_quiet_on
    go_big_quiet_want
    go_big_quiet_op
    refine ⟨.string Q, fun wx hx => ?_, ?_⟩
    · refine (HKr.out _ (RA.out.on hx) (RG.out.on hx)).mono ?_
      rintro e w9 ⟨rfl, hb9⟩
      exact ⟨rfl, hx.trans (hb9.mono hx.size)⟩
    go_big_quiet_on
    go_big_quiet_want
    go_big_quiet_op
    refine ⟨.string (P ++ Q), fun wx hx => ?_, ?_⟩
    · simp [go_sem]
    go_big_quiet_on
    go_big_quiet_want
    go_big_quiet_op
    go_big_quiet_on
    go_big_quiet_want
    go_big_quiet_op
    refine ⟨.string (P ++ Q), fun wx hx => ?_, ?_⟩
    · refine (HKn.out _ (RA.out.on hx) (RG.out.on hx)).mono ?_
      rintro e w9 ⟨rfl, hb9⟩
      exact ⟨rfl, hx.trans (hb9.mono hx.size)⟩
    go_big_quiet_on
    go_big_quiet_want
    go_big_quiet_op
    refine ⟨.bool true, fun wx hx => ?_, ?_⟩
    · simp [go_sem]
    go_big_quiet_on
    go_big_quiet_want
    go_big_quiet_op
    go_big_quiet_on
    refine wpQuiet_nil ?_
    intro w8 hb
    have B := hid (B.out.trans (hb.mono B.out.size))
    clear hb
    go_wp2
    go_ret
    exact ⟨rfl, B.out⟩
  · obtain ⟨ho1, ho2⟩ := HO.out
    have ho3 : Op.bytesLess X.toList Y.toList = false := by revert ho1; cases Op.bytesLess X.toList Y.toList <;> simp
    have ho4 : (X.toList == Y.toList) = false := by revert ho2; cases (X.toList == Y.toList) <;> simp
    clear ho1 ho2
    have htm := HTM.out
    have hx := HX0.out
    go_wp2_with fail
    refine wp_quiet_in (fun wx => Below w7.heap.size w7 wx) (by kernel_rfl) (by kernel_rfl) (Below.refl _ _).drew ?_
    go_big_quiet_want
    go_big_quiet_op
    go_big_quiet_on
    go_big_quiet_want
    go_big_quiet_op
    go_big_quiet_on
    go_big_quiet_want
    go_big_quiet_op
    refine ⟨.slice ao k cap, fun wx hx => ?_, ?_⟩
    · simp [go_sem]
    go_big_quiet_on
    go_big_quiet_want
    go_big_quiet_op
    refine ⟨.string P, fun wx hx => ?_, ?_⟩
    · refine (HKk.out _ (RA.out.on hx) (RG.out.on hx)).mono ?_
      rintro e w9 ⟨rfl, hb9⟩
      exact ⟨rfl, hx.trans (hb9.mono hx.size)⟩
    go_big_quiet_on
    go_big_quiet_want
    go_big_quiet_op
    go_big_quiet_on
    go_big_quiet_want
    go_big_quiet_op
    go_big_quiet_on
    go_big_quiet_want
    go_big_quiet_op
    refine ⟨dropS ao nl cap k, fun wx hx => ?_, ?_⟩
    · simp [go_sem, dropS]
    go_big_quiet_on
    go_big_quiet_want
    go_big_quiet_op
    refine ⟨.string Q, fun wx hx => ?_, ?_⟩
    · refine (HKr.out _ (RA.out.on hx) (RG.out.on hx)).mono ?_
      rintro e w9 ⟨rfl, hb9⟩
      exact ⟨rfl, hx.trans (hb9.mono hx.size)⟩
    go_big_quiet_on
    go_big_quiet_want
    go_big_quiet_op
    refine ⟨.string (P ++ Q), fun wx hx => ?_, ?_⟩
    · simp [go_sem]
    go_big_quiet_on
    go_big_quiet_want
    go_big_quiet_op
    go_big_quiet_on
    go_big_quiet_want
    go_big_quiet_op
    refine ⟨.string (P ++ Q), fun wx hx => ?_, ?_⟩
    · refine (HKn.out _ (RA.out.on hx) (RG.out.on hx)).mono ?_
      rintro e w9 ⟨rfl, hb9⟩
      exact ⟨rfl, hx.trans (hb9.mono hx.size)⟩
    go_big_quiet_on
    go_big_quiet_want
    go_big_quiet_op
    refine ⟨.bool true, fun wx hx => ?_, ?_⟩
    · simp [go_sem]
    go_big_quiet_on
    go_big_quiet_want
    go_big_quiet_op
    go_big_quiet_on
    refine wpQuiet_nil ?_
    intro w8 hb
    have B := hid (B.out.trans (hb.mono B.out.size))
    clear hb
    go_wp2
    go_ret
    exact ⟨rfl, B.out⟩
end Go.Proofs.YtgajhipkknpicaaGreatDoor.rowKeys
