/-
  Contract of the project's Unkey.
-/
import Derived.Test.YtpabhekbkdpkiaaDoorValOwn
import Derived.Test.YtpabhekbkdpkiaaDoorNumUnfixed
namespace Go.Proofs.YtpabhekbkdpkiaaDoor
open Go.RowKit
namespace Va
open Num (hid unfF)
theorem hp_any (s p : ByteArray) (w : World) : Calls Tryd.prog 38 #[.string s, .string p] w fun e w' => e = .returned (.bool (Lib.hasPrefix (bl s) (bl p))) ∧ w = w' :=
  (Any.strings_HasPrefix Tryd.prefL s p w).mono fun _ _ h => ⟨h.1, h.2.symm⟩
theorem hp_c (s p : ByteArray) (q : Bool) (h : (bl p).isPrefixOf (bl s) = q) (w : World) : Calls Tryd.prog 38 #[.string s, .string p] w fun e w' => e = .returned (.bool q) ∧ w = w' := by
  have := hp_any s p w
  rw [show Lib.hasPrefix (bl s) (bl p) = q from h] at this
  exact this
def kbV : Rd → Value
  | .ok out n => .tuple #[.string (bs out), .int .i64 n, .int .i64 0]
  | .short => .tuple #[.string ⟨#[]⟩, .int .i64 0, .int .i64 3]
  | .form => .tuple #[.string ⟨#[]⟩, .int .i64 0, .int .i64 4]
theorem rest_list (s : ByteArray) (k : Nat) : (s.extract k s.size).data.toList = (bl s).drop k := by
  rw [ByteArray.data_extract]
  simp only [Array.toList_extract, List.extract_eq_take_drop]
  exact List.take_of_length_le (by simp)
theorem rest_cons {s : ByteArray} {k : Nat} (h : k < s.size) : (bl s).drop k = s[k] :: (bl s).drop (k + 1) := by
  rw [List.drop_eq_getElem_cons (by rw [bl_len]; exact h)]; rfl
theorem on_on (x : Rd) (p q : Bs) (k m : Nat) : (x.on p k).on q m = x.on (q ++ p) (m + k) := by
  cases x <;> simp [Rd.on, Nat.add_assoc]
theorem unst_cons (r : Nat) (b : UInt8) (l : Bs) : unst r (b :: l) = if b = 0 then (match l with
    | [] => .short
    | c :: l' => if c = 1 then .ok [] 2 else if c = 255 then (if r = 0 then .form else (unst (r - 1) l').on [0] 2) else .form) else if r = 0 then .form else (unst (r - 1) l).on [b] 1 := by
  cases r with
  | zero =>
    simp only [unst]
    split
    · cases l with
      | nil => rfl
      | cons c l => simp only; split <;> (try split) <;> simp
    · simp
  | succ r =>
    simp only [unst]
    split
    · cases l with
      | nil => rfl
      | cons c l => simp
    · simp
theorem un_ways (s : ByteArray) (k : Nat) (h : k < s.size) (r : Nat) :
    (((s.extract k s.size).toList == [0]) = true ∧ unst r ((bl s).drop k) = .short) ∨
    (((s.extract k s.size).toList == [0]) = false ∧ [0, 1].isPrefixOf (bl (s.extract k s.size)) = true ∧ k + 2 ≤ s.size ∧ unst r ((bl s).drop k) = .ok [] 2) ∨
    (((s.extract k s.size).toList == [0]) = false ∧ [0, 1].isPrefixOf (bl (s.extract k s.size)) = false ∧ [0, 255].isPrefixOf (bl (s.extract k s.size)) = true ∧ k + 1 < s.size ∧ s[k] = 0 ∧
      unst r ((bl s).drop k) = if r = 0 then .form else (unst (r - 1) ((bl s).drop (k + 2))).on [0] 2) ∨
    (((s.extract k s.size).toList == [0]) = false ∧ [0, 1].isPrefixOf (bl (s.extract k s.size)) = false ∧ [0, 255].isPrefixOf (bl (s.extract k s.size)) = false ∧ ((s[k].toNat : Int) == 0) = true ∧ unst r ((bl s).drop k) = .form) ∨
    (((s.extract k s.size).toList == [0]) = false ∧ [0, 1].isPrefixOf (bl (s.extract k s.size)) = false ∧ [0, 255].isPrefixOf (bl (s.extract k s.size)) = false ∧ ((s[k].toNat : Int) == 0) = false ∧
      unst r ((bl s).drop k) = if r = 0 then .form else (unst (r - 1) ((bl s).drop (k + 1))).on [s[k]] 1) := by
  have e0 : (s.extract k s.size).toList = (bl s).drop k := by rw [ByteArray.toList_eq]; exact rest_list s k
  have e1 : bl (s.extract k s.size) = (bl s).drop k := rest_list s k
  rw [e0, e1, rest_cons h, unst_cons]
  by_cases hb : s[k] = 0
  · have hbn : ((s[k].toNat : Int) == 0) = true := by rw [hb]; rfl
    rw [if_pos hb, hb]
    have hd2 : ((bl s).drop (k + 1)).drop 1 = (bl s).drop (k + 2) := by rw [List.drop_drop]
    have hln : ((bl s).drop (k + 1)).length = s.size - (k + 1) := by rw [List.length_drop, bl_len]
    cases hl : (bl s).drop (k + 1) with
    | nil => exact Or.inl ⟨by decide, rfl⟩
    | cons c l =>
      rw [hl] at hd2 hln
      simp only [List.length_cons] at hln
      simp only [List.drop_succ_cons, List.drop_zero] at hd2
      by_cases h1 : c = 1
      · subst h1
        exact Or.inr (Or.inl ⟨by simp, by simp [List.isPrefixOf], by omega, by simp⟩)
      · by_cases h2 : c = 255
        · subst h2
          exact Or.inr (Or.inr (Or.inl ⟨by simp, by simp [List.isPrefixOf], by simp [List.isPrefixOf], by omega, rfl, by simp [hd2]⟩))
        · exact Or.inr (Or.inr (Or.inr (Or.inl ⟨by simp, by simp [List.isPrefixOf, Ne.symm h1], by simp [List.isPrefixOf, Ne.symm h2], by rw [← hb]; exact hbn, by simp [h1, h2]⟩)))
  · have hbn : ((s[k].toNat : Int) == 0) = false := by
      simp only [beq_eq_false_iff_ne, ne_eq]
      intro e
      exact hb (UInt8.toNat_inj.1 (by show s[k].toNat = 0; omega))
    rw [if_neg hb]
    exact Or.inr (Or.inr (Or.inr (Or.inr ⟨by simp [hb], by simp [List.isPrefixOf, Ne.symm hb], by simp [List.isPrefixOf, Ne.symm hb], hbn, rfl⟩)))
set_option maxRecDepth 100000 in
set_option maxHeartbeats 4000000 in
theorem kbytes_any (s : ByteArray) (hs : s.size ≤ maxLen) (w : World) :
    Calls Tryd.prog 36 #[.string s] w fun e w' => e = .returned (kbV (unst 2000 (bl s))) ∧ Below w.heap.size w w' := by
  replace hs : s.size ≤ 9223372036854775807 := by unfold maxLen at hs; omega
  have hzz : (((⟨#[0]⟩ : ByteArray)[0]).toNat : Int) = 0 := rfl
  go_enter Tryd.func36, Tryd.ntmps36
  go_wp2
  go_loopw [5, 6] (fun v i wr => ∃ (k : Nat) (acc : Bs), k ≤ s.size ∧ i = .int .i64 k ∧ OwnB wr w.heap.size v acc ∧ acc.length ≤ 2000 ∧ Hid (unst 2000 (bl s) = (unst (2000 - acc.length) ((bl s).drop k)).on acc k) ∧ Below w.heap.size w wr) (fun _ i _ => s.size - (intOf i).toNat)
  case atStart => exact ⟨0, [], Nat.zero_le _, rfl, own_none _ _, Nat.zero_le _, hid (by
    rw [List.drop_zero]
    cases unst (2000 - ([] : Bs).length) (bl s) <;> simp [Rd.on]), Below.refl _ _⟩
  case round =>
    obtain ⟨k, acc, hk, rfl, hown, hacc, HU, hbel⟩ := hrel
    have HB := hid hbel
    have hszr := hbel.size
    clear hbel
    by_cases hlt : k < s.size
    · have hU := HU.out
      rcases own_ways hown with ⟨rfl, h0⟩ | ⟨g, cap, rfl⟩
      · have HE := hid h0
        have HO := hid hown
        clear h0 hown
        rcases un_ways s k hlt (2000 - acc.length) with ⟨h0, hR⟩ | ⟨h0, h1, hk2, hR⟩ | ⟨h0, h1, h2, hk1, hb0, hR⟩ | ⟨h0, h1, h2, hb0, hR⟩ | ⟨h0, h1, h2, hb0, hR⟩
        · rw [hR] at hU
          have HV := hid (show unst 2000 (bl s) = .short from hU)
          clear hU hR
          go_wp2
          go_ret3
          rw [HV.out]
          exact ⟨rfl, HB.out⟩
        · rw [hR] at hU
          have HV := hid (show unst 2000 (bl s) = .ok (acc ++ []) (k + 2) from hU)
          have hcv := conv_all HO.out
          have H1 := hid h1
          clear hU hR h1
          go_wp2_with fail
          refine (hp_c _ ⟨#[0, 1]⟩ true H1.out _).mono ?_
          rintro e w' ⟨rfl, rfl⟩
          go_wp2
          go_ret3
          rw [HV.out, List.append_nil]
          exact ⟨rfl, HB.out⟩
        · have H1 := hid h1
          have H2 := hid h2
          have H0 := hid hb0
          clear h1 h2 hb0
          rw [if_neg (by rw [HE.out]; decide)] at hR
          rw [hR, on_on] at hU
          have HV := hid hU
          clear hU hR
          go_wp2_with fail
          refine (hp_c _ ⟨#[0, 1]⟩ false H1.out _).mono ?_
          rintro e w' ⟨rfl, rfl⟩
          go_wp2_with fail
          refine (hp_c _ ⟨#[0, 255]⟩ true H2.out _).mono ?_
          rintro e w' ⟨rfl, rfl⟩
          go_wp2_with (at_builtin; go_must (refine wpList_append_bytes rfl _ _ rfl w.heap.size _ acc rfl (own_on HO.out ((Below.refl _ _).alloc (Nat.le_refl _) _)) (HB.out.alloc hszr _) (by simp; omega) wr.heap.size [s[k]] rfl (new_one wr s[k]) (by simp only [List.length_cons, List.length_nil]; omega) ?_))
          intro v' w2 hown2 hbel2
          have HO2 := hid hown2
          have HB2 := hid hbel2
          clear hown2 hbel2
          go_wp2
          go_roundw
          case rel =>
            refine ⟨k + 2, acc ++ [s[k]], by omega, by go_num, HO2.out, by rw [List.length_append, HE.out]; simp, ?_, HB2.out⟩
            have h := HV.out
            rw [H0.out, List.length_append, List.length_singleton, Nat.sub_add_eq]
            exact hid h
          case measure => simp [intOf]; omega
        · rw [hR] at hU
          have HV := hid (show unst 2000 (bl s) = .form from hU)
          have H1 := hid h1
          have H2 := hid h2
          clear hU hR h1 h2
          go_wp2_with fail
          refine (hp_c _ ⟨#[0, 1]⟩ false H1.out _).mono ?_
          rintro e w' ⟨rfl, rfl⟩
          go_wp2_with fail
          refine (hp_c _ ⟨#[0, 255]⟩ false H2.out _).mono ?_
          rintro e w' ⟨rfl, rfl⟩
          go_wp2
          go_ret3
          rw [HV.out]
          exact ⟨rfl, HB.out⟩
        · have H1 := hid h1
          have H2 := hid h2
          clear h1 h2
          rw [if_neg (by rw [HE.out]; decide)] at hR
          rw [hR, on_on] at hU
          have HV := hid hU
          clear hU hR
          go_wp2_with fail
          refine (hp_c _ ⟨#[0, 1]⟩ false H1.out _).mono ?_
          rintro e w' ⟨rfl, rfl⟩
          go_wp2_with fail
          refine (hp_c _ ⟨#[0, 255]⟩ false H2.out _).mono ?_
          rintro e w' ⟨rfl, rfl⟩
          go_wp2_with (at_builtin; go_must (refine wpList_append_bytes rfl _ _ rfl w.heap.size _ acc rfl (own_on HO.out ((Below.refl _ _).alloc (Nat.le_refl _) _)) (HB.out.alloc hszr _) (by simp; omega) wr.heap.size [s[k]] rfl (new_one wr s[k]) (by simp only [List.length_cons, List.length_nil]; omega) ?_))
          intro v' w2 hown2 hbel2
          have HO2 := hid hown2
          have HB2 := hid hbel2
          clear hown2 hbel2
          go_wp2
          go_roundw
          case rel =>
            refine ⟨k + 1, acc ++ [s[k]], by omega, by go_num, HO2.out, by rw [List.length_append, HE.out]; simp, ?_, HB2.out⟩
            have h := HV.out
            rw [List.length_append, List.length_singleton, Nat.sub_add_eq]
            exact hid h
          case measure => simp [intOf]; omega
      · have HO := hid hown
        clear hown
        rcases un_ways s k hlt (2000 - acc.length) with ⟨h0, hR⟩ | ⟨h0, h1, hk2, hR⟩ | ⟨h0, h1, h2, hk1, hb0, hR⟩ | ⟨h0, h1, h2, hb0, hR⟩ | ⟨h0, h1, h2, hb0, hR⟩
        · rw [hR] at hU
          have HV := hid (show unst 2000 (bl s) = .short from hU)
          clear hU hR
          go_wp2
          go_ret3
          rw [HV.out]
          exact ⟨rfl, HB.out⟩
        · rw [hR] at hU
          have HV := hid (show unst 2000 (bl s) = .ok (acc ++ []) (k + 2) from hU)
          have hcv := conv_all HO.out
          have H1 := hid h1
          clear hU hR h1
          go_wp2_with fail
          refine (hp_c _ ⟨#[0, 1]⟩ true H1.out _).mono ?_
          rintro e w' ⟨rfl, rfl⟩
          go_wp2
          go_ret3
          rw [HV.out, List.append_nil]
          exact ⟨rfl, HB.out⟩
        · have H1 := hid h1
          have H2 := hid h2
          have H0 := hid hb0
          clear h1 h2 hb0
          by_cases hf : acc.length = 2000
          · rw [if_pos (by omega)] at hR
            have hfe : ((acc.length : Int) == 2000) = true := by simp only [beq_iff_eq]; omega
            clear hf
            rw [hR] at hU
            have HV := hid (show unst 2000 (bl s) = .form from hU)
            clear hU hR
            go_wp2_with fail
            refine (hp_c _ ⟨#[0, 1]⟩ false H1.out _).mono ?_
            rintro e w' ⟨rfl, rfl⟩
            go_wp2_with fail
            refine (hp_c _ ⟨#[0, 255]⟩ true H2.out _).mono ?_
            rintro e w' ⟨rfl, rfl⟩
            go_wp2
            go_ret3
            rw [HV.out]
            exact ⟨rfl, HB.out⟩
          · rw [if_neg (by omega)] at hR
            have hfe : ((acc.length : Int) == 2000) = false := by simp only [beq_eq_false_iff_ne, ne_eq]; omega
            have HF := hid hf
            clear hf
            rw [hR, on_on] at hU
            have HV := hid hU
            clear hU hR
            go_wp2_with fail
            refine (hp_c _ ⟨#[0, 1]⟩ false H1.out _).mono ?_
            rintro e w' ⟨rfl, rfl⟩
            go_wp2_with fail
            refine (hp_c _ ⟨#[0, 255]⟩ true H2.out _).mono ?_
            rintro e w' ⟨rfl, rfl⟩
            go_wp2_with (at_builtin; go_must (refine wpList_append_bytes rfl _ _ rfl w.heap.size _ acc rfl (own_on HO.out ((Below.refl _ _).alloc (Nat.le_refl _) _)) (HB.out.alloc hszr _) (by simp; omega) wr.heap.size [s[k]] rfl (new_one wr s[k]) (by simp only [List.length_cons, List.length_nil]; omega) ?_))
            intro v' w2 hown2 hbel2
            have HO2 := hid hown2
            have HB2 := hid hbel2
            clear hown2 hbel2
            go_wp2
            go_roundw
            case rel =>
              refine ⟨k + 2, acc ++ [s[k]], by omega, by go_num, HO2.out, by have := HF.out; simp only [List.length_append, List.length_cons, List.length_nil]; omega, ?_, HB2.out⟩
              have h := HV.out
              rw [H0.out, List.length_append, List.length_singleton, Nat.sub_add_eq]
              exact hid h
            case measure => simp [intOf]; omega
        · rw [hR] at hU
          have HV := hid (show unst 2000 (bl s) = .form from hU)
          have H1 := hid h1
          have H2 := hid h2
          clear hU hR h1 h2
          go_wp2_with fail
          refine (hp_c _ ⟨#[0, 1]⟩ false H1.out _).mono ?_
          rintro e w' ⟨rfl, rfl⟩
          go_wp2_with fail
          refine (hp_c _ ⟨#[0, 255]⟩ false H2.out _).mono ?_
          rintro e w' ⟨rfl, rfl⟩
          go_wp2
          go_ret3
          rw [HV.out]
          exact ⟨rfl, HB.out⟩
        · have H1 := hid h1
          have H2 := hid h2
          clear h1 h2
          by_cases hf : acc.length = 2000
          · rw [if_pos (by omega)] at hR
            have hfe : ((acc.length : Int) == 2000) = true := by simp only [beq_iff_eq]; omega
            clear hf
            rw [hR] at hU
            have HV := hid (show unst 2000 (bl s) = .form from hU)
            clear hU hR
            go_wp2_with fail
            refine (hp_c _ ⟨#[0, 1]⟩ false H1.out _).mono ?_
            rintro e w' ⟨rfl, rfl⟩
            go_wp2_with fail
            refine (hp_c _ ⟨#[0, 255]⟩ false H2.out _).mono ?_
            rintro e w' ⟨rfl, rfl⟩
            go_wp2
            go_ret3
            rw [HV.out]
            exact ⟨rfl, HB.out⟩
          · rw [if_neg (by omega)] at hR
            have hfe : ((acc.length : Int) == 2000) = false := by simp only [beq_eq_false_iff_ne, ne_eq]; omega
            have HF := hid hf
            clear hf
            rw [hR, on_on] at hU
            have HV := hid hU
            clear hU hR
            go_wp2_with fail
            refine (hp_c _ ⟨#[0, 1]⟩ false H1.out _).mono ?_
            rintro e w' ⟨rfl, rfl⟩
            go_wp2_with fail
            refine (hp_c _ ⟨#[0, 255]⟩ false H2.out _).mono ?_
            rintro e w' ⟨rfl, rfl⟩
            go_wp2_with (at_builtin; go_must (refine wpList_append_bytes rfl _ _ rfl w.heap.size _ acc rfl (own_on HO.out ((Below.refl _ _).alloc (Nat.le_refl _) _)) (HB.out.alloc hszr _) (by simp; omega) wr.heap.size [s[k]] rfl (new_one wr s[k]) (by simp only [List.length_cons, List.length_nil]; omega) ?_))
            intro v' w2 hown2 hbel2
            have HO2 := hid hown2
            have HB2 := hid hbel2
            clear hown2 hbel2
            go_wp2
            go_roundw
            case rel =>
              refine ⟨k + 1, acc ++ [s[k]], by omega, by go_num, HO2.out, by have := HF.out; simp only [List.length_append, List.length_cons, List.length_nil]; omega, ?_, HB2.out⟩
              have h := HV.out
              rw [List.length_append, List.length_singleton, Nat.sub_add_eq]
              exact hid h
            case measure => simp [intOf]; omega
    · have hU := HU.out
      rw [List.drop_of_length_le (by rw [bl_len]; omega)] at hU
      have HV := hid (show unst 2000 (bl s) = .short by
        rw [hU]
        cases 2000 - acc.length <;> rfl)
      clear hU
      go_wp2
      go_ret3
      rw [HV.out]
      exact ⟨rfl, HB.out⟩
theorem i64_back {x : Nat} (h : x < 18446744073709551616) : IntKind.i64.wrap (IntKind.u64.wrap ((x : Int) - 9223372036854775808)) = (x : Int) - 9223372036854775808 := by
  rw [Num.wrap_u]
  unfold IntKind.wrap
  simp [IntKind.bits, IntKind.signed]
  omega
def kiV (s : ByteArray) : Value := if s.size < 8 then .tuple #[.int .i64 0, .int .i64 0, .int .i64 3] else .tuple #[.int .i64 ((unfF 0 ((bl s).take 8) : Nat) - 9223372036854775808), .int .i64 8, .int .i64 0]
theorem unf8_take (l : Bs) : unfF 0 (l.take 8) < 18446744073709551616 := by
  have h1 := Num.unfF_lt (l.take 8) 0
  have h2 : (256 : Nat) ^ (l.take 8).length ≤ 256 ^ 8 := Nat.pow_le_pow_right (by decide) (List.length_take_le _ _)
  have e : (256 : Nat) ^ 8 = 18446744073709551616 := by decide
  omega
theorem unfixed8 (s : ByteArray) (h : 8 ≤ s.size) (w : World) :
    Calls Tryd.prog 50 #[.string (s.extract 0 8)] w fun e w' => e = .returned (.tuple #[.int .u64 (unfF 0 ((bl s).take 8) : Nat), .int .i64 0]) ∧ w = w' := by
  have hu := Num.unfixed_any (s.extract 0 8) w
  have e : (s.extract 0 8).data.toList = (bl s).take 8 := by
    rw [ByteArray.data_extract]
    simp [bl]
  rw [e] at hu
  have e2 : Num.unfixL ((bl s).take 8) = (unfF 0 ((bl s).take 8), 0) := by
    unfold Num.unfixL
    rw [if_pos]
    rw [List.length_take, bl_len]
    omega
  rw [e2] at hu
  exact hu
set_option maxRecDepth 100000 in
set_option maxHeartbeats 1000000 in
theorem kint_any (s : ByteArray) (w : World) :
    Calls Tryd.prog 35 #[.string s] w fun e w' => e = .returned (kiV s) ∧ w = w' := by
  by_cases h : s.size < 8
  · rw [show kiV s = .tuple #[.int .i64 0, .int .i64 0, .int .i64 3] from if_pos h]
    go_enter Tryd.func35, Tryd.ntmps35
    go_wp2
    go_ret3
    exact ⟨rfl, rfl⟩
  · rw [show kiV s = .tuple #[.int .i64 ((unfF 0 ((bl s).take 8) : Nat) - 9223372036854775808), .int .i64 8, .int .i64 0] from if_neg h]
    have hc := hid (unfixed8 s (by omega))
    have hw := i64_back (unf8_take (bl s))
    have h8 : 8 ≤ s.size := by omega
    have h8' : (8 : Int) ≤ (s.size : Int) := by omega
    generalize unfF 0 ((bl s).take 8) = x at *
    go_enter Tryd.func35, Tryd.ntmps35
    go_wp2_with fail
    refine (hc.out _).mono ?_
    rintro e w' ⟨rfl, rfl⟩
    go_wp2
    go_ret3
    exact ⟨rfl, rfl⟩
end Va
end Go.Proofs.YtpabhekbkdpkiaaDoor
