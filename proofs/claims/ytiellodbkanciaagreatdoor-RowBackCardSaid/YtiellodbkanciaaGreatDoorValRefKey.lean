/-
  Contract of the reference's Key.
-/
import Derived.Test.YtiellodbkanciaaGreatDoorGrpValB
import Derived.Test.YtiellodbkanciaaGreatDoorGrpNum
namespace Go.Proofs.YtiellodbkanciaaGreatDoor
open Go.RowKit
namespace Va
open Num (hid fixF)
theorem rfix8_off (N : Int) (hN : InI N) (w : World) :
    Calls Tryz.prog 93 #[.int .u64 (off N), .int .i64 8] w fun e w' => e = .returned (.string (bs (fixF 8 (off N)))) ∧ Below w.heap.size w w' :=
  (Num.rfixed_any (off N) (off_lt hN) 8 w).mono fun _ _ h => h
theorem stuff_snoc (l : Bs) (b : UInt8) : stuff (l ++ [b]) = stuff l ++ (if b = 0 then [0, 255] else [b]) := by
  induction l with
  | nil => rw [List.nil_append, stuff_cons]; simp [stuff]
  | cons a l ih => rw [List.cons_append, stuff_cons, ih, stuff_cons, List.append_assoc]
set_option maxRecDepth 100000 in
set_option maxHeartbeats 2000000 in
theorem rkey_any (K N : Int) (S : ByteArray) (hN : InI N) (w : World) :
    Calls Tryz.prog 73 #[.agg #[.int .i64 K, .int .i64 N, .string S]] w fun e w' => e = .returned (.string (keyS K N S)) ∧ Below w.heap.size w w' := by
  have B1 : Hid (Below w.heap.size w (w.alloc (.cells #[.int .i64 K, .int .i64 N, .string S] 78))) := hid ((Below.refl _ _).alloc (Nat.le_refl _) _)
  have X1 : Hid (Bx w.heap.size K N S (w.alloc (.cells #[.int .i64 K, .int .i64 N, .string S] 78))) := hid (Bx.new K N S w)
  have G := rgood_any K N S
  cases hg : goodB K N S with
  | false =>
    rw [key_bad hg]
    rw [hg] at G
    have HG := hid G
    clear G hg
    go_enter Tryz.func73, Tryz.ntmps73
    go_wp2_with fail
    refine (HG.out _).mono ?_
    rintro e w3 ⟨rfl, hb3⟩
    have B3 := hid (B1.out.trans (hb3.mono B1.out.size))
    clear hb3
    go_wp2
    go_ret
    exact ⟨rfl, B3.out⟩
  | true =>
    rw [hg] at G
    have HG := hid G
    clear G
    have gg := good_of hg
    have hz := hid (good_size hg)
    have HN := hid hN
    rcases gg with ⟨rfl, rfl, hS⟩ | ⟨rfl, hS⟩ | ⟨hK, rfl, hS⟩
    · have e : keyS 0 0 S = ⟨#[0]⟩ := by
        unfold keyS keyL
        rw [hS, if_pos good_null, if_pos rfl]
        rfl
      rw [e]
      clear e hS hg hN
      go_enter Tryz.func73, Tryz.ntmps73
      go_wp2_with fail
      refine (HG.out _).mono ?_
      rintro e w3 ⟨rfl, hb3⟩
      have B3 := hid (B1.out.trans (hb3.mono B1.out.size))
      obtain ⟨k0, k1, k2⟩ := (X1.out.on hb3).cells
      have hlt3 := lt_of_block (X1.out.on hb3)
      clear hb3
      have hcv : (convert 80 9 (.slice (some ⟨w3.heap.size, 0, none⟩) 1 1)).run Tryz.prog (w3.alloc (.cells #[.int .u8 0] 5)) = .ok (.string ⟨#[0]⟩) (w3.alloc (.cells #[.int .u8 0] 5)) := conv_one 0 w3
      go_wp2
      go_ret
      exact ⟨rfl, B3.out.alloc B3.out.size _⟩
    · have e : keyS 1 N S = ⟨#[1]⟩ ++ bs (fixF 8 (off N)) := by
        unfold keyS keyL
        rw [hS, if_pos (good_int N), if_neg (by decide), if_pos rfl, show (⟨#[1]⟩ : ByteArray) = bs [1] from rfl, bs_append]
        rfl
      rw [e]
      have hw := off_wrap hN
      clear e hS hg hN
      have h8 : ¬ 9223372036854775807 < (⟨#[1]⟩ : ByteArray).size + (bs (fixF 8 (off N))).size := by
        rw [bs_size, Num.fixF_length]; decide
      go_enter Tryz.func73, Tryz.ntmps73
      go_wp2_with fail
      refine (HG.out _).mono ?_
      rintro e w3 ⟨rfl, hb3⟩
      have B3 := hid (B1.out.trans (hb3.mono B1.out.size))
      obtain ⟨k0, k1, k2⟩ := (X1.out.on hb3).cells
      have hlt3 := lt_of_block (X1.out.on hb3)
      have X4 : Bx w.heap.size 1 N S (w3.alloc (.cells #[.int .u8 1] 5)) := (X1.out.on hb3).on ((Below.refl _ _).alloc (Nat.le_refl _) _)
      have B4 := hid (B3.out.alloc B3.out.size (.cells #[.int .u8 1] 5))
      have O4 : OwnB (w3.alloc (.cells #[.int .u8 1] 5)) w3.heap.size (.slice (some ⟨w3.heap.size, 0, none⟩) 1 1) [1] := own_one w3 w3.heap.size (Nat.le_refl _) 1
      clear hb3
      go_wp2_with fail
      generalize w3.alloc (.cells #[.int .u8 1] 5) = w4 at *
      refine wp_quiet_in (fun wx => Below w4.heap.size w4 wx) (by kernel_rfl) (by kernel_rfl) (Below.refl _ _).drew ?_
      go_big_quiet_want
      go_big_quiet_op
      go_big_quiet_on
      go_big_quiet_want
      go_big_quiet_op
      refine ⟨.string ⟨#[1]⟩, fun wx hx => ?_, ?_⟩
      · have c : (convert 80 9 (.slice (some ⟨w3.heap.size, 0, none⟩) 1 1)).run Tryz.prog wx = .ok (.string ⟨#[1]⟩) wx := conv_b (l := [1]) (by decide) (own_on O4 hx)
        simp [go_sem, c]
      go_big_quiet_on
      go_big_quiet_want
      go_big_quiet_op
      apply Exists.intro
      refine ⟨fun _ _ => ?_, ?_⟩
      · with_reducible exact Eq.refl _
      go_big_quiet_on
      go_big_quiet_want
      go_big_quiet_op
      refine ⟨.int .i64 N, fun wx hx => ?_, ?_⟩
      · have c := (X4.on hx).cells.2.1
        simp [go_sem, c]
      go_big_quiet_on
      go_big_quiet_want
      go_big_quiet_op
      apply Exists.intro
      refine ⟨fun _ _ => ?_, ?_⟩
      · with_reducible exact Eq.refl _
      go_big_quiet_on
      go_big_quiet_want
      go_big_quiet_op
      apply Exists.intro
      refine ⟨fun _ _ => ?_, ?_⟩
      · with_reducible exact Eq.refl _
      go_big_quiet_on
      go_big_quiet_want
      go_big_quiet_op
      refine ⟨.string (bs (fixF 8 (off N))), fun wx hx => ?_, ?_⟩
      · refine (rfix8_off N HN.out _).mono ?_
        rintro e w3 ⟨rfl, hb3⟩
        exact ⟨rfl, hx.trans (hb3.mono hx.size)⟩
      go_big_quiet_on
      go_big_quiet_want
      go_big_quiet_op
      apply Exists.intro
      refine ⟨fun _ _ => ?_, ?_⟩
      · with_reducible exact Eq.refl _
      go_big_quiet_on
      go_big_quiet_want
      go_big_quiet_op
      go_big_quiet_on
      refine wpQuiet_nil ?_
      intro w5 hb5
      have B5 := hid (B4.out.trans (hb5.mono B4.out.size))
      clear hb5
      go_wp2
      go_ret
      exact ⟨rfl, B5.out⟩
    · rcases hK with rfl | rfl
      · have e : keyS 2 0 S = bs ([2] ++ stuff (bl S) ++ [0, 1]) := by
          have gK : Good 2 0 (bl S) := Or.inr (Or.inr ⟨by decide, rfl, hS⟩)
          unfold keyS keyL
          rw [if_pos gK, if_neg (by decide), if_neg (by decide)]
          rfl
        rw [e]
        have hsl := hid (fun k => stuff_length ((bl S).take k))
        have hlk := hid (fun k => List.length_take_le k (bl S))
        have hbl := hid (bl_len S)
        clear e hS hg hN
        have hz2 : S.size ≤ 9223372036854775807 := by have := hz.out; omega
        go_enter Tryz.func73, Tryz.ntmps73
        go_wp2_with fail
        refine (HG.out _).mono ?_
        rintro e w3 ⟨rfl, hb3⟩
        have B3 := hid (B1.out.trans (hb3.mono B1.out.size))
        have X3 := hid (X1.out.on hb3)
        obtain ⟨k0, k1, k2⟩ := X3.out.cells
        have hlt3 := lt_of_block X3.out
        clear hb3
        go_wp2
        go_loopw [3, 4] (fun v i wr => ∃ k : Nat, k ≤ S.size ∧ i = .int .i64 k ∧ OwnB wr w3.heap.size v ([2] ++ stuff ((bl S).take k)) ∧ Below w3.heap.size w3 wr) (fun _ i _ => S.size - (intOf i).toNat)
        case atStart => exact ⟨0, Nat.zero_le _, rfl, by simpa [stuff] using own_one w3 w3.heap.size (Nat.le_refl _) 2, (Below.refl _ _).alloc (Nat.le_refl _) _⟩
        case round =>
          obtain ⟨k, hk, rfl, hown, hbel⟩ := hrel
          have HO := hid hown
          have HB := hid hbel
          have hszr := hbel.size
          have hlen : ([2] ++ stuff ((bl S).take k)).length ≤ 10000 := by
            have h1 := hsl.out k
            have h2 := hlk.out k
            have h3 := hz.out
            have h4 := hbl.out
            simp only [List.length_append, List.length_cons, List.length_nil] at *
            omega
          have HL := hid hlen
          obtain ⟨x0, x1, x2⟩ := (X3.out.on hbel).cells
          have hltr : w.heap.size < wr.heap.size := by omega
          clear hown hbel hlen k0 k1 k2
          by_cases hlt : k < S.size
          · have HT := hid (take_snoc hlt)
            go_wp2_with (at_builtin; go_must (refine wpList_append_bytes rfl _ _ rfl w3.heap.size _ _ rfl (own_on HO.out ((Below.refl _ _).alloc (Nat.le_refl _) _)) (HB.out.alloc hszr _) (by simp; omega) wr.heap.size [S[k]] rfl (new_one wr S[k]) (by have := HL.out; simp only [List.length_cons, List.length_nil]; omega) ?_))
            intro v' w2 hown2 hbel2
            have HO2 := hid hown2
            have HB2 := hid hbel2
            have hsz2 := hbel2.size
            have hltr2 : w.heap.size < w2.heap.size := by omega
            clear x0 x1 x2
            obtain ⟨x0, x1, x2⟩ := (X3.out.on hbel2).cells
            clear hown2 hbel2
            by_cases h0 : S[k] = 0
            · have hz0 : ((S[k].toNat : Int) == 0) = true := by rw [h0]; rfl
              have H0 := hid h0
              clear h0
              go_wp2_with (at_builtin; go_must (refine wpList_append_bytes rfl _ _ rfl w3.heap.size _ _ rfl (own_on HO2.out ((Below.refl _ _).alloc (Nat.le_refl _) _)) (HB2.out.alloc hsz2 _) (by simp; omega) w2.heap.size [255] rfl (new_one w2 255) (by have := HL.out; simp only [List.length_append, List.length_cons, List.length_nil] at *; omega) ?_))
              intro v3 w4 hown4 hbel4
              have HO4 := hid hown4
              have HB4 := hid hbel4
              clear hown4 hbel4
              go_wp2
              go_roundw
              case rel =>
                refine ⟨k + 1, by omega, by go_num, ?_, HB4.out⟩
                have h := HO4.out
                rw [HT.out, stuff_snoc, if_pos H0.out]
                rw [H0.out] at h
                simpa using h
              case measure => simp [intOf]; omega
            · have hz0 : ((S[k].toNat : Int) == 0) = false := by
                simp only [beq_eq_false_iff_ne, ne_eq]
                intro e
                exact h0 (UInt8.toNat_inj.1 (by show S[k].toNat = 0; omega))
              have H0 := hid h0
              clear h0
              go_wp2
              go_roundw
              case rel =>
                refine ⟨k + 1, by omega, by go_num, ?_, HB2.out⟩
                have h := HO2.out
                rw [HT.out, stuff_snoc, if_neg H0.out]
                simpa using h
              case measure => simp [intOf]; omega
          · have HK := hid (show k = S.size by omega)
            go_wp2_with (at_builtin; go_must (refine wpList_append_bytes rfl _ _ rfl w3.heap.size _ _ rfl (own_on HO.out ((Below.refl _ _).alloc (Nat.le_refl _) _)) (HB.out.alloc hszr _) (by simp; omega) wr.heap.size [0, 1] rfl (new_two wr 0 1) (by have := HL.out; simp only [List.length_cons, List.length_nil]; omega) ?_))
            intro v' w2 hown2 hbel2
            have hcv := conv_b (by simp) hown2
            have HB2 := hid (B3.out.trans (hbel2.mono B3.out.size))
            clear hown2 hbel2
            go_wp2
            go_ret
            refine ⟨?_, HB2.out⟩
            rw [HK.out, List.take_of_length_le (by rw [hbl.out]; exact Nat.le_refl _)]
            rfl
      · have e : keyS 3 0 S = bs ([3] ++ stuff (bl S) ++ [0, 1]) := by
          have gK : Good 3 0 (bl S) := Or.inr (Or.inr ⟨by decide, rfl, hS⟩)
          unfold keyS keyL
          rw [if_pos gK, if_neg (by decide), if_neg (by decide)]
          rfl
        rw [e]
        have hsl := hid (fun k => stuff_length ((bl S).take k))
        have hlk := hid (fun k => List.length_take_le k (bl S))
        have hbl := hid (bl_len S)
        clear e hS hg hN
        have hz2 : S.size ≤ 9223372036854775807 := by have := hz.out; omega
        go_enter Tryz.func73, Tryz.ntmps73
        go_wp2_with fail
        refine (HG.out _).mono ?_
        rintro e w3 ⟨rfl, hb3⟩
        have B3 := hid (B1.out.trans (hb3.mono B1.out.size))
        have X3 := hid (X1.out.on hb3)
        obtain ⟨k0, k1, k2⟩ := X3.out.cells
        have hlt3 := lt_of_block X3.out
        clear hb3
        go_wp2
        go_loopw [3, 4] (fun v i wr => ∃ k : Nat, k ≤ S.size ∧ i = .int .i64 k ∧ OwnB wr w3.heap.size v ([3] ++ stuff ((bl S).take k)) ∧ Below w3.heap.size w3 wr) (fun _ i _ => S.size - (intOf i).toNat)
        case atStart => exact ⟨0, Nat.zero_le _, rfl, by simpa [stuff] using own_one w3 w3.heap.size (Nat.le_refl _) 3, (Below.refl _ _).alloc (Nat.le_refl _) _⟩
        case round =>
          obtain ⟨k, hk, rfl, hown, hbel⟩ := hrel
          have HO := hid hown
          have HB := hid hbel
          have hszr := hbel.size
          have hlen : ([3] ++ stuff ((bl S).take k)).length ≤ 10000 := by
            have h1 := hsl.out k
            have h2 := hlk.out k
            have h3 := hz.out
            have h4 := hbl.out
            simp only [List.length_append, List.length_cons, List.length_nil] at *
            omega
          have HL := hid hlen
          obtain ⟨x0, x1, x2⟩ := (X3.out.on hbel).cells
          have hltr : w.heap.size < wr.heap.size := by omega
          clear hown hbel hlen k0 k1 k2
          by_cases hlt : k < S.size
          · have HT := hid (take_snoc hlt)
            go_wp2_with (at_builtin; go_must (refine wpList_append_bytes rfl _ _ rfl w3.heap.size _ _ rfl (own_on HO.out ((Below.refl _ _).alloc (Nat.le_refl _) _)) (HB.out.alloc hszr _) (by simp; omega) wr.heap.size [S[k]] rfl (new_one wr S[k]) (by have := HL.out; simp only [List.length_cons, List.length_nil]; omega) ?_))
            intro v' w2 hown2 hbel2
            have HO2 := hid hown2
            have HB2 := hid hbel2
            have hsz2 := hbel2.size
            have hltr2 : w.heap.size < w2.heap.size := by omega
            clear x0 x1 x2
            obtain ⟨x0, x1, x2⟩ := (X3.out.on hbel2).cells
            clear hown2 hbel2
            by_cases h0 : S[k] = 0
            · have hz0 : ((S[k].toNat : Int) == 0) = true := by rw [h0]; rfl
              have H0 := hid h0
              clear h0
              go_wp2_with (at_builtin; go_must (refine wpList_append_bytes rfl _ _ rfl w3.heap.size _ _ rfl (own_on HO2.out ((Below.refl _ _).alloc (Nat.le_refl _) _)) (HB2.out.alloc hsz2 _) (by simp; omega) w2.heap.size [255] rfl (new_one w2 255) (by have := HL.out; simp only [List.length_append, List.length_cons, List.length_nil] at *; omega) ?_))
              intro v3 w4 hown4 hbel4
              have HO4 := hid hown4
              have HB4 := hid hbel4
              clear hown4 hbel4
              go_wp2
              go_roundw
              case rel =>
                refine ⟨k + 1, by omega, by go_num, ?_, HB4.out⟩
                have h := HO4.out
                rw [HT.out, stuff_snoc, if_pos H0.out]
                rw [H0.out] at h
                simpa using h
              case measure => simp [intOf]; omega
            · have hz0 : ((S[k].toNat : Int) == 0) = false := by
                simp only [beq_eq_false_iff_ne, ne_eq]
                intro e
                exact h0 (UInt8.toNat_inj.1 (by show S[k].toNat = 0; omega))
              have H0 := hid h0
              clear h0
              go_wp2
              go_roundw
              case rel =>
                refine ⟨k + 1, by omega, by go_num, ?_, HB2.out⟩
                have h := HO2.out
                rw [HT.out, stuff_snoc, if_neg H0.out]
                simpa using h
              case measure => simp [intOf]; omega
          · have HK := hid (show k = S.size by omega)
            go_wp2_with (at_builtin; go_must (refine wpList_append_bytes rfl _ _ rfl w3.heap.size _ _ rfl (own_on HO.out ((Below.refl _ _).alloc (Nat.le_refl _) _)) (HB.out.alloc hszr _) (by simp; omega) wr.heap.size [0, 1] rfl (new_two wr 0 1) (by have := HL.out; simp only [List.length_cons, List.length_nil]; omega) ?_))
            intro v' w2 hown2 hbel2
            have hcv := conv_b (by simp) hown2
            have HB2 := hid (B3.out.trans (hbel2.mono B3.out.size))
            clear hown2 hbel2
            go_wp2
            go_ret
            refine ⟨?_, HB2.out⟩
            rw [HK.out, List.take_of_length_le (by rw [hbl.out]; exact Nat.le_refl _)]
            rfl
end Va
end Go.Proofs.YtiellodbkanciaaGreatDoor
