/-
  Contract of the reference's Show.
-/
import Derived.Test.YtiellodbkanciaaGreatDoorValRefShow
import Derived.Test.YtiellodbkanciaaGreatDoorGrpValC
namespace Go.Proofs.YtiellodbkanciaaGreatDoor
open Go.RowKit
namespace Va
open Num (hid bcells)
/-- Two new rows, the second one of two bytes. -/
theorem own_two (w : World) : OwnB ((w.alloc (.cells #[.int .u8 39] 5)).alloc (.cells #[.int .u8 120, .int .u8 39] 5)) w.heap.size (.slice (some ⟨w.heap.size + 1, 0, none⟩) 2 2) [120, 39] := by
  have h := heap_alloc_new (w.alloc (.cells #[.int .u8 39] 5)) (.cells #[.int .u8 120, .int .u8 39] 5)
  have e : (w.alloc (.cells #[.int .u8 39] 5)).heap.size = w.heap.size + 1 := by simp
  rw [e] at h
  exact ⟨by simp [bcells], .inr ⟨w.heap.size + 1, 2, _, rfl, by omega, h, Nat.le_refl _, by decide, rfl, by simp [bcells]⟩⟩
set_option maxRecDepth 100000 in
set_option maxHeartbeats 8000000 in
theorem rshow_any (K N : Int) (S : ByteArray) (hN : InI N) (w : World) :
    Calls Tryz.prog 76 #[.agg #[.int .i64 K, .int .i64 N, .string S]] w fun e w' => e = .returned (.string (showT K N S)) ∧ Below w.heap.size w w' := by
  have B1 : Hid (Below w.heap.size w (w.alloc (.cells #[.int .i64 K, .int .i64 N, .string S] 78))) := hid ((Below.refl _ _).alloc (Nat.le_refl _) _)
  have X1 : Hid (Bx w.heap.size K N S (w.alloc (.cells #[.int .i64 K, .int .i64 N, .string S] 78))) := hid (Bx.new K N S w)
  have G := rgood_any K N S
  cases hg : goodB K N S with
  | false =>
    rw [show_bad hg]
    rw [hg] at G
    have HG := hid G
    clear G hg
    go_enter Tryz.func76, Tryz.ntmps76
    go_wp2_with fail
    refine (HG.out _).mono ?_
    rintro e w3 ⟨rfl, hb3⟩
    have B3 := hid (B1.out.trans (hb3.mono B1.out.size))
    clear hb3
    go_wp2
    go_ret
    exact ⟨rfl, B3.out⟩
  | true =>
    rw [hg] at G
    have HG := hid G
    clear G
    have gg := good_of hg
    have hz := hid (good_size hg)
    have HN := hid hN
    rcases gg with ⟨rfl, rfl, hS⟩ | ⟨rfl, hS⟩ | ⟨hK, rfl, hS⟩
    · have e : showT 0 0 S = ⟨#[110, 117, 108, 108]⟩ := by unfold showT; rw [hS, show_null]; rfl
      rw [e]
      clear e hS hg hN
      go_enter Tryz.func76, Tryz.ntmps76
      go_wp2_with fail
      refine (HG.out _).mono ?_
      rintro e w3 ⟨rfl, hb3⟩
      have B3 := hid (B1.out.trans (hb3.mono B1.out.size))
      obtain ⟨k0, k1, k2⟩ := (X1.out.on hb3).cells
      clear hb3
      go_wp2
      go_ret
      exact ⟨rfl, B3.out⟩
    · have e : showT 1 N S = bs (Lib.itoa N) := by unfold showT; rw [hS, show_int]
      rw [e]
      clear e hS hg hN
      go_enter Tryz.func76, Tryz.ntmps76
      go_wp2_with fail
      refine (HG.out _).mono ?_
      rintro e w3 ⟨rfl, hb3⟩
      have B3 := hid (B1.out.trans (hb3.mono B1.out.size))
      obtain ⟨k0, k1, k2⟩ := (X1.out.on hb3).cells
      clear hb3
      go_wp2_with fail
      refine (digits_any N HN.out _).mono ?_
      rintro e w4 ⟨rfl, hb4⟩
      have B4 := hid (B3.out.trans (hb4.mono B3.out.size))
      clear hb4
      go_wp2
      go_ret
      exact ⟨rfl, B4.out⟩
    · rcases hK with rfl | rfl
      · have e : showT 2 0 S = bs ([39] ++ showS (bl S) ++ [39]) := by
          unfold showT
          rw [show_text hS]
          rfl
        rw [e]
        have hsl := hid (fun k => showS_length ((bl S).take k))
        have hlk := hid (fun k => List.length_take_le k (bl S))
        have hbl := hid (bl_len S)
        clear e hS hg hN
        have hz2 : S.size ≤ 9223372036854775807 := by have := hz.out; omega
        go_enter Tryz.func76, Tryz.ntmps76
        go_wp2_with fail
        refine (HG.out _).mono ?_
        rintro e w3 ⟨rfl, hb3⟩
        have B3 := hid (B1.out.trans (hb3.mono B1.out.size))
        have X3 := hid (X1.out.on hb3)
        obtain ⟨k0, k1, k2⟩ := X3.out.cells
        have hlt3 := lt_of_block X3.out
        clear hb3
        go_wp2
        go_loopw [3, 4] (fun v i wr => ∃ k : Nat, k ≤ S.size ∧ i = .int .i64 k ∧ OwnB wr w3.heap.size v ([39] ++ showS ((bl S).take k)) ∧ Below w3.heap.size w3 wr) (fun _ i _ => S.size - (intOf i).toNat)
        case atStart => exact ⟨0, Nat.zero_le _, rfl, by simpa [showS] using own_one w3 w3.heap.size (Nat.le_refl _) 39, (Below.refl _ _).alloc (Nat.le_refl _) _⟩
        case round =>
          obtain ⟨k, hk, rfl, hown, hbel⟩ := hrel
          have HO := hid hown
          have HB := hid hbel
          have hszr := hbel.size
          have hlen : ([39] ++ showS ((bl S).take k)).length ≤ 10000 := by
            have h1 := hsl.out k
            have h2 := hlk.out k
            have h3 := hz.out
            have h4 := hbl.out
            simp only [List.length_append, List.length_cons, List.length_nil] at *
            omega
          have HL := hid hlen
          obtain ⟨x0, x1, x2⟩ := (X3.out.on hbel).cells
          have hltr : w.heap.size < wr.heap.size := by omega
          clear hown hbel hlen k0 k1 k2
          by_cases hlt : k < S.size
          · have HT := hid (take_snoc hlt)
            have hby : (S[k].toNat : Int) ≤ 255 := by have := S[k].toNat_lt; omega
            obtain ⟨q, hq⟩ : ∃ q : Nat, q = S[k].toNat / 16 := ⟨_, rfl⟩
            obtain ⟨r, hr⟩ : ∃ r : Nat, r = S[k].toNat % 16 := ⟨_, rfl⟩
            have hq16 : q < 16 := by omega
            have hr16 : r < 16 := by omega
            have w1 : (S[k].toNat : Int) / 16 = (q : Int) := by omega
            have w2 : (S[k].toNat : Int) % 16 = (r : Int) := by omega
            have Hq := hid hq
            have Hr := hid hr
            clear hq hr
            have HS := hid (show showS ((bl S).take (k + 1)) = showS ((bl S).take k) ++ shb S[k] by rw [HT.out, showS_snoc])
            cases ho : odd S[k] with
            | true =>
              have ho' := hid ho
              have hsh := hid (show shb S[k] = [92, hexc q, hexc r] by unfold shb; rw [if_neg (odd_39 ho), if_pos ho, Hq.out, Hr.out])
              have hod := hid (fun w => rodd_any S[k] w)
              rw [ho] at hod
              clear ho
              go_wp2_with fail
              refine (hod.out _).mono ?_
              rintro e w' ⟨rfl, rfl⟩
              go_wp2_with fail
              refine (rhex_any q hq16 _).mono ?_
              rintro e w' ⟨rfl, rfl⟩
              go_wp2_with fail
              refine (rhex_any r hr16 _).mono ?_
              rintro e w' ⟨rfl, rfl⟩
              go_wp2_with (at_builtin; go_must (refine wpList_append_bytes rfl _ _ rfl w3.heap.size _ _ rfl (own_on HO.out ((Below.refl _ _).alloc (Nat.le_refl _) _)) (HB.out.alloc hszr _) (by simp; omega) wr.heap.size [92, hexc q, hexc r] rfl (new_three wr 92 (hexc q) (hexc r)) (by have := HL.out; simp only [List.length_cons, List.length_nil]; omega) ?_))
              intro v' w2 hown2 hbel2
              have HO2 := hid hown2
              have HB2 := hid hbel2
              clear hown2 hbel2
              go_wp2
              go_roundw
              case rel =>
                refine ⟨k + 1, by omega, by go_num, ?_, HB2.out⟩
                rw [HS.out, hsh.out, ← List.append_assoc]
                exact HO2.out
              case measure => simp [intOf]; omega
            | false =>
              have ho' := hid ho
              have hod := hid (fun w => rodd_any S[k] w)
              rw [ho] at hod
              clear ho w1 w2
              go_wp2_with fail
              refine (hod.out _).mono ?_
              rintro e w' ⟨rfl, rfl⟩
              go_wp2_with (at_builtin; go_must (refine wpList_append_bytes rfl _ _ rfl w3.heap.size _ _ rfl (own_on HO.out ((Below.refl _ _).alloc (Nat.le_refl _) _)) (HB.out.alloc hszr _) (by simp; omega) wr.heap.size [S[k]] rfl (new_one wr S[k]) (by have := HL.out; simp only [List.length_cons, List.length_nil]; omega) ?_))
              intro v' w2 hown2 hbel2
              have HO2 := hid hown2
              have HB2 := hid hbel2
              have hsz2 := hbel2.size
              clear hown2 hbel2
              by_cases h39 : S[k].toNat = 39
              · have b39 : ((S[k].toNat : Int) == 39) = true := by simp only [beq_iff_eq]; omega
                have hsh := hid (show shb S[k] = [S[k], S[k]] by
                  have e : S[k] = 39 := UInt8.toNat_inj.1 h39
                  rw [e]; rfl)
                clear h39
                go_wp2_with (at_builtin; go_must (refine wpList_append_bytes rfl _ _ rfl w3.heap.size _ _ rfl (own_on HO2.out ((Below.refl _ _).alloc (Nat.le_refl _) _)) (HB2.out.alloc hsz2 _) (by simp; omega) w2.heap.size [S[k]] rfl (new_one w2 S[k]) (by have := HL.out; simp only [List.length_append, List.length_cons, List.length_nil] at *; omega) ?_))
                intro v3 w4 hown4 hbel4
                have HO4 := hid hown4
                have HB4 := hid hbel4
                clear hown4 hbel4
                go_wp2
                go_roundw
                case rel =>
                  refine ⟨k + 1, by omega, by go_num, ?_, HB4.out⟩
                  rw [HS.out, hsh.out, ← List.append_assoc]
                  have h := HO4.out
                  simpa using h
                case measure => simp [intOf]; omega
              · have b39 : ((S[k].toNat : Int) == 39) = false := by simp only [beq_eq_false_iff_ne, ne_eq]; omega
                have hsh := hid (show shb S[k] = [S[k]] by unfold shb; rw [if_neg h39, ho'.out]; rfl)
                clear h39
                go_wp2
                go_roundw
                case rel =>
                  refine ⟨k + 1, by omega, by go_num, ?_, HB2.out⟩
                  rw [HS.out, hsh.out, ← List.append_assoc]
                  exact HO2.out
                case measure => simp [intOf]; omega
          · have HK := hid (show k = S.size by omega)
            go_wp2_with (at_builtin; go_must (refine wpList_append_bytes rfl _ _ rfl w3.heap.size _ _ rfl (own_on HO.out ((Below.refl _ _).alloc (Nat.le_refl _) _)) (HB.out.alloc hszr _) (by simp; omega) wr.heap.size [39] rfl (new_one wr 39) (by have := HL.out; simp only [List.length_cons, List.length_nil]; omega) ?_))
            intro v' w2 hown2 hbel2
            have hcv := conv_b (by simp) hown2
            have HB2 := hid (B3.out.trans (hbel2.mono B3.out.size))
            clear hown2 hbel2
            go_wp2
            go_ret
            refine ⟨?_, HB2.out⟩
            rw [HK.out, List.take_of_length_le (by rw [hbl.out]; exact Nat.le_refl _)]
            rfl
      · have e : showT 3 0 S = bs ([120, 39] ++ showS (bl S) ++ [39]) := by
          unfold showT
          rw [show_blob hS]
          rfl
        rw [e]
        have hsl := hid (fun k => showS_length ((bl S).take k))
        have hlk := hid (fun k => List.length_take_le k (bl S))
        have hbl := hid (bl_len S)
        clear e hS hg hN
        have hz2 : S.size ≤ 9223372036854775807 := by have := hz.out; omega
        go_enter Tryz.func76, Tryz.ntmps76
        go_wp2_with fail
        refine (HG.out _).mono ?_
        rintro e w3 ⟨rfl, hb3⟩
        have B3 := hid (B1.out.trans (hb3.mono B1.out.size))
        have X3 := hid (X1.out.on hb3)
        obtain ⟨k0, k1, k2⟩ := X3.out.cells
        have hlt3 := lt_of_block X3.out
        clear hb3
        go_wp2
        go_loopw [3, 4] (fun v i wr => ∃ k : Nat, k ≤ S.size ∧ i = .int .i64 k ∧ OwnB wr w3.heap.size v ([120, 39] ++ showS ((bl S).take k)) ∧ Below w3.heap.size w3 wr) (fun _ i _ => S.size - (intOf i).toNat)
        case atStart => exact ⟨0, Nat.zero_le _, rfl, by simpa [showS] using own_two w3, ((Below.refl _ _).alloc (Nat.le_refl _) _).alloc (by simp) _⟩
        case round =>
          obtain ⟨k, hk, rfl, hown, hbel⟩ := hrel
          have HO := hid hown
          have HB := hid hbel
          have hszr := hbel.size
          have hlen : ([120, 39] ++ showS ((bl S).take k)).length ≤ 10000 := by
            have h1 := hsl.out k
            have h2 := hlk.out k
            have h3 := hz.out
            have h4 := hbl.out
            simp only [List.length_append, List.length_cons, List.length_nil] at *
            omega
          have HL := hid hlen
          obtain ⟨x0, x1, x2⟩ := (X3.out.on hbel).cells
          have hltr : w.heap.size < wr.heap.size := by omega
          clear hown hbel hlen k0 k1 k2
          by_cases hlt : k < S.size
          · have HT := hid (take_snoc hlt)
            have hby : (S[k].toNat : Int) ≤ 255 := by have := S[k].toNat_lt; omega
            obtain ⟨q, hq⟩ : ∃ q : Nat, q = S[k].toNat / 16 := ⟨_, rfl⟩
            obtain ⟨r, hr⟩ : ∃ r : Nat, r = S[k].toNat % 16 := ⟨_, rfl⟩
            have hq16 : q < 16 := by omega
            have hr16 : r < 16 := by omega
            have w1 : (S[k].toNat : Int) / 16 = (q : Int) := by omega
            have w2 : (S[k].toNat : Int) % 16 = (r : Int) := by omega
            have Hq := hid hq
            have Hr := hid hr
            clear hq hr
            have HS := hid (show showS ((bl S).take (k + 1)) = showS ((bl S).take k) ++ shb S[k] by rw [HT.out, showS_snoc])
            cases ho : odd S[k] with
            | true =>
              have ho' := hid ho
              have hsh := hid (show shb S[k] = [92, hexc q, hexc r] by unfold shb; rw [if_neg (odd_39 ho), if_pos ho, Hq.out, Hr.out])
              have hod := hid (fun w => rodd_any S[k] w)
              rw [ho] at hod
              clear ho
              go_wp2_with fail
              refine (hod.out _).mono ?_
              rintro e w' ⟨rfl, rfl⟩
              go_wp2_with fail
              refine (rhex_any q hq16 _).mono ?_
              rintro e w' ⟨rfl, rfl⟩
              go_wp2_with fail
              refine (rhex_any r hr16 _).mono ?_
              rintro e w' ⟨rfl, rfl⟩
              go_wp2_with (at_builtin; go_must (refine wpList_append_bytes rfl _ _ rfl w3.heap.size _ _ rfl (own_on HO.out ((Below.refl _ _).alloc (Nat.le_refl _) _)) (HB.out.alloc hszr _) (by simp; omega) wr.heap.size [92, hexc q, hexc r] rfl (new_three wr 92 (hexc q) (hexc r)) (by have := HL.out; simp only [List.length_cons, List.length_nil]; omega) ?_))
              intro v' w2 hown2 hbel2
              have HO2 := hid hown2
              have HB2 := hid hbel2
              clear hown2 hbel2
              go_wp2
              go_roundw
              case rel =>
                refine ⟨k + 1, by omega, by go_num, ?_, HB2.out⟩
                rw [HS.out, hsh.out, ← List.append_assoc]
                exact HO2.out
              case measure => simp [intOf]; omega
            | false =>
              have ho' := hid ho
              have hod := hid (fun w => rodd_any S[k] w)
              rw [ho] at hod
              clear ho w1 w2
              go_wp2_with fail
              refine (hod.out _).mono ?_
              rintro e w' ⟨rfl, rfl⟩
              go_wp2_with (at_builtin; go_must (refine wpList_append_bytes rfl _ _ rfl w3.heap.size _ _ rfl (own_on HO.out ((Below.refl _ _).alloc (Nat.le_refl _) _)) (HB.out.alloc hszr _) (by simp; omega) wr.heap.size [S[k]] rfl (new_one wr S[k]) (by have := HL.out; simp only [List.length_cons, List.length_nil]; omega) ?_))
              intro v' w2 hown2 hbel2
              have HO2 := hid hown2
              have HB2 := hid hbel2
              have hsz2 := hbel2.size
              clear hown2 hbel2
              by_cases h39 : S[k].toNat = 39
              · have b39 : ((S[k].toNat : Int) == 39) = true := by simp only [beq_iff_eq]; omega
                have hsh := hid (show shb S[k] = [S[k], S[k]] by
                  have e : S[k] = 39 := UInt8.toNat_inj.1 h39
                  rw [e]; rfl)
                clear h39
                go_wp2_with (at_builtin; go_must (refine wpList_append_bytes rfl _ _ rfl w3.heap.size _ _ rfl (own_on HO2.out ((Below.refl _ _).alloc (Nat.le_refl _) _)) (HB2.out.alloc hsz2 _) (by simp; omega) w2.heap.size [S[k]] rfl (new_one w2 S[k]) (by have := HL.out; simp only [List.length_append, List.length_cons, List.length_nil] at *; omega) ?_))
                intro v3 w4 hown4 hbel4
                have HO4 := hid hown4
                have HB4 := hid hbel4
                clear hown4 hbel4
                go_wp2
                go_roundw
                case rel =>
                  refine ⟨k + 1, by omega, by go_num, ?_, HB4.out⟩
                  rw [HS.out, hsh.out, ← List.append_assoc]
                  have h := HO4.out
                  simpa using h
                case measure => simp [intOf]; omega
              · have b39 : ((S[k].toNat : Int) == 39) = false := by simp only [beq_eq_false_iff_ne, ne_eq]; omega
                have hsh := hid (show shb S[k] = [S[k]] by unfold shb; rw [if_neg h39, ho'.out]; rfl)
                clear h39
                go_wp2
                go_roundw
                case rel =>
                  refine ⟨k + 1, by omega, by go_num, ?_, HB2.out⟩
                  rw [HS.out, hsh.out, ← List.append_assoc]
                  exact HO2.out
                case measure => simp [intOf]; omega
          · have HK := hid (show k = S.size by omega)
            go_wp2_with (at_builtin; go_must (refine wpList_append_bytes rfl _ _ rfl w3.heap.size _ _ rfl (own_on HO.out ((Below.refl _ _).alloc (Nat.le_refl _) _)) (HB.out.alloc hszr _) (by simp; omega) wr.heap.size [39] rfl (new_one wr 39) (by have := HL.out; simp only [List.length_cons, List.length_nil]; omega) ?_))
            intro v' w2 hown2 hbel2
            have hcv := conv_b (by simp) hown2
            have HB2 := hid (B3.out.trans (hbel2.mono B3.out.size))
            clear hown2 hbel2
            go_wp2
            go_ret
            refine ⟨?_, HB2.out⟩
            rw [HK.out, List.take_of_length_le (by rw [hbl.out]; exact Nat.le_refl _)]
            rfl
end Va
end Go.Proofs.YtiellodbkanciaaGreatDoor
