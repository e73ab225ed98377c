/-
  Contract of the project's parseBytes.
-/
import Derived.Test.YtiellodbkanciaaGreatDoorValByte
import Derived.Test.YtiellodbkanciaaGreatDoorGrpValB
namespace Go.Proofs.YtiellodbkanciaaGreatDoor
open Go.RowKit
namespace Va
open Num (hid)
theorem pq_none (r : Nat) (l : Bs) (h : pbyte l = none) : pq r l = if l.head? = some 39 then some ([], 1) else none := by
  cases r <;> simp only [pq, h]
theorem pq_some (r : Nat) (l : Bs) (b : UInt8) (n : Nat) (h : pbyte l = some (b, n)) : pq r l = if r = 0 then none else (pq (r - 1) (l.drop n)).map fun x => (b :: x.1, n + x.2) := by
  cases r with
  | zero => simp only [pq, h]; rfl
  | succ r => simp only [pq, h, Nat.add_sub_cancel]; rfl
set_option maxRecDepth 100000 in
set_option maxHeartbeats 8000000 in
theorem qtext_any (s : ByteArray) (hp : 1 ≤ s.size) (hs : s.size ≤ maxLen) (w : World) (g : Glob w) :
    Calls Tryz.prog 157 #[.int .i64 2, .string s] w fun e w' => e = .returned (uV (quotedU 2 1 (pq 2000 ((bl s).drop 1)))) ∧ Below w.heap.size w w' := by
  replace hs : s.size ≤ 9223372036854775807 := by unfold maxLen at hs; omega
  have Hg := hid g
  obtain ⟨R, hR⟩ : ∃ R, R = pq 2000 ((bl s).drop 1) := ⟨_, rfl⟩
  have HR0 := hid hR
  rw [← hR]
  clear hR g
  have X1 := hid (Bx.new 0 0 ⟨#[]⟩ w)
  have B1 := hid ((Below.refl w.heap.size w).alloc (Nat.le_refl _) (.cells #[.int .i64 0, .int .i64 0, .string ⟨#[]⟩] 78))
  obtain ⟨W1, hW1⟩ : ∃ W1, W1 = w.alloc (.cells #[.int .i64 0, .int .i64 0, .string ⟨#[]⟩] 78) := ⟨_, rfl⟩
  rw [← hW1] at X1 B1
  have hz1 : W1.heap.size = w.heap.size + 1 := by rw [hW1]; simp
  have Hz1 := hid hz1
  have HW1 := hid hW1
  clear hz1 hW1
  go_enter Tryz.func157, Tryz.ntmps157
  go_wp2_with fail
  refine (open_text _).mono ?_
  rintro e w' ⟨rfl, rfl⟩
  go_wp2
  go_loopw [7, 8] (fun v i wr => ∃ (k : Nat) (acc : Bs), 1 ≤ k ∧ k ≤ s.size ∧ i = .int .i64 k ∧ OwnB wr W1.heap.size v acc ∧ acc.length ≤ 2000 ∧ Hid (R = (pq (2000 - acc.length) ((bl s).drop k)).map fun x => (acc ++ x.1, k - 1 + x.2)) ∧ Below W1.heap.size W1 wr) (fun _ i _ => s.size - (intOf i).toNat)
  case atStart =>
    refine ⟨1, [], Nat.le_refl _, hp, rfl, own_none _ _, Nat.zero_le _, hid ?_, ?_⟩
    · rw [HR0.out]
      cases pq (2000 - ([] : Bs).length) ((bl s).drop 1) <;> simp
    · rw [← HW1.out]
      exact Below.refl _ _
  case round =>
    obtain ⟨k, acc, hk1, hk, rfl, hown, hacc, HU, hbel⟩ := hrel
    have HB := hid hbel
    have hszr : W1.heap.size ≤ wr.heap.size := hbel.size
    have hszw : w.heap.size < wr.heap.size := by have := Hz1.out; omega
    have XR := hid (X1.out.on hbel)
    have BW := hid (B1.out.trans (hbel.mono B1.out.size))
    have HO := hid hown
    clear hbel hown
    by_cases hlt : k < s.size
    · have hU := HU.out
      have hpb := pbyte_any (s.extract k s.size) (by rw [ByteArray.size_extract]; omega) wr (Hg.out.on BW.out)
      rw [show bl (s.extract k s.size) = (bl s).drop k from rest_list s k] at hpb
      cases hb : pbyte ((bl s).drop k) with
      | none =>
        rw [hb] at hpb
        have Hpb := hid hpb
        clear hpb
        rw [pq_none _ _ hb, show ((bl s).drop k).head? = some s[k] by rw [rest_cons hlt]; rfl] at hU
        by_cases h39 : s[k].toNat = 39
        · have b39 : ((s[k].toNat : Int) == 39) = true := by simp only [beq_iff_eq]; omega
          have e39 : s[k] = 39 := UInt8.toNat_inj.1 h39
          rw [if_pos (by rw [e39])] at hU
          have HV := hid (show R = some (acc ++ [], k - 1 + 1) from hU)
          clear hU h39 e39 hb
          go_wp2_with fail
          refine Hpb.out.mono ?_
          rintro e w3 ⟨rfl, hb3⟩
          obtain ⟨r0, r1, r2⟩ := (XR.out.on hb3).cells
          obtain ⟨f0, f1, f2⟩ := (XR.out.on hb3).free
          have hszw3 : w.heap.size < w3.heap.size := by have := hb3.size; omega
          have BW := hid (BW.out.trans (hb3.mono BW.out.size))
          have hcv := conv_all (own_on HO.out hb3)
          clear hb3
          unfold pbV
          go_wp2
          rw [HV.out, List.append_nil]
          exact bodyPost_ret (v := .tuple #[.agg #[.int .i64 2, .int .i64 0, .string (bs acc)], .int .i64 ((k : Int) + 1), .int .i64 0]) (by simp [results, go_sem, r0, r1, r2]) rfl ⟨congrArg Ending.returned (uV_eq (u := quotedU 2 1 (some (acc, k - 1 + 1))) rfl rfl rfl (by simp [quotedU]; omega) rfl), by
            repeat (first | exact BW.out | refine Below.setCell ?_ (by simp) _)⟩
        · have b39 : ((s[k].toNat : Int) == 39) = false := by simp only [beq_eq_false_iff_ne, ne_eq]; omega
          rw [if_neg (fun e => h39 (by rw [Option.some.inj e]; rfl))] at hU
          have HV := hid (show R = none from hU)
          clear hU h39 hb
          go_wp2_with fail
          refine Hpb.out.mono ?_
          rintro e w3 ⟨rfl, hb3⟩
          obtain ⟨r0, r1, r2⟩ := (XR.out.on hb3).cells
          obtain ⟨f0, f1, f2⟩ := (XR.out.on hb3).free
          have hszw3 : w.heap.size < w3.heap.size := by have := hb3.size; omega
          have BW := hid (BW.out.trans (hb3.mono BW.out.size))
          clear hb3
          unfold pbV
          go_wp2
          rw [HV.out]
          exact bodyPost_ret (v := uV noneU) (by simp [results, uV, noneU, bs, go_sem, r0, r1, r2]) rfl ⟨rfl, by
            repeat (first | exact BW.out | refine Below.setCell ?_ (by simp) _)⟩
      | some x =>
        obtain ⟨b, n⟩ := x
        rw [hb] at hpb
        have Hpb := hid hpb
        clear hpb
        obtain ⟨q1, q2, _⟩ := pbyte_back _ _ _ hb
        rw [List.length_drop, bl_len] at q2
        rw [pq_some _ _ _ _ hb] at hU
        have bn : ((n : Int) == 0) = false := by simp only [beq_eq_false_iff_ne, ne_eq]; omega
        clear hb
        have ways := own_ways HO.out
        by_cases hf : acc.length = 2000
        · rw [if_pos (by omega)] at hU
          have HV := hid (show R = none from hU)
          have hfe : ((acc.length : Int) == 2000) = true := by simp only [beq_iff_eq]; omega
          have HF := hid hf
          clear hU hf
          rcases ways with ⟨rfl, h0⟩ | ⟨gb, cap, rfl⟩
          · have := HF.out
            rw [h0] at this
            simp at this
          · go_wp2_with fail
            refine Hpb.out.mono ?_
            rintro e w3 ⟨rfl, hb3⟩
            obtain ⟨r0, r1, r2⟩ := (XR.out.on hb3).cells
            obtain ⟨f0, f1, f2⟩ := (XR.out.on hb3).free
            have hszw3 : w.heap.size < w3.heap.size := by have := hb3.size; omega
            have BW := hid (BW.out.trans (hb3.mono BW.out.size))
            clear hb3
            unfold pbV
            go_wp2
            rw [HV.out]
            exact bodyPost_ret (v := uV noneU) (by simp [results, uV, noneU, bs, go_sem, r0, r1, r2]) rfl ⟨rfl, by
              repeat (first | exact BW.out | refine Below.setCell ?_ (by simp) _)⟩
        · rw [if_neg (by omega)] at hU
          have HV := hid hU
          have hfe : ((acc.length : Int) == 2000) = false := by simp only [beq_eq_false_iff_ne, ne_eq]; omega
          have HF := hid hf
          have hkn : (k : Int) + (n : Int) ≤ 9223372036854775807 := by omega
          clear hU hf
          rcases ways with ⟨rfl, h0⟩ | ⟨gb, cap, rfl⟩
          all_goals (
            try (have H0 := hid h0; clear h0)
            go_wp2_with fail
            refine Hpb.out.mono ?_
            rintro e w3 ⟨rfl, hb3⟩
            have hszw3 : W1.heap.size ≤ w3.heap.size := by have := hb3.size; omega
            have HB3 := hid (HB.out.trans (hb3.mono hszr))
            have HO3 := hid (own_on HO.out hb3)
            clear hb3
            unfold pbV
            go_wp2_with (at_builtin; go_must (refine wpList_append_bytes rfl _ _ rfl W1.heap.size _ acc rfl (own_on HO3.out ((Below.refl _ _).alloc (Nat.le_refl _) _)) (HB3.out.alloc hszw3 _) (by simp; omega) w3.heap.size [b] rfl (new_one w3 b) (by simp only [List.length_cons, List.length_nil]; omega) ?_))
            intro v' w4 hown4 hbel4
            have HO4 := hid hown4
            have HB4 := hid hbel4
            clear hown4 hbel4
            go_wp2
            go_roundw
            case rel =>
              refine ⟨k + n, acc ++ [b], by omega, by omega, by go_num, HO4.out, by have := HF.out; simp only [List.length_append, List.length_cons, List.length_nil]; omega, hid ?_, HB4.out⟩
              rw [HV.out, List.length_append, List.length_singleton, Nat.sub_add_eq, List.drop_drop, Option.map_map]
              congr 1
              funext x
              simp only [Function.comp_apply, Prod.mk.injEq]
              exact ⟨by simp, by omega⟩
            case measure => simp [intOf]; omega)
    · have hU := HU.out
      rw [List.drop_of_length_le (by rw [bl_len]; omega)] at hU
      have HV := hid (show R = none by
        rw [hU]
        cases 2000 - acc.length <;> rfl)
      clear hU
      obtain ⟨r0, r1, r2⟩ := XR.out.cells
      obtain ⟨f0, f1, f2⟩ := XR.out.free
      go_wp2
      rw [HV.out]
      exact bodyPost_ret (v := uV noneU) (by simp [results, uV, noneU, bs, go_sem, r0, r1, r2]) rfl ⟨rfl, by
        repeat (first | exact BW.out | refine Below.setCell ?_ (by simp) _)⟩
set_option maxRecDepth 100000 in
set_option maxHeartbeats 8000000 in
theorem qblob_any (s : ByteArray) (hp : 2 ≤ s.size) (hs : s.size ≤ maxLen) (w : World) (g : Glob w) :
    Calls Tryz.prog 157 #[.int .i64 3, .string s] w fun e w' => e = .returned (uV (quotedU 3 2 (pq 2000 ((bl s).drop 2)))) ∧ Below w.heap.size w w' := by
  replace hs : s.size ≤ 9223372036854775807 := by unfold maxLen at hs; omega
  have Hg := hid g
  obtain ⟨R, hR⟩ : ∃ R, R = pq 2000 ((bl s).drop 2) := ⟨_, rfl⟩
  have HR0 := hid hR
  rw [← hR]
  clear hR g
  have X1 := hid (Bx.new 0 0 ⟨#[]⟩ w)
  have B1 := hid ((Below.refl w.heap.size w).alloc (Nat.le_refl _) (.cells #[.int .i64 0, .int .i64 0, .string ⟨#[]⟩] 78))
  obtain ⟨W1, hW1⟩ : ∃ W1, W1 = w.alloc (.cells #[.int .i64 0, .int .i64 0, .string ⟨#[]⟩] 78) := ⟨_, rfl⟩
  rw [← hW1] at X1 B1
  have hz1 : W1.heap.size = w.heap.size + 1 := by rw [hW1]; simp
  have Hz1 := hid hz1
  have HW1 := hid hW1
  clear hz1 hW1
  go_enter Tryz.func157, Tryz.ntmps157
  go_wp2_with fail
  refine (open_blob _).mono ?_
  rintro e w' ⟨rfl, rfl⟩
  go_wp2
  go_loopw [7, 8] (fun v i wr => ∃ (k : Nat) (acc : Bs), 2 ≤ k ∧ k ≤ s.size ∧ i = .int .i64 k ∧ OwnB wr W1.heap.size v acc ∧ acc.length ≤ 2000 ∧ Hid (R = (pq (2000 - acc.length) ((bl s).drop k)).map fun x => (acc ++ x.1, k - 2 + x.2)) ∧ Below W1.heap.size W1 wr) (fun _ i _ => s.size - (intOf i).toNat)
  case atStart =>
    refine ⟨2, [], Nat.le_refl _, hp, rfl, own_none _ _, Nat.zero_le _, hid ?_, ?_⟩
    · rw [HR0.out]
      cases pq (2000 - ([] : Bs).length) ((bl s).drop 2) <;> simp
    · rw [← HW1.out]
      exact Below.refl _ _
  case round =>
    obtain ⟨k, acc, hk1, hk, rfl, hown, hacc, HU, hbel⟩ := hrel
    have HB := hid hbel
    have hszr : W1.heap.size ≤ wr.heap.size := hbel.size
    have hszw : w.heap.size < wr.heap.size := by have := Hz1.out; omega
    have XR := hid (X1.out.on hbel)
    have BW := hid (B1.out.trans (hbel.mono B1.out.size))
    have HO := hid hown
    clear hbel hown
    by_cases hlt : k < s.size
    · have hU := HU.out
      have hpb := pbyte_any (s.extract k s.size) (by rw [ByteArray.size_extract]; omega) wr (Hg.out.on BW.out)
      rw [show bl (s.extract k s.size) = (bl s).drop k from rest_list s k] at hpb
      cases hb : pbyte ((bl s).drop k) with
      | none =>
        rw [hb] at hpb
        have Hpb := hid hpb
        clear hpb
        rw [pq_none _ _ hb, show ((bl s).drop k).head? = some s[k] by rw [rest_cons hlt]; rfl] at hU
        by_cases h39 : s[k].toNat = 39
        · have b39 : ((s[k].toNat : Int) == 39) = true := by simp only [beq_iff_eq]; omega
          have e39 : s[k] = 39 := UInt8.toNat_inj.1 h39
          rw [if_pos (by rw [e39])] at hU
          have HV := hid (show R = some (acc ++ [], k - 2 + 1) from hU)
          clear hU h39 e39 hb
          go_wp2_with fail
          refine Hpb.out.mono ?_
          rintro e w3 ⟨rfl, hb3⟩
          obtain ⟨r0, r1, r2⟩ := (XR.out.on hb3).cells
          obtain ⟨f0, f1, f2⟩ := (XR.out.on hb3).free
          have hszw3 : w.heap.size < w3.heap.size := by have := hb3.size; omega
          have BW := hid (BW.out.trans (hb3.mono BW.out.size))
          have hcv := conv_all (own_on HO.out hb3)
          clear hb3
          unfold pbV
          go_wp2
          rw [HV.out, List.append_nil]
          exact bodyPost_ret (v := .tuple #[.agg #[.int .i64 3, .int .i64 0, .string (bs acc)], .int .i64 ((k : Int) + 1), .int .i64 0]) (by simp [results, go_sem, r0, r1, r2]) rfl ⟨congrArg Ending.returned (uV_eq (u := quotedU 3 2 (some (acc, k - 2 + 1))) rfl rfl rfl (by simp [quotedU]; omega) rfl), by
            repeat (first | exact BW.out | refine Below.setCell ?_ (by simp) _)⟩
        · have b39 : ((s[k].toNat : Int) == 39) = false := by simp only [beq_eq_false_iff_ne, ne_eq]; omega
          rw [if_neg (fun e => h39 (by rw [Option.some.inj e]; rfl))] at hU
          have HV := hid (show R = none from hU)
          clear hU h39 hb
          go_wp2_with fail
          refine Hpb.out.mono ?_
          rintro e w3 ⟨rfl, hb3⟩
          obtain ⟨r0, r1, r2⟩ := (XR.out.on hb3).cells
          obtain ⟨f0, f1, f2⟩ := (XR.out.on hb3).free
          have hszw3 : w.heap.size < w3.heap.size := by have := hb3.size; omega
          have BW := hid (BW.out.trans (hb3.mono BW.out.size))
          clear hb3
          unfold pbV
          go_wp2
          rw [HV.out]
          exact bodyPost_ret (v := uV noneU) (by simp [results, uV, noneU, bs, go_sem, r0, r1, r2]) rfl ⟨rfl, by
            repeat (first | exact BW.out | refine Below.setCell ?_ (by simp) _)⟩
      | some x =>
        obtain ⟨b, n⟩ := x
        rw [hb] at hpb
        have Hpb := hid hpb
        clear hpb
        obtain ⟨q1, q2, _⟩ := pbyte_back _ _ _ hb
        rw [List.length_drop, bl_len] at q2
        rw [pq_some _ _ _ _ hb] at hU
        have bn : ((n : Int) == 0) = false := by simp only [beq_eq_false_iff_ne, ne_eq]; omega
        clear hb
        have ways := own_ways HO.out
        by_cases hf : acc.length = 2000
        · rw [if_pos (by omega)] at hU
          have HV := hid (show R = none from hU)
          have hfe : ((acc.length : Int) == 2000) = true := by simp only [beq_iff_eq]; omega
          have HF := hid hf
          clear hU hf
          rcases ways with ⟨rfl, h0⟩ | ⟨gb, cap, rfl⟩
          · have := HF.out
            rw [h0] at this
            simp at this
          · go_wp2_with fail
            refine Hpb.out.mono ?_
            rintro e w3 ⟨rfl, hb3⟩
            obtain ⟨r0, r1, r2⟩ := (XR.out.on hb3).cells
            obtain ⟨f0, f1, f2⟩ := (XR.out.on hb3).free
            have hszw3 : w.heap.size < w3.heap.size := by have := hb3.size; omega
            have BW := hid (BW.out.trans (hb3.mono BW.out.size))
            clear hb3
            unfold pbV
            go_wp2
            rw [HV.out]
            exact bodyPost_ret (v := uV noneU) (by simp [results, uV, noneU, bs, go_sem, r0, r1, r2]) rfl ⟨rfl, by
              repeat (first | exact BW.out | refine Below.setCell ?_ (by simp) _)⟩
        · rw [if_neg (by omega)] at hU
          have HV := hid hU
          have hfe : ((acc.length : Int) == 2000) = false := by simp only [beq_eq_false_iff_ne, ne_eq]; omega
          have HF := hid hf
          have hkn : (k : Int) + (n : Int) ≤ 9223372036854775807 := by omega
          clear hU hf
          rcases ways with ⟨rfl, h0⟩ | ⟨gb, cap, rfl⟩
          all_goals (
            try (have H0 := hid h0; clear h0)
            go_wp2_with fail
            refine Hpb.out.mono ?_
            rintro e w3 ⟨rfl, hb3⟩
            have hszw3 : W1.heap.size ≤ w3.heap.size := by have := hb3.size; omega
            have HB3 := hid (HB.out.trans (hb3.mono hszr))
            have HO3 := hid (own_on HO.out hb3)
            clear hb3
            unfold pbV
            go_wp2_with (at_builtin; go_must (refine wpList_append_bytes rfl _ _ rfl W1.heap.size _ acc rfl (own_on HO3.out ((Below.refl _ _).alloc (Nat.le_refl _) _)) (HB3.out.alloc hszw3 _) (by simp; omega) w3.heap.size [b] rfl (new_one w3 b) (by simp only [List.length_cons, List.length_nil]; omega) ?_))
            intro v' w4 hown4 hbel4
            have HO4 := hid hown4
            have HB4 := hid hbel4
            clear hown4 hbel4
            go_wp2
            go_roundw
            case rel =>
              refine ⟨k + n, acc ++ [b], by omega, by omega, by go_num, HO4.out, by have := HF.out; simp only [List.length_append, List.length_cons, List.length_nil]; omega, hid ?_, HB4.out⟩
              rw [HV.out, List.length_append, List.length_singleton, Nat.sub_add_eq, List.drop_drop, Option.map_map]
              congr 1
              funext x
              simp only [Function.comp_apply, Prod.mk.injEq]
              exact ⟨by simp, by omega⟩
            case measure => simp [intOf]; omega)
    · have hU := HU.out
      rw [List.drop_of_length_le (by rw [bl_len]; omega)] at hU
      have HV := hid (show R = none by
        rw [hU]
        cases 2000 - acc.length <;> rfl)
      clear hU
      obtain ⟨r0, r1, r2⟩ := XR.out.cells
      obtain ⟨f0, f1, f2⟩ := XR.out.free
      go_wp2
      rw [HV.out]
      exact bodyPost_ret (v := uV noneU) (by simp [results, uV, noneU, bs, go_sem, r0, r1, r2]) rfl ⟨rfl, by
        repeat (first | exact BW.out | refine Below.setCell ?_ (by simp) _)⟩
end Va
end Go.Proofs.YtiellodbkanciaaGreatDoor
