/-
  Contract of the reference's quoted.
-/
import Derived.Test.YtiellodbkanciaaGreatDoorValRefShow
import Derived.Test.YtiellodbkanciaaGreatDoorGrpValB
import Derived.Test.YtiellodbkanciaaGreatDoorValQuoted
import Derived.Deep.QuietTactic
namespace Go.Proofs.YtiellodbkanciaaGreatDoor
open Go.RowKit
namespace Va
open Num (hid)
def pqThen (r : Nat) (x : UInt8) (n : Nat) (l : Bs) : Option (Bs × Nat) := if r = 0 then none else (pq (r - 1) l).map fun y => (x :: y.1, n + y.2)
theorem unhex_neg {c : UInt8} (h : ¬ hexv c < 16) : unhexI c = -1 := if_neg h
theorem rq_ways (s : ByteArray) (k : Nat) (h : k < s.size) (r : Nat) :
    (((s[k].toNat : Int) == 39) = true ∧ s.size ≤ k + 1 ∧ pq r ((bl s).drop k) = some ([], 1)) ∨
    (∃ h1 : k + 1 < s.size, ((s[k].toNat : Int) == 39) = true ∧ ((s[k + 1].toNat : Int) != 39) = true ∧ pq r ((bl s).drop k) = some ([], 1)) ∨
    (∃ h1 : k + 1 < s.size, ((s[k].toNat : Int) == 39) = true ∧ ((s[k + 1].toNat : Int) != 39) = false ∧ pq r ((bl s).drop k) = pqThen r s[k] 2 ((bl s).drop (k + 2))) ∨
    (((s[k].toNat : Int) == 39) = false ∧ ((s[k].toNat : Int) == 92) = true ∧ s.size ≤ k + 2 ∧ pq r ((bl s).drop k) = none) ∨
    (∃ h2 : k + 2 < s.size, ((s[k].toNat : Int) == 39) = false ∧ ((s[k].toNat : Int) == 92) = true ∧ ¬ hexv s[k + 1] < 16 ∧ pq r ((bl s).drop k) = none) ∨
    (∃ h2 : k + 2 < s.size, ((s[k].toNat : Int) == 39) = false ∧ ((s[k].toNat : Int) == 92) = true ∧ hexv s[k + 1] < 16 ∧ ¬ hexv s[k + 2] < 16 ∧ pq r ((bl s).drop k) = none) ∨
    (∃ h2 : k + 2 < s.size, ((s[k].toNat : Int) == 39) = false ∧ ((s[k].toNat : Int) == 92) = true ∧ hexv s[k + 1] < 16 ∧ hexv s[k + 2] < 16 ∧ odd (UInt8.ofNat (16 * hexv s[k + 1] + hexv s[k + 2])) = false ∧ pq r ((bl s).drop k) = none) ∨
    (∃ h2 : k + 2 < s.size, ((s[k].toNat : Int) == 39) = false ∧ ((s[k].toNat : Int) == 92) = true ∧ hexv s[k + 1] < 16 ∧ hexv s[k + 2] < 16 ∧ odd (UInt8.ofNat (16 * hexv s[k + 1] + hexv s[k + 2])) = true ∧
      pq r ((bl s).drop k) = pqThen r (UInt8.ofNat (16 * hexv s[k + 1] + hexv s[k + 2])) 3 ((bl s).drop (k + 3))) ∨
    (((s[k].toNat : Int) == 39) = false ∧ ((s[k].toNat : Int) == 92) = false ∧ odd s[k] = true ∧ pq r ((bl s).drop k) = none) ∨
    (((s[k].toNat : Int) == 39) = false ∧ ((s[k].toNat : Int) == 92) = false ∧ odd s[k] = false ∧ pq r ((bl s).drop k) = pqThen r s[k] 1 ((bl s).drop (k + 1))) := by
  have hc := rest_cons h
  have hsome : ∀ (b : UInt8) (n : Nat), pbyte ((bl s).drop k) = some (b, n) → pq r ((bl s).drop k) = pqThen r b n ((bl s).drop (k + n)) := by
    intro b n hb
    rw [pq_some _ _ _ _ hb, List.drop_drop]
    rfl
  have hnone : pbyte ((bl s).drop k) = none → s[k].toNat ≠ 39 → pq r ((bl s).drop k) = none := by
    intro hb hn
    rw [pq_none _ _ hb, hc]
    exact if_neg (fun e => hn (by rw [Option.some.inj e]; rfl))
  have t39 : ((s[k].toNat : Int) == 39) = true ↔ s[k].toNat = 39 := by simp only [beq_iff_eq]; omega
  have f39 : ((s[k].toNat : Int) == 39) = false ↔ s[k].toNat ≠ 39 := by simp only [beq_eq_false_iff_ne, ne_eq]; omega
  have t92 : ((s[k].toNat : Int) == 92) = true ↔ s[k].toNat = 92 := by simp only [beq_iff_eq]; omega
  have f92 : ((s[k].toNat : Int) == 92) = false ↔ s[k].toNat ≠ 92 := by simp only [beq_eq_false_iff_ne, ne_eq]; omega
  rw [t39, f39, t92, f92]
  by_cases h39 : s[k].toNat = 39
  · have e39 : s[k] = 39 := UInt8.toNat_inj.1 h39
    have hend : pbyte ((bl s).drop k) = none → pq r ((bl s).drop k) = some ([], 1) := by
      intro hb
      rw [pq_none _ _ hb, hc]
      exact if_pos (by rw [e39]; rfl)
    by_cases h1 : k + 1 < s.size
    · have hc1 := rest_cons h1
      by_cases hd : s[k + 1].toNat = 39
      · refine Or.inr (Or.inr (Or.inl ⟨h1, h39, by simp only [bne_eq_false_iff_eq]; omega, ?_⟩))
        refine hsome _ _ ?_
        rw [hc, hc1, e39]
        simp [pbyte, hd]
      · refine Or.inr (Or.inl ⟨h1, h39, by simp only [bne_iff_ne, ne_eq]; omega, hend ?_⟩)
        rw [hc, hc1, e39]
        simp [pbyte, hd]
    · refine Or.inl ⟨h39, by omega, hend ?_⟩
      rw [hc, List.drop_of_length_le (by rw [bl_len]; omega), e39]
      rfl
  · by_cases h92 : s[k].toNat = 92
    · have e92 : s[k] = 92 := UInt8.toNat_inj.1 h92
      by_cases h2 : k + 2 < s.size
      · have hc1 := rest_cons (s := s) (k := k + 1) (by omega)
        have hc2 := rest_cons h2
        have hp : pbyte ((bl s).drop k) = if hexv s[k + 1] < 16 ∧ hexv s[k + 2] < 16 ∧ odd (UInt8.ofNat (16 * hexv s[k + 1] + hexv s[k + 2])) then some (UInt8.ofNat (16 * hexv s[k + 1] + hexv s[k + 2]), 3) else none := by
          rw [hc, hc1, hc2, e92]
          simp [pbyte]
        by_cases ha : hexv s[k + 1] < 16
        · by_cases hb : hexv s[k + 2] < 16
          · cases ho : odd (UInt8.ofNat (16 * hexv s[k + 1] + hexv s[k + 2])) with
            | false =>
              refine Or.inr (Or.inr (Or.inr (Or.inr (Or.inr (Or.inr (Or.inl ⟨h2, h39, h92, ha, hb, ho, hnone ?_ h39⟩))))))
              rw [hp, if_neg (fun e => by rw [ho] at e; exact Bool.false_ne_true e.2.2)]
            | true =>
              refine Or.inr (Or.inr (Or.inr (Or.inr (Or.inr (Or.inr (Or.inr (Or.inl ⟨h2, h39, h92, ha, hb, ho, hsome _ _ ?_⟩)))))))
              rw [hp, if_pos ⟨ha, hb, ho⟩]
          · refine Or.inr (Or.inr (Or.inr (Or.inr (Or.inr (Or.inl ⟨h2, h39, h92, ha, hb, hnone ?_ h39⟩)))))
            rw [hp, if_neg (fun e => hb e.2.1)]
        · refine Or.inr (Or.inr (Or.inr (Or.inr (Or.inl ⟨h2, h39, h92, ha, hnone ?_ h39⟩))))
          rw [hp, if_neg (fun e => ha e.1)]
      · refine Or.inr (Or.inr (Or.inr (Or.inl ⟨h39, h92, by omega, hnone ?_ h39⟩)))
        have hl : ((bl s).drop (k + 1)).length ≤ 1 := by rw [List.length_drop, bl_len]; omega
        rw [hc, e92]
        match (bl s).drop (k + 1), hl with
        | [], _ => rfl
        | [_], _ => simp [pbyte]
        | _ :: _ :: _, hl => simp at hl
    · have hp : pbyte ((bl s).drop k) = if odd s[k] then none else some (s[k], 1) := by
        rw [hc]
        simp [pbyte, h39, h92]
      cases ho : odd s[k] with
      | true =>
        refine Or.inr (Or.inr (Or.inr (Or.inr (Or.inr (Or.inr (Or.inr (Or.inr (Or.inl ⟨h39, h92, rfl, hnone ?_ h39⟩))))))))
        rw [hp, ho]; rfl
      | false =>
        refine Or.inr (Or.inr (Or.inr (Or.inr (Or.inr (Or.inr (Or.inr (Or.inr (Or.inr ⟨h39, h92, rfl, hsome _ _ ?_⟩))))))))
        rw [hp, ho]; rfl
theorem unhex_d (c : UInt8) (n : Nat) (h : hexv c = n) (hn : n < 16) (w : World) : Calls Tryz.prog 159 #[.int .u8 (c.toNat : Int)] w fun e w' => e = .returned (.int .i64 (n : Int)) ∧ w = w' := by
  have hu := runhex_any c w
  unfold unhexI at hu
  rw [if_pos (by omega), h] at hu
  exact hu
theorem unhex_no (c : UInt8) (h : ¬ hexv c < 16) (w : World) : Calls Tryz.prog 159 #[.int .u8 (c.toNat : Int)] w fun e w' => e = .returned (.int .i64 (-1)) ∧ w = w' := by
  have hu := runhex_any c w
  rw [unhex_neg h] at hu
  exact hu
set_option maxRecDepth 100000 in
set_option maxHeartbeats 16000000 in
theorem rquoted_any (K : Int) (fr : Nat) (s : ByteArray) (hp : fr ≤ s.size) (hs : s.size ≤ 9223372036854775000) (w : World) :
    Calls Tryz.prog 133 #[.string s, .int .i64 (fr : Int), .int .i64 K] w fun e w' => e = .returned (uV (quotedU K fr (pq 2000 ((bl s).drop fr)))) ∧ Below w.heap.size w w' := by
  obtain ⟨R, hR⟩ : ∃ R, R = pq 2000 ((bl s).drop fr) := ⟨_, rfl⟩
  have HR0 := hid hR
  rw [← hR]
  clear hR
  have X1 := hid (Bx.new 0 0 ⟨#[]⟩ w)
  have B1 := hid ((Below.refl w.heap.size w).alloc (Nat.le_refl _) (.cells #[.int .i64 0, .int .i64 0, .string ⟨#[]⟩] 78))
  obtain ⟨W1, hW1⟩ : ∃ W1, W1 = w.alloc (.cells #[.int .i64 0, .int .i64 0, .string ⟨#[]⟩] 78) := ⟨_, rfl⟩
  rw [← hW1] at X1 B1
  have hz1 : W1.heap.size = w.heap.size + 1 := by rw [hW1]; simp
  have Hz1 := hid hz1
  have HW1 := hid hW1
  clear hz1 hW1
  go_enter Tryz.func133, Tryz.ntmps133
  go_wp2
  go_loopw [9, 10] (fun v i wr => ∃ (k : Nat) (acc : Bs), fr ≤ k ∧ k ≤ s.size ∧ i = .int .i64 k ∧ OwnB wr W1.heap.size v acc ∧ acc.length ≤ 2000 ∧ Hid (R = (pq (2000 - acc.length) ((bl s).drop k)).map fun x => (acc ++ x.1, k - fr + x.2)) ∧ Below W1.heap.size W1 wr) (fun _ i _ => s.size - (intOf i).toNat)
  case atStart =>
    refine ⟨fr, [], Nat.le_refl _, hp, rfl, ?_, Nat.zero_le _, hid ?_, ?_⟩
    · rw [← HW1.out]
      have h := own_empty W1 W1.heap.size (Nat.le_refl _)
      rw [Hz1.out] at h
      rw [Hz1.out]
      simpa using h
    · rw [HR0.out]
      cases pq (2000 - ([] : Bs).length) ((bl s).drop fr) <;> simp
    · rw [← HW1.out]
      exact (Below.refl _ _).alloc (Nat.le_refl _) _
  case round =>
    obtain ⟨k, acc, hk1, hk, rfl, hown, hacc, HU, hbel⟩ := hrel
    have HB := hid hbel
    have hszr : W1.heap.size ≤ wr.heap.size := hbel.size
    have hszw : w.heap.size < wr.heap.size := by have := Hz1.out; omega
    have XR := X1.out.on hbel
    obtain ⟨r0, r1, r2⟩ := XR.cells
    obtain ⟨f0, f1, f2⟩ := XR.free
    have BW := hid (B1.out.trans (hbel.mono B1.out.size))
    have HO := hid hown
    clear hbel hown XR
    by_cases hlt : k < s.size
    · have hU := HU.out
      rcases rq_ways s k hlt (2000 - acc.length) with ⟨b39, hk1', hR⟩ | ⟨hk1', b39, b39', hR⟩ | ⟨hk1', b39, b39', hR⟩ | ⟨b39, b92, hk2', hR⟩ | ⟨hk2', b39, b92, ha, hR⟩ | ⟨hk2', b39, b92, ha, hb, hR⟩ | ⟨hk2', b39, b92, ha, hb, ho, hR⟩ | ⟨hk2', b39, b92, ha, hb, ho, hR⟩ | ⟨b39, b92, ho, hR⟩ | ⟨b39, b92, ho, hR⟩
      · have hk1'' : (s.size : Int) ≤ (k : Int) + 1 := by omega
        rw [hR] at hU
        have HV := hid (show R = some (acc ++ [], k - fr + 1) from hU)
        have hcv := conv_all HO.out
        clear hU hR
        go_wp2
        rw [HV.out, List.append_nil]
        exact bodyPost_ret (v := .tuple #[.agg #[.int .i64 K, .int .i64 0, .string (bs acc)], .int .i64 ((k : Int) + 1), .int .i64 0]) (by simp [results, go_sem, r0, r1, r2]) rfl ⟨congrArg Ending.returned (uV_eq (u := quotedU K fr (some (acc, k - fr + 1))) rfl rfl rfl (by simp [quotedU]; omega) rfl), by
          repeat (first | exact BW.out | refine Below.setCell ?_ (by simp) _)⟩
      · rw [hR] at hU
        have HV := hid (show R = some (acc ++ [], k - fr + 1) from hU)
        have hcv := conv_all HO.out
        clear hU hR
        go_wp2
        rw [HV.out, List.append_nil]
        exact bodyPost_ret (v := .tuple #[.agg #[.int .i64 K, .int .i64 0, .string (bs acc)], .int .i64 ((k : Int) + 1), .int .i64 0]) (by simp [results, go_sem, r0, r1, r2]) rfl ⟨congrArg Ending.returned (uV_eq (u := quotedU K fr (some (acc, k - fr + 1))) rfl rfl rfl (by simp [quotedU]; omega) rfl), by
          repeat (first | exact BW.out | refine Below.setCell ?_ (by simp) _)⟩
      · go_wp2_with (at_builtin; go_must (refine wpList_append_bytes rfl _ _ rfl W1.heap.size _ acc rfl (own_on HO.out ((Below.refl _ _).alloc (Nat.le_refl _) _)) (HB.out.alloc hszr _) (by simp; omega) wr.heap.size [s[k]] rfl (new_one wr s[k]) (by simp only [List.length_cons, List.length_nil]; omega) ?_))
        intro v' w2 hown2 hbel2
        obtain ⟨g, cap, L, rfl, hL⟩ := own_slice hown2 (by simp)
        rw [List.length_append, List.length_singleton] at hL
        have HO2 := hid hown2
        have HB2 := hid hbel2
        have XR2 := X1.out.on hbel2
        have BW2 := hid (B1.out.trans (hbel2.mono B1.out.size))
        have hszw2 : w.heap.size < w2.heap.size := by have := Hz1.out; have := hbel2.size; omega
        clear hown2 hbel2 r0 r1 r2 f0 f1 f2
        obtain ⟨r0, r1, r2⟩ := XR2.cells
        obtain ⟨f0, f1, f2⟩ := XR2.free
        clear XR2
        unfold pqThen at hR
        by_cases hf : acc.length = 2000
        · rw [if_pos (by omega)] at hR
          rw [hR] at hU
          have HV := hid (show R = none from hU)
          have hL1 : (2000 : Int) < (L : Int) := by omega
          clear hU hR hf hL
          go_wp2
          rw [HV.out]
          exact bodyPost_ret (v := uV noneU) (by simp [results, uV, noneU, bs, go_sem, r0, r1, r2]) rfl ⟨rfl, by
            repeat (first | exact BW2.out | refine Below.setCell ?_ (by simp) _)⟩
        · rw [if_neg (by omega)] at hR
          rw [hR] at hU
          have HV := hid hU
          have hL1 : ¬ (2000 : Int) < (L : Int) := by omega
          have HF := hid hf
          clear hU hR hf hL
          go_wp2
          go_roundw
          case rel =>
            refine ⟨k + 2, acc ++ [s[k]], by omega, by omega, by go_num, HO2.out, by have := HF.out; simp only [List.length_append, List.length_cons, List.length_nil]; omega, hid ?_, HB2.out⟩
            rw [HV.out, List.length_append, List.length_singleton, Nat.sub_add_eq, Option.map_map]
            congr 1
            funext x
            simp only [Function.comp_apply, Prod.mk.injEq]
            exact ⟨by simp, by omega⟩
          case measure => simp [intOf]; omega
      · have hk2'' : (s.size : Int) ≤ (k : Int) + 2 := by omega
        rw [hR] at hU
        have HV := hid (show R = none from hU)
        clear hU hR
        go_wp2
        rw [HV.out]
        exact bodyPost_ret (v := uV noneU) (by simp [results, uV, noneU, bs, go_sem, r0, r1, r2]) rfl ⟨rfl, by
          repeat (first | exact BW.out | refine Below.setCell ?_ (by simp) _)⟩
      · rw [hR] at hU
        have HV := hid (show R = none from hU)
        clear hU hR
        go_wp2_with fail
        refine (unhex_no s[k + 1] ha _).mono ?_
        rintro e w' ⟨rfl, rfl⟩
        go_wp2
        rw [HV.out]
        exact bodyPost_ret (v := uV noneU) (by simp [results, uV, noneU, bs, go_sem, r0, r1, r2]) rfl ⟨rfl, by
          repeat (first | exact BW.out | refine Below.setCell ?_ (by simp) _)⟩
      · obtain ⟨na, hna⟩ : ∃ n, n = hexv s[k + 1] := ⟨_, rfl⟩
        have ha16 : na < 16 := by omega
        have Hna := hid hna
        clear hna ha
        rw [hR] at hU
        have HV := hid (show R = none from hU)
        clear hU hR
        go_wp2_with fail
        refine (unhex_d s[k + 1] na Hna.out.symm ha16 _).mono ?_
        rintro e w' ⟨rfl, rfl⟩
        go_wp2_with fail
        refine (unhex_no s[k + 2] hb _).mono ?_
        rintro e w' ⟨rfl, rfl⟩
        go_wp2
        rw [HV.out]
        exact bodyPost_ret (v := uV noneU) (by simp [results, uV, noneU, bs, go_sem, r0, r1, r2]) rfl ⟨rfl, by
          repeat (first | exact BW.out | refine Below.setCell ?_ (by simp) _)⟩
      · obtain ⟨na, hna⟩ : ∃ n, n = hexv s[k + 1] := ⟨_, rfl⟩
        obtain ⟨nb, hnb⟩ : ∃ n, n = hexv s[k + 2] := ⟨_, rfl⟩
        rw [← hna, ← hnb] at ho
        have ha16 : na < 16 := by omega
        have hb16 : nb < 16 := by omega
        have Hna := hid hna
        have Hnb := hid hnb
        rw [hR] at hU
        have HV := hid (show R = none from hU)
        clear hU hR hna hnb ha hb
        have hsum : 16 * (na : Int) + (nb : Int) = ((UInt8.ofNat (16 * na + nb)).toNat : Int) := by rw [Num.ofNat_toNat]; omega
        have hxb : ((UInt8.ofNat (16 * na + nb)).toNat : Int) ≤ 255 := by have := (UInt8.ofNat (16 * na + nb)).toNat_lt; omega
        have hxw : IntKind.u8.wrap ((UInt8.ofNat (16 * na + nb)).toNat : Int) = ((UInt8.ofNat (16 * na + nb)).toNat : Int) := by unfold IntKind.wrap; simp [IntKind.bits, IntKind.signed]
        generalize UInt8.ofNat (16 * na + nb) = x at *
        go_wp2_with fail
        refine (unhex_d s[k + 1] na Hna.out.symm ha16 _).mono ?_
        rintro e w' ⟨rfl, rfl⟩
        go_wp2_with fail
        refine (unhex_d s[k + 2] nb Hnb.out.symm hb16 _).mono ?_
        rintro e w' ⟨rfl, rfl⟩
        go_wp2_with fail
        refine wp_quiet_in (fun wx => Below wr.heap.size wr wx) (by kernel_rfl) (by kernel_rfl) (Below.refl _ _).drew ?_
        go_big_quiet_want
        go_big_quiet_op
        go_big_quiet_on
        go_big_quiet_want
        go_big_quiet_op
        go_big_quiet_on
        go_big_quiet_want
        go_big_quiet_op
        apply Exists.intro
        refine ⟨fun _ _ => ?_, ?_⟩
        · with_reducible exact Eq.refl _
        go_big_quiet_on
        go_big_quiet_want
        go_big_quiet_op
        apply Exists.intro
        refine ⟨fun _ _ => ?_, ?_⟩
        · with_reducible exact Eq.refl _
        go_big_quiet_on
        go_big_quiet_want
        go_big_quiet_op
        refine ⟨.int .i64 (na : Int), fun wx hx => ?_, ?_⟩
        · refine (unhex_d s[k + 1] na Hna.out.symm ha16 _).mono ?_
          rintro e w3 ⟨rfl, rfl⟩
          exact ⟨rfl, hx⟩
        go_big_quiet_on
        go_big_quiet_want
        go_big_quiet_op
        apply Exists.intro
        refine ⟨fun _ _ => ?_, ?_⟩
        · with_reducible exact Eq.refl _
        go_big_quiet_on
        go_big_quiet_want
        go_big_quiet_op
        go_big_quiet_on
        go_big_quiet_want
        go_big_quiet_op
        go_big_quiet_on
        go_big_quiet_want
        go_big_quiet_op
        apply Exists.intro
        refine ⟨fun _ _ => ?_, ?_⟩
        · with_reducible exact Eq.refl _
        go_big_quiet_on
        go_big_quiet_want
        go_big_quiet_op
        apply Exists.intro
        refine ⟨fun _ _ => ?_, ?_⟩
        · with_reducible exact Eq.refl _
        go_big_quiet_on
        go_big_quiet_want
        go_big_quiet_op
        refine ⟨.int .i64 (nb : Int), fun wx hx => ?_, ?_⟩
        · refine (unhex_d s[k + 2] nb Hnb.out.symm hb16 _).mono ?_
          rintro e w3 ⟨rfl, rfl⟩
          exact ⟨rfl, hx⟩
        go_big_quiet_on
        go_big_quiet_want
        go_big_quiet_op
        apply Exists.intro
        refine ⟨fun _ _ => ?_, ?_⟩
        · with_reducible exact Eq.refl _
        go_big_quiet_on
        go_big_quiet_want
        go_big_quiet_op
        apply Exists.intro
        refine ⟨fun _ _ => ?_, ?_⟩
        · with_reducible exact Eq.refl _
        go_big_quiet_on
        go_big_quiet_want
        go_big_quiet_op
        go_big_quiet_on
        refine wpQuiet_nil ?_
        intro w5 hb5
        have HO5 := hid (own_on HO.out hb5)
        have HB5 := hid (HB.out.trans (hb5.mono hszr))
        have hszr5 : W1.heap.size ≤ w5.heap.size := by have := hb5.size; omega
        have XR5 := X1.out.on HB5.out
        have BW5 := hid (BW.out.trans (hb5.mono BW.out.size))
        have hszw5 : w.heap.size < w5.heap.size := by have := Hz1.out; omega
        clear hb5 r0 r1 r2 f0 f1 f2
        obtain ⟨r0, r1, r2⟩ := XR5.cells
        obtain ⟨f0, f1, f2⟩ := XR5.free
        clear XR5
        have hod := hid (fun w => rodd_any x w)
        rw [ho] at hod
        go_wp2_with fail
        refine (hod.out _).mono ?_
        rintro e w' ⟨rfl, rfl⟩
        go_wp2
        rw [HV.out]
        exact bodyPost_ret (v := uV noneU) (by simp [results, uV, noneU, bs, go_sem, r0, r1, r2]) rfl ⟨rfl, by
          repeat (first | exact BW5.out | refine Below.setCell ?_ (by simp) _)⟩
      · obtain ⟨na, hna⟩ : ∃ n, n = hexv s[k + 1] := ⟨_, rfl⟩
        obtain ⟨nb, hnb⟩ : ∃ n, n = hexv s[k + 2] := ⟨_, rfl⟩
        rw [← hna, ← hnb] at ho
        have ha16 : na < 16 := by omega
        have hb16 : nb < 16 := by omega
        have Hna := hid hna
        have Hnb := hid hnb
        rw [← hna, ← hnb] at hR
        clear hna hnb ha hb
        have hsum : 16 * (na : Int) + (nb : Int) = ((UInt8.ofNat (16 * na + nb)).toNat : Int) := by rw [Num.ofNat_toNat]; omega
        have hxb : ((UInt8.ofNat (16 * na + nb)).toNat : Int) ≤ 255 := by have := (UInt8.ofNat (16 * na + nb)).toNat_lt; omega
        have hxw : IntKind.u8.wrap ((UInt8.ofNat (16 * na + nb)).toNat : Int) = ((UInt8.ofNat (16 * na + nb)).toNat : Int) := by unfold IntKind.wrap; simp [IntKind.bits, IntKind.signed]
        generalize UInt8.ofNat (16 * na + nb) = x at *
        go_wp2_with fail
        refine (unhex_d s[k + 1] na Hna.out.symm ha16 _).mono ?_
        rintro e w' ⟨rfl, rfl⟩
        go_wp2_with fail
        refine (unhex_d s[k + 2] nb Hnb.out.symm hb16 _).mono ?_
        rintro e w' ⟨rfl, rfl⟩
        go_wp2_with fail
        refine wp_quiet_in (fun wx => Below wr.heap.size wr wx) (by kernel_rfl) (by kernel_rfl) (Below.refl _ _).drew ?_
        go_big_quiet_want
        go_big_quiet_op
        go_big_quiet_on
        go_big_quiet_want
        go_big_quiet_op
        go_big_quiet_on
        go_big_quiet_want
        go_big_quiet_op
        apply Exists.intro
        refine ⟨fun _ _ => ?_, ?_⟩
        · with_reducible exact Eq.refl _
        go_big_quiet_on
        go_big_quiet_want
        go_big_quiet_op
        apply Exists.intro
        refine ⟨fun _ _ => ?_, ?_⟩
        · with_reducible exact Eq.refl _
        go_big_quiet_on
        go_big_quiet_want
        go_big_quiet_op
        refine ⟨.int .i64 (na : Int), fun wx hx => ?_, ?_⟩
        · refine (unhex_d s[k + 1] na Hna.out.symm ha16 _).mono ?_
          rintro e w3 ⟨rfl, rfl⟩
          exact ⟨rfl, hx⟩
        go_big_quiet_on
        go_big_quiet_want
        go_big_quiet_op
        apply Exists.intro
        refine ⟨fun _ _ => ?_, ?_⟩
        · with_reducible exact Eq.refl _
        go_big_quiet_on
        go_big_quiet_want
        go_big_quiet_op
        go_big_quiet_on
        go_big_quiet_want
        go_big_quiet_op
        go_big_quiet_on
        go_big_quiet_want
        go_big_quiet_op
        apply Exists.intro
        refine ⟨fun _ _ => ?_, ?_⟩
        · with_reducible exact Eq.refl _
        go_big_quiet_on
        go_big_quiet_want
        go_big_quiet_op
        apply Exists.intro
        refine ⟨fun _ _ => ?_, ?_⟩
        · with_reducible exact Eq.refl _
        go_big_quiet_on
        go_big_quiet_want
        go_big_quiet_op
        refine ⟨.int .i64 (nb : Int), fun wx hx => ?_, ?_⟩
        · refine (unhex_d s[k + 2] nb Hnb.out.symm hb16 _).mono ?_
          rintro e w3 ⟨rfl, rfl⟩
          exact ⟨rfl, hx⟩
        go_big_quiet_on
        go_big_quiet_want
        go_big_quiet_op
        apply Exists.intro
        refine ⟨fun _ _ => ?_, ?_⟩
        · with_reducible exact Eq.refl _
        go_big_quiet_on
        go_big_quiet_want
        go_big_quiet_op
        apply Exists.intro
        refine ⟨fun _ _ => ?_, ?_⟩
        · with_reducible exact Eq.refl _
        go_big_quiet_on
        go_big_quiet_want
        go_big_quiet_op
        go_big_quiet_on
        refine wpQuiet_nil ?_
        intro w5 hb5
        have HO5 := hid (own_on HO.out hb5)
        have HB5 := hid (HB.out.trans (hb5.mono hszr))
        have hszr5 : W1.heap.size ≤ w5.heap.size := by have := hb5.size; omega
        have XR5 := X1.out.on HB5.out
        have BW5 := hid (BW.out.trans (hb5.mono BW.out.size))
        have hszw5 : w.heap.size < w5.heap.size := by have := Hz1.out; omega
        clear hb5 r0 r1 r2 f0 f1 f2
        obtain ⟨r0, r1, r2⟩ := XR5.cells
        obtain ⟨f0, f1, f2⟩ := XR5.free
        clear XR5
        have hod := hid (fun w => rodd_any x w)
        rw [ho] at hod
        go_wp2_with fail
        refine (hod.out _).mono ?_
        rintro e w' ⟨rfl, rfl⟩
        go_wp2_with (at_builtin; go_must (refine wpList_append_bytes rfl _ _ rfl W1.heap.size _ acc rfl (own_on HO5.out ((Below.refl _ _).alloc (Nat.le_refl _) _)) (HB5.out.alloc hszr5 _) (by simp; omega) w5.heap.size [x] rfl (new_one w5 x) (by simp only [List.length_cons, List.length_nil]; omega) ?_))
        intro v' w2 hown2 hbel2
        obtain ⟨g, cap, L, rfl, hL⟩ := own_slice hown2 (by simp)
        rw [List.length_append, List.length_singleton] at hL
        have HO2 := hid hown2
        have HB2 := hid hbel2
        have XR2 := X1.out.on hbel2
        have BW2 := hid (B1.out.trans (hbel2.mono B1.out.size))
        have hszw2 : w.heap.size < w2.heap.size := by have := Hz1.out; have := hbel2.size; omega
        clear hown2 hbel2 r0 r1 r2 f0 f1 f2
        obtain ⟨r0, r1, r2⟩ := XR2.cells
        obtain ⟨f0, f1, f2⟩ := XR2.free
        clear XR2
        unfold pqThen at hR
        by_cases hf : acc.length = 2000
        · rw [if_pos (by omega)] at hR
          rw [hR] at hU
          have HV := hid (show R = none from hU)
          have hL1 : (2000 : Int) < (L : Int) := by omega
          clear hU hR hf hL
          go_wp2
          rw [HV.out]
          exact bodyPost_ret (v := uV noneU) (by simp [results, uV, noneU, bs, go_sem, r0, r1, r2]) rfl ⟨rfl, by
            repeat (first | exact BW2.out | refine Below.setCell ?_ (by simp) _)⟩
        · rw [if_neg (by omega)] at hR
          rw [hR] at hU
          have HV := hid hU
          have hL1 : ¬ (2000 : Int) < (L : Int) := by omega
          have HF := hid hf
          clear hU hR hf hL
          go_wp2
          go_roundw
          case rel =>
            refine ⟨k + 3, acc ++ [x], by omega, by omega, by go_num, HO2.out, by have := HF.out; simp only [List.length_append, List.length_cons, List.length_nil]; omega, hid ?_, HB2.out⟩
            rw [HV.out, List.length_append, List.length_singleton, Nat.sub_add_eq, Option.map_map]
            congr 1
            funext y
            simp only [Function.comp_apply, Prod.mk.injEq]
            exact ⟨by simp, by omega⟩
          case measure => simp [intOf]; omega
      · have hod := hid (fun w => rodd_any s[k] w)
        rw [ho] at hod
        rw [hR] at hU
        have HV := hid (show R = none from hU)
        clear hU hR
        go_wp2_with fail
        refine (hod.out _).mono ?_
        rintro e w' ⟨rfl, rfl⟩
        go_wp2
        rw [HV.out]
        exact bodyPost_ret (v := uV noneU) (by simp [results, uV, noneU, bs, go_sem, r0, r1, r2]) rfl ⟨rfl, by
          repeat (first | exact BW.out | refine Below.setCell ?_ (by simp) _)⟩
      · have hod := hid (fun w => rodd_any s[k] w)
        rw [ho] at hod
        go_wp2_with fail
        refine (hod.out _).mono ?_
        rintro e w' ⟨rfl, rfl⟩
        go_wp2_with (at_builtin; go_must (refine wpList_append_bytes rfl _ _ rfl W1.heap.size _ acc rfl (own_on HO.out ((Below.refl _ _).alloc (Nat.le_refl _) _)) (HB.out.alloc hszr _) (by simp; omega) wr.heap.size [s[k]] rfl (new_one wr s[k]) (by simp only [List.length_cons, List.length_nil]; omega) ?_))
        intro v' w2 hown2 hbel2
        obtain ⟨g, cap, L, rfl, hL⟩ := own_slice hown2 (by simp)
        rw [List.length_append, List.length_singleton] at hL
        have HO2 := hid hown2
        have HB2 := hid hbel2
        have XR2 := X1.out.on hbel2
        have BW2 := hid (B1.out.trans (hbel2.mono B1.out.size))
        have hszw2 : w.heap.size < w2.heap.size := by have := Hz1.out; have := hbel2.size; omega
        clear hown2 hbel2 r0 r1 r2 f0 f1 f2
        obtain ⟨r0, r1, r2⟩ := XR2.cells
        obtain ⟨f0, f1, f2⟩ := XR2.free
        clear XR2
        unfold pqThen at hR
        by_cases hf : acc.length = 2000
        · rw [if_pos (by omega)] at hR
          rw [hR] at hU
          have HV := hid (show R = none from hU)
          have hL1 : (2000 : Int) < (L : Int) := by omega
          clear hU hR hf hL
          go_wp2
          rw [HV.out]
          exact bodyPost_ret (v := uV noneU) (by simp [results, uV, noneU, bs, go_sem, r0, r1, r2]) rfl ⟨rfl, by
            repeat (first | exact BW2.out | refine Below.setCell ?_ (by simp) _)⟩
        · rw [if_neg (by omega)] at hR
          rw [hR] at hU
          have HV := hid hU
          have hL1 : ¬ (2000 : Int) < (L : Int) := by omega
          have HF := hid hf
          clear hU hR hf hL
          go_wp2
          go_roundw
          case rel =>
            refine ⟨k + 1, acc ++ [s[k]], by omega, by omega, by go_num, HO2.out, by have := HF.out; simp only [List.length_append, List.length_cons, List.length_nil]; omega, hid ?_, HB2.out⟩
            rw [HV.out, List.length_append, List.length_singleton, Nat.sub_add_eq, Option.map_map]
            congr 1
            funext x
            simp only [Function.comp_apply, Prod.mk.injEq]
            exact ⟨by simp, by omega⟩
          case measure => simp [intOf]; omega
    · have hU := HU.out
      rw [List.drop_of_length_le (by rw [bl_len]; omega)] at hU
      have HV := hid (show R = none by
        rw [hU]
        cases 2000 - acc.length <;> rfl)
      clear hU
      go_wp2
      rw [HV.out]
      exact bodyPost_ret (v := uV noneU) (by simp [results, uV, noneU, bs, go_sem, r0, r1, r2]) rfl ⟨rfl, by
        repeat (first | exact BW.out | refine Below.setCell ?_ (by simp) _)⟩
end Va
end Go.Proofs.YtiellodbkanciaaGreatDoor
