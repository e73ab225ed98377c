/-
  Contract of the reference's Unkey.
-/
import Derived.Test.YtpabhekbkdpkiaaDoorValUnkeyed
import Derived.Test.YtpabhekbkdpkiaaDoorNumRefUnfixed
namespace Go.Proofs.YtpabhekbkdpkiaaDoor
open Go.RowKit
namespace Va
open Num (hid unfF)
theorem own_slice {w : World} {base : Nat} {v : Value} {l : Bs} (h : OwnB w base v l) (hl : l ≠ []) : ∃ g cap L, v = .slice (some ⟨g, 0, none⟩) L cap ∧ L = l.length := by
  rcases own_ways h with ⟨_, h0⟩ | ⟨g, cap, rfl⟩
  · exact absurd h0 hl
  · exact ⟨g, cap, _, rfl, rfl⟩
theorem own_empty (w : World) (base : Nat) (hb : base ≤ w.heap.size) : OwnB (w.alloc (.cells #[] 5)) base (.slice (some ⟨w.heap.size, 0, none⟩) 0 0) [] :=
  World.ownsRow_made w #[] 0 hb (by decide) rfl
theorem run_ways (s : ByteArray) (k : Nat) (h : k < s.size) (r : Nat) :
    (((s[k].toNat : Int) != 0) = false ∧ s.size ≤ k + 1 ∧ unst r ((bl s).drop k) = .short) ∨
    (∃ h1 : k + 1 < s.size, ((s[k].toNat : Int) != 0) = false ∧ ((s[k + 1].toNat : Int) == 1) = true ∧ unst r ((bl s).drop k) = .ok [] 2) ∨
    (∃ h1 : k + 1 < s.size, ((s[k].toNat : Int) != 0) = false ∧ ((s[k + 1].toNat : Int) == 1) = false ∧ ((s[k + 1].toNat : Int) != 255) = false ∧
      unst r ((bl s).drop k) = if r = 0 then .form else (unst (r - 1) ((bl s).drop (k + 2))).on [0] 2) ∨
    (∃ h1 : k + 1 < s.size, ((s[k].toNat : Int) != 0) = false ∧ ((s[k + 1].toNat : Int) == 1) = false ∧ ((s[k + 1].toNat : Int) != 255) = true ∧ unst r ((bl s).drop k) = .form) ∨
    (((s[k].toNat : Int) != 0) = true ∧ unst r ((bl s).drop k) = if r = 0 then .form else (unst (r - 1) ((bl s).drop (k + 1))).on [s[k]] 1) := by
  rw [rest_cons h, unst_cons]
  have key : ∀ (b : UInt8) (n : Nat), n < 256 → (b = UInt8.ofNat n ↔ b.toNat = n) := by
    intro b n hn
    constructor
    · intro e; rw [e, Num.ofNat_toNat]; omega
    · intro e; apply UInt8.toNat_inj.1; rw [Num.ofNat_toNat]; omega
  have q0 : s[k] = 0 ↔ s[k].toNat = 0 := key _ 0 (by decide)
  have b0 : ((s[k].toNat : Int) != 0) = false ↔ s[k].toNat = 0 := by simp only [bne_eq_false_iff_eq]; omega
  have b0' : ((s[k].toNat : Int) != 0) = true ↔ ¬ s[k].toNat = 0 := by simp only [bne_iff_ne, ne_eq]; omega
  by_cases hb : s[k].toNat = 0
  · rw [if_pos (q0.2 hb)]
    by_cases h1 : k + 1 < s.size
    · have q1 : s[k + 1] = 1 ↔ s[k + 1].toNat = 1 := key _ 1 (by decide)
      have q255 : s[k + 1] = 255 ↔ s[k + 1].toNat = 255 := key _ 255 (by decide)
      rw [rest_cons h1]
      simp only
      by_cases e1 : s[k + 1].toNat = 1
      · exact Or.inr (Or.inl ⟨h1, b0.2 hb, by simp only [beq_iff_eq]; omega, by rw [if_pos (q1.2 e1)]⟩)
      · have n1 : ((s[k + 1].toNat : Int) == 1) = false := by simp only [beq_eq_false_iff_ne, ne_eq]; omega
        have m1 : ¬ s[k + 1] = 1 := fun e => e1 (q1.1 e)
        by_cases e2 : s[k + 1].toNat = 255
        · exact Or.inr (Or.inr (Or.inl ⟨h1, b0.2 hb, n1, by simp only [bne_eq_false_iff_eq]; omega, by rw [if_neg m1, if_pos (q255.2 e2)]⟩))
        · exact Or.inr (Or.inr (Or.inr (Or.inl ⟨h1, b0.2 hb, n1, by simp only [bne_iff_ne, ne_eq]; omega, by rw [if_neg m1, if_neg (fun e => e2 (q255.1 e))]⟩)))
    · refine Or.inl ⟨b0.2 hb, by omega, ?_⟩
      rw [List.drop_of_length_le (by rw [bl_len]; omega)]
  · exact Or.inr (Or.inr (Or.inr (Or.inr ⟨b0'.2 hb, by rw [if_neg (fun e => hb (q0.1 e))]⟩)))
theorem runfixed9 (s : ByteArray) (h : 9 ≤ s.size) (w : World) :
    Calls Tryd.prog 37 #[.string (s.extract 1 9)] w fun e w' => e = .returned (.tuple #[.int .u64 (unfF 0 (((bl s).drop 1).take 8) : Nat), .int .i64 0]) ∧ w = w' := by
  have hu := Num.runfixed_any (s.extract 1 9) w
  have e : (s.extract 1 9).data.toList = ((bl s).drop 1).take 8 := by
    rw [ByteArray.data_extract]
    simp [bl]
  rw [e] at hu
  have e2 : Num.unfixL (((bl s).drop 1).take 8) = (unfF 0 (((bl s).drop 1).take 8), 0) := by
    unfold Num.unfixL
    rw [if_pos]
    rw [List.length_take, List.length_drop, bl_len]
    omega
  rw [e2] at hu
  exact hu
set_option maxRecDepth 100000 in
set_option maxHeartbeats 8000000 in
theorem runkey_any (s : ByteArray) (hs : s.size ≤ maxLen) (w : World) :
    Calls Tryd.prog 19 #[.string s] w fun e w' => e = .returned (uV (unkeyL (bl s))) ∧ Below w.heap.size w w' := by
  replace hs : s.size ≤ 9223372036854775807 := by unfold maxLen at hs; omega
  by_cases h0 : s.size = 0
  · have hz : bl s = [] := by
      apply List.length_eq_zero_iff.1
      rw [bl_len]; exact h0
    have e : ((s.size : Int) == 0) = true := by simp only [beq_iff_eq]; omega
    rw [hz]
    clear hz h0
    go_enter Tryd.func19, Tryd.ntmps19
    go_wp2
    exact bodyPost_ret (v := uV ⟨0, 0, [], 0, 3⟩) (by simp [results, uV, bs, go_sem]) rfl ⟨rfl, (Below.refl _ _).alloc (Nat.le_refl _) _⟩
  · have hp : 0 < s.size := by omega
    have e : ((s.size : Int) == 0) = false := by simp only [beq_eq_false_iff_ne, ne_eq]; omega
    clear h0
    have hby : (s[0].toNat : Int) ≤ 255 := by have := s[0].toNat_lt; omega
    rcases unkey_ways s hp with ⟨b0, hu⟩ | ⟨b0, b1, hu⟩ | ⟨b0, b1, b2, hu⟩ | ⟨b0, b1, b2, b3, hu⟩ | ⟨b0, b1, b2, b3, b4, hu⟩
    · rw [hu]
      clear hu
      go_enter Tryd.func19, Tryd.ntmps19
      go_wp2
      exact bodyPost_ret (v := uV ⟨0, 0, [], 1, 0⟩) (by simp [results, uV, bs, go_sem]) rfl ⟨rfl, (Below.refl _ _).alloc (Nat.le_refl _) _⟩
    · by_cases h9 : s.size < 9
      · rw [if_pos h9] at hu
        rw [hu]
        clear hu
        go_enter Tryd.func19, Tryd.ntmps19
        go_wp2
        exact bodyPost_ret (v := uV ⟨0, 0, [], 0, 3⟩) (by simp [results, uV, bs, go_sem]) rfl ⟨rfl, (Below.refl _ _).alloc (Nat.le_refl _) _⟩
      · rw [if_neg h9] at hu
        rw [hu]
        have hk := runfixed9 s (by omega)
        have hlt := unf8_take ((bl s).drop 1)
        have hw := i64_back hlt
        have h9' : (9 : Int) ≤ (s.size : Int) := by omega
        have h99 : 9 ≤ s.size := by omega
        generalize unfF 0 (((bl s).drop 1).take 8) = x at hk hlt hw ⊢
        have Hk := hid hk
        clear hu hk hlt
        go_enter Tryd.func19, Tryd.ntmps19
        go_wp2_with fail
        refine (Hk.out _).mono ?_
        rintro e w5 ⟨rfl, rfl⟩
        go_wp2
        exact bodyPost_ret (v := uV ⟨1, (x : Int) - 9223372036854775808, [], 9, 0⟩) (by simp [results, uV, bs, go_sem]) rfl ⟨rfl, (Below.refl _ _).alloc (Nat.le_refl _) _⟩
    · rw [hu]
      clear hu
      have hr := hid (unst_fits 2000 ((bl s).drop 1))
      have hkk := hid (show (s[0].toNat : Int) = 2 by simpa using b2)
      obtain ⟨R, hR⟩ : ∃ R, R = unst 2000 ((bl s).drop 1) := ⟨_, rfl⟩
      have HR0 := hid hR
      rw [← hR]
      clear hR
      have b3' : ¬ (3 : Int) < (s[0].toNat : Int) := by have := hkk.out; omega
      have X1 := hid (Bx.new 0 0 ⟨#[]⟩ w)
      have B1 := hid ((Below.refl w.heap.size w).alloc (Nat.le_refl _) (.cells #[.int .i64 0, .int .i64 0, .string ⟨#[]⟩] 23))
      obtain ⟨W1, hW1⟩ : ∃ W1, W1 = w.alloc (.cells #[.int .i64 0, .int .i64 0, .string ⟨#[]⟩] 23) := ⟨_, rfl⟩
      rw [← hW1] at X1 B1
      have hz1 : W1.heap.size = w.heap.size + 1 := by rw [hW1]; simp
      have Hz1 := hid hz1
      have HW1 := hid hW1
      clear hz1 hW1
      go_enter Tryd.func19, Tryd.ntmps19
      go_wp2
      go_loopw [8, 9] (fun v i wr => ∃ (k : Nat) (acc : Bs), 1 ≤ k ∧ k ≤ s.size ∧ i = .int .i64 k ∧ OwnB wr W1.heap.size v acc ∧ acc.length ≤ 2000 ∧ Hid (R = (unst (2000 - acc.length) ((bl s).drop k)).on acc (k - 1)) ∧ Below W1.heap.size W1 wr) (fun _ i _ => s.size - (intOf i).toNat)
      case atStart =>
        refine ⟨1, [], Nat.le_refl _, hp, rfl, ?_, Nat.zero_le _, hid ?_, ?_⟩
        · rw [← HW1.out]
          have h := own_empty W1 W1.heap.size (Nat.le_refl _)
          rw [Hz1.out] at h
          rw [Hz1.out]
          simpa using h
        · rw [HR0.out]
          cases unst (2000 - ([] : Bs).length) ((bl s).drop 1) <;> simp [Rd.on]
        · rw [← HW1.out]
          exact (Below.refl _ _).alloc (Nat.le_refl _) _
      case round =>
        obtain ⟨k, acc, hk1, hk, rfl, hown, hacc, HU, hbel⟩ := hrel
        have HB := hid hbel
        have hszr : W1.heap.size ≤ wr.heap.size := hbel.size
        have hszw : w.heap.size < wr.heap.size := by have := Hz1.out; omega
        have XR := X1.out.on hbel
        obtain ⟨r0, r1, r2⟩ := XR.cells
        obtain ⟨f0, f1, f2⟩ := XR.free
        have BW := hid (B1.out.trans (hbel.mono B1.out.size))
        have HO := hid hown
        clear hbel hown XR
        by_cases hlt : k < s.size
        · have hU := HU.out
          rcases run_ways s k hlt (2000 - acc.length) with ⟨h0, hk2, hR⟩ | ⟨hk2, h0, h1, hR⟩ | ⟨hk2, h0, h1, h2, hR⟩ | ⟨hk2, h0, h1, h2, hR⟩ | ⟨h0, hR⟩
          · rw [hR] at hU
            have HV := hid (show R = .short from hU)
            clear hU hR
            have hk2' : (s.size : Int) ≤ (k : Int) + 1 := by omega
            go_wp2
            rw [HV.out]
            exact bodyPost_ret (v := uV ⟨0, 0, [], 0, 3⟩) (by simp [results, uV, bs, go_sem, r0, r1, r2]) rfl ⟨rfl, by
              repeat (first | exact BW.out | refine Below.setCell ?_ (by simp) _)⟩
          · rw [hR] at hU
            have HV := hid (show R = .ok (acc ++ []) (k - 1 + 2) from hU)
            have hcv := conv_all HO.out
            clear hU hR
            go_wp2
            rw [HV.out, List.append_nil]
            exact bodyPost_ret (v := .tuple #[.agg #[.int .i64 (s[0].toNat : Int), .int .i64 0, .string (bs acc)], .int .i64 ((k : Int) + 1 + 1), .int .i64 0]) (by simp [results, go_sem, r0, r1, r2]) rfl ⟨congrArg Ending.returned (uV_eq (u := unTail 2 (.ok acc (k - 1 + 2))) (by simpa [unTail] using hkk.out) rfl rfl (by simp [unTail]; omega) rfl), by
              repeat (first | exact BW.out | refine Below.setCell ?_ (by simp) _)⟩
          · go_wp2_with (at_builtin; go_must (refine wpList_append_bytes rfl _ _ rfl W1.heap.size _ acc rfl (own_on HO.out ((Below.refl _ _).alloc (Nat.le_refl _) _)) (HB.out.alloc hszr _) (by simp; omega) wr.heap.size [0] rfl (new_one wr 0) (by simp only [List.length_cons, List.length_nil]; omega) ?_))
            intro v' w2 hown2 hbel2
            obtain ⟨g, cap, L, rfl, hL⟩ := own_slice hown2 (by simp)
            rw [List.length_append, List.length_singleton] at hL
            have HO2 := hid hown2
            have HB2 := hid hbel2
            have XR2 := X1.out.on hbel2
            have BW2 := hid (B1.out.trans (hbel2.mono B1.out.size))
            have hszw2 : w.heap.size < w2.heap.size := by have := Hz1.out; have := hbel2.size; omega
            clear hown2 hbel2 r0 r1 r2 f0 f1 f2
            obtain ⟨r0, r1, r2⟩ := XR2.cells
            obtain ⟨f0, f1, f2⟩ := XR2.free
            clear XR2
            by_cases hf : acc.length = 2000
            · rw [if_pos (by omega)] at hR
              rw [hR] at hU
              have HV := hid (show R = .form from hU)
              have hL1 : (2000 : Int) < (L : Int) := by omega
              clear hU hR hf hL
              go_wp2
              rw [HV.out]
              exact bodyPost_ret (v := uV ⟨0, 0, [], 0, 4⟩) (by simp [results, uV, bs, go_sem, r0, r1, r2]) rfl ⟨rfl, by
                repeat (first | exact BW2.out | refine Below.setCell ?_ (by simp) _)⟩
            · rw [if_neg (by omega), ] at hR
              rw [hR, on_on] at hU
              have HV := hid hU
              have hL1 : ¬ (2000 : Int) < (L : Int) := by omega
              have HF := hid hf
              clear hU hR hf hL
              go_wp2
              go_roundw
              case rel =>
                refine ⟨k + 2, acc ++ [0], by omega, by omega, by go_num, HO2.out, by have := HF.out; simp only [List.length_append, List.length_cons, List.length_nil]; omega, ?_, HB2.out⟩
                have h := HV.out
                rw [List.length_append, List.length_singleton, Nat.sub_add_eq]
                rw [show k - 1 + 2 = k + 2 - 1 by omega] at h
                exact hid h
              case measure => simp [intOf]; omega
          · rw [hR] at hU
            have HV := hid (show R = .form from hU)
            clear hU hR
            go_wp2
            rw [HV.out]
            exact bodyPost_ret (v := uV ⟨0, 0, [], 0, 4⟩) (by simp [results, uV, bs, go_sem, r0, r1, r2]) rfl ⟨rfl, by
              repeat (first | exact BW.out | refine Below.setCell ?_ (by simp) _)⟩
          · go_wp2_with (at_builtin; go_must (refine wpList_append_bytes rfl _ _ rfl W1.heap.size _ acc rfl (own_on HO.out ((Below.refl _ _).alloc (Nat.le_refl _) _)) (HB.out.alloc hszr _) (by simp; omega) wr.heap.size [s[k]] rfl (new_one wr s[k]) (by simp only [List.length_cons, List.length_nil]; omega) ?_))
            intro v' w2 hown2 hbel2
            obtain ⟨g, cap, L, rfl, hL⟩ := own_slice hown2 (by simp)
            rw [List.length_append, List.length_singleton] at hL
            have HO2 := hid hown2
            have HB2 := hid hbel2
            have XR2 := X1.out.on hbel2
            have BW2 := hid (B1.out.trans (hbel2.mono B1.out.size))
            have hszw2 : w.heap.size < w2.heap.size := by have := Hz1.out; have := hbel2.size; omega
            clear hown2 hbel2 r0 r1 r2 f0 f1 f2
            obtain ⟨r0, r1, r2⟩ := XR2.cells
            obtain ⟨f0, f1, f2⟩ := XR2.free
            clear XR2
            by_cases hf : acc.length = 2000
            · rw [if_pos (by omega)] at hR
              rw [hR] at hU
              have HV := hid (show R = .form from hU)
              have hL1 : (2000 : Int) < (L : Int) := by omega
              clear hU hR hf hL
              go_wp2
              rw [HV.out]
              exact bodyPost_ret (v := uV ⟨0, 0, [], 0, 4⟩) (by simp [results, uV, bs, go_sem, r0, r1, r2]) rfl ⟨rfl, by
                repeat (first | exact BW2.out | refine Below.setCell ?_ (by simp) _)⟩
            · rw [if_neg (by omega), ] at hR
              rw [hR, on_on] at hU
              have HV := hid hU
              have hL1 : ¬ (2000 : Int) < (L : Int) := by omega
              have HF := hid hf
              clear hU hR hf hL
              go_wp2
              go_roundw
              case rel =>
                refine ⟨k + 1, acc ++ [s[k]], by omega, by omega, by go_num, HO2.out, by have := HF.out; simp only [List.length_append, List.length_cons, List.length_nil]; omega, ?_, HB2.out⟩
                have h := HV.out
                rw [List.length_append, List.length_singleton, Nat.sub_add_eq]
                rw [show k - 1 + 1 = k + 1 - 1 by omega] at h
                exact hid h
              case measure => simp [intOf]; omega
        · have hU := HU.out
          rw [List.drop_of_length_le (by rw [bl_len]; omega)] at hU
          have HV := hid (show R = .short by
            rw [hU]
            cases 2000 - acc.length <;> rfl)
          clear hU
          go_wp2
          rw [HV.out]
          exact bodyPost_ret (v := uV ⟨0, 0, [], 0, 3⟩) (by simp [results, uV, bs, go_sem, r0, r1, r2]) rfl ⟨rfl, by
            repeat (first | exact BW.out | refine Below.setCell ?_ (by simp) _)⟩
    · rw [hu]
      clear hu
      have hr := hid (unst_fits 2000 ((bl s).drop 1))
      have hkk := hid (show (s[0].toNat : Int) = 3 by simpa using b3)
      obtain ⟨R, hR⟩ : ∃ R, R = unst 2000 ((bl s).drop 1) := ⟨_, rfl⟩
      have HR0 := hid hR
      rw [← hR]
      clear hR
      have b3' : ¬ (3 : Int) < (s[0].toNat : Int) := by have := hkk.out; omega
      have X1 := hid (Bx.new 0 0 ⟨#[]⟩ w)
      have B1 := hid ((Below.refl w.heap.size w).alloc (Nat.le_refl _) (.cells #[.int .i64 0, .int .i64 0, .string ⟨#[]⟩] 23))
      obtain ⟨W1, hW1⟩ : ∃ W1, W1 = w.alloc (.cells #[.int .i64 0, .int .i64 0, .string ⟨#[]⟩] 23) := ⟨_, rfl⟩
      rw [← hW1] at X1 B1
      have hz1 : W1.heap.size = w.heap.size + 1 := by rw [hW1]; simp
      have Hz1 := hid hz1
      have HW1 := hid hW1
      clear hz1 hW1
      go_enter Tryd.func19, Tryd.ntmps19
      go_wp2
      go_loopw [8, 9] (fun v i wr => ∃ (k : Nat) (acc : Bs), 1 ≤ k ∧ k ≤ s.size ∧ i = .int .i64 k ∧ OwnB wr W1.heap.size v acc ∧ acc.length ≤ 2000 ∧ Hid (R = (unst (2000 - acc.length) ((bl s).drop k)).on acc (k - 1)) ∧ Below W1.heap.size W1 wr) (fun _ i _ => s.size - (intOf i).toNat)
      case atStart =>
        refine ⟨1, [], Nat.le_refl _, hp, rfl, ?_, Nat.zero_le _, hid ?_, ?_⟩
        · rw [← HW1.out]
          have h := own_empty W1 W1.heap.size (Nat.le_refl _)
          rw [Hz1.out] at h
          rw [Hz1.out]
          simpa using h
        · rw [HR0.out]
          cases unst (2000 - ([] : Bs).length) ((bl s).drop 1) <;> simp [Rd.on]
        · rw [← HW1.out]
          exact (Below.refl _ _).alloc (Nat.le_refl _) _
      case round =>
        obtain ⟨k, acc, hk1, hk, rfl, hown, hacc, HU, hbel⟩ := hrel
        have HB := hid hbel
        have hszr : W1.heap.size ≤ wr.heap.size := hbel.size
        have hszw : w.heap.size < wr.heap.size := by have := Hz1.out; omega
        have XR := X1.out.on hbel
        obtain ⟨r0, r1, r2⟩ := XR.cells
        obtain ⟨f0, f1, f2⟩ := XR.free
        have BW := hid (B1.out.trans (hbel.mono B1.out.size))
        have HO := hid hown
        clear hbel hown XR
        by_cases hlt : k < s.size
        · have hU := HU.out
          rcases run_ways s k hlt (2000 - acc.length) with ⟨h0, hk2, hR⟩ | ⟨hk2, h0, h1, hR⟩ | ⟨hk2, h0, h1, h2, hR⟩ | ⟨hk2, h0, h1, h2, hR⟩ | ⟨h0, hR⟩
          · rw [hR] at hU
            have HV := hid (show R = .short from hU)
            clear hU hR
            have hk2' : (s.size : Int) ≤ (k : Int) + 1 := by omega
            go_wp2
            rw [HV.out]
            exact bodyPost_ret (v := uV ⟨0, 0, [], 0, 3⟩) (by simp [results, uV, bs, go_sem, r0, r1, r2]) rfl ⟨rfl, by
              repeat (first | exact BW.out | refine Below.setCell ?_ (by simp) _)⟩
          · rw [hR] at hU
            have HV := hid (show R = .ok (acc ++ []) (k - 1 + 2) from hU)
            have hcv := conv_all HO.out
            clear hU hR
            go_wp2
            rw [HV.out, List.append_nil]
            exact bodyPost_ret (v := .tuple #[.agg #[.int .i64 (s[0].toNat : Int), .int .i64 0, .string (bs acc)], .int .i64 ((k : Int) + 1 + 1), .int .i64 0]) (by simp [results, go_sem, r0, r1, r2]) rfl ⟨congrArg Ending.returned (uV_eq (u := unTail 3 (.ok acc (k - 1 + 2))) (by simpa [unTail] using hkk.out) rfl rfl (by simp [unTail]; omega) rfl), by
              repeat (first | exact BW.out | refine Below.setCell ?_ (by simp) _)⟩
          · go_wp2_with (at_builtin; go_must (refine wpList_append_bytes rfl _ _ rfl W1.heap.size _ acc rfl (own_on HO.out ((Below.refl _ _).alloc (Nat.le_refl _) _)) (HB.out.alloc hszr _) (by simp; omega) wr.heap.size [0] rfl (new_one wr 0) (by simp only [List.length_cons, List.length_nil]; omega) ?_))
            intro v' w2 hown2 hbel2
            obtain ⟨g, cap, L, rfl, hL⟩ := own_slice hown2 (by simp)
            rw [List.length_append, List.length_singleton] at hL
            have HO2 := hid hown2
            have HB2 := hid hbel2
            have XR2 := X1.out.on hbel2
            have BW2 := hid (B1.out.trans (hbel2.mono B1.out.size))
            have hszw2 : w.heap.size < w2.heap.size := by have := Hz1.out; have := hbel2.size; omega
            clear hown2 hbel2 r0 r1 r2 f0 f1 f2
            obtain ⟨r0, r1, r2⟩ := XR2.cells
            obtain ⟨f0, f1, f2⟩ := XR2.free
            clear XR2
            by_cases hf : acc.length = 2000
            · rw [if_pos (by omega)] at hR
              rw [hR] at hU
              have HV := hid (show R = .form from hU)
              have hL1 : (2000 : Int) < (L : Int) := by omega
              clear hU hR hf hL
              go_wp2
              rw [HV.out]
              exact bodyPost_ret (v := uV ⟨0, 0, [], 0, 4⟩) (by simp [results, uV, bs, go_sem, r0, r1, r2]) rfl ⟨rfl, by
                repeat (first | exact BW2.out | refine Below.setCell ?_ (by simp) _)⟩
            · rw [if_neg (by omega), ] at hR
              rw [hR, on_on] at hU
              have HV := hid hU
              have hL1 : ¬ (2000 : Int) < (L : Int) := by omega
              have HF := hid hf
              clear hU hR hf hL
              go_wp2
              go_roundw
              case rel =>
                refine ⟨k + 2, acc ++ [0], by omega, by omega, by go_num, HO2.out, by have := HF.out; simp only [List.length_append, List.length_cons, List.length_nil]; omega, ?_, HB2.out⟩
                have h := HV.out
                rw [List.length_append, List.length_singleton, Nat.sub_add_eq]
                rw [show k - 1 + 2 = k + 2 - 1 by omega] at h
                exact hid h
              case measure => simp [intOf]; omega
          · rw [hR] at hU
            have HV := hid (show R = .form from hU)
            clear hU hR
            go_wp2
            rw [HV.out]
            exact bodyPost_ret (v := uV ⟨0, 0, [], 0, 4⟩) (by simp [results, uV, bs, go_sem, r0, r1, r2]) rfl ⟨rfl, by
              repeat (first | exact BW.out | refine Below.setCell ?_ (by simp) _)⟩
          · go_wp2_with (at_builtin; go_must (refine wpList_append_bytes rfl _ _ rfl W1.heap.size _ acc rfl (own_on HO.out ((Below.refl _ _).alloc (Nat.le_refl _) _)) (HB.out.alloc hszr _) (by simp; omega) wr.heap.size [s[k]] rfl (new_one wr s[k]) (by simp only [List.length_cons, List.length_nil]; omega) ?_))
            intro v' w2 hown2 hbel2
            obtain ⟨g, cap, L, rfl, hL⟩ := own_slice hown2 (by simp)
            rw [List.length_append, List.length_singleton] at hL
            have HO2 := hid hown2
            have HB2 := hid hbel2
            have XR2 := X1.out.on hbel2
            have BW2 := hid (B1.out.trans (hbel2.mono B1.out.size))
            have hszw2 : w.heap.size < w2.heap.size := by have := Hz1.out; have := hbel2.size; omega
            clear hown2 hbel2 r0 r1 r2 f0 f1 f2
            obtain ⟨r0, r1, r2⟩ := XR2.cells
            obtain ⟨f0, f1, f2⟩ := XR2.free
            clear XR2
            by_cases hf : acc.length = 2000
            · rw [if_pos (by omega)] at hR
              rw [hR] at hU
              have HV := hid (show R = .form from hU)
              have hL1 : (2000 : Int) < (L : Int) := by omega
              clear hU hR hf hL
              go_wp2
              rw [HV.out]
              exact bodyPost_ret (v := uV ⟨0, 0, [], 0, 4⟩) (by simp [results, uV, bs, go_sem, r0, r1, r2]) rfl ⟨rfl, by
                repeat (first | exact BW2.out | refine Below.setCell ?_ (by simp) _)⟩
            · rw [if_neg (by omega), ] at hR
              rw [hR, on_on] at hU
              have HV := hid hU
              have hL1 : ¬ (2000 : Int) < (L : Int) := by omega
              have HF := hid hf
              clear hU hR hf hL
              go_wp2
              go_roundw
              case rel =>
                refine ⟨k + 1, acc ++ [s[k]], by omega, by omega, by go_num, HO2.out, by have := HF.out; simp only [List.length_append, List.length_cons, List.length_nil]; omega, ?_, HB2.out⟩
                have h := HV.out
                rw [List.length_append, List.length_singleton, Nat.sub_add_eq]
                rw [show k - 1 + 1 = k + 1 - 1 by omega] at h
                exact hid h
              case measure => simp [intOf]; omega
        · have hU := HU.out
          rw [List.drop_of_length_le (by rw [bl_len]; omega)] at hU
          have HV := hid (show R = .short by
            rw [hU]
            cases 2000 - acc.length <;> rfl)
          clear hU
          go_wp2
          rw [HV.out]
          exact bodyPost_ret (v := uV ⟨0, 0, [], 0, 3⟩) (by simp [results, uV, bs, go_sem, r0, r1, r2]) rfl ⟨rfl, by
            repeat (first | exact BW.out | refine Below.setCell ?_ (by simp) _)⟩
    · rw [hu]
      clear hu
      go_enter Tryd.func19, Tryd.ntmps19
      go_wp2
      exact bodyPost_ret (v := uV ⟨0, 0, [], 0, 4⟩) (by simp [results, uV, bs, go_sem]) rfl ⟨rfl, (Below.refl _ _).alloc (Nat.le_refl _) _⟩
end Va
end Go.Proofs.YtpabhekbkdpkiaaDoor
