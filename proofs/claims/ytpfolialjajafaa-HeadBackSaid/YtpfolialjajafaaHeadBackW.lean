/-
  The walk of HeadBack: it answers true; the old memory stays.
-/
import Derived.Test.YtpfolialjajafaaHeadReadsW
namespace Go.Proofs.Ytpfolialjajafaa.headBack
open Go.RowKit Go.Proofs.Ytpfolialjajafaa.Head
open Num (hid)

/-- What Decode answers, and that Encode gives it back. -/
theorem dec_back (s : ByteArray) : (∃ M P T S R : Int, ∃ C : Nat, decV s = .agg #[.int .i64 M, .int .i64 P, .int .i64 T, .int .i64 S, .int .i64 R, .int .u64 C] ∧ decE s = 0 ∧ C < 18446744073709551616 ∧ encS M P T S R C = s ∧ encE M P T S R = 0) ∨
    (decV s = .agg #[.int .i64 0, .int .i64 0, .int .i64 0, .int .i64 0, .int .i64 0, .int .u64 0] ∧ (decE s = 1 ∨ decE s = 4)) := by
  unfold decV decE
  by_cases h : s.size = 232
  · by_cases hr : Right s
    · rw [if_pos ⟨h, hr⟩, if_pos h, if_pos hr]
      obtain ⟨e1, e2⟩ := again_fit hr.1
      exact Or.inl ⟨_, _, _, _, _, _, rfl, rfl, Part.piece_lt s 28 36, e1.trans hr.2, e2⟩
    · rw [if_neg (fun hh => hr hh.2), if_pos h, if_neg hr]
      exact Or.inr ⟨rfl, Or.inr rfl⟩
  · rw [if_neg (fun hh => h hh.1), if_neg h]
    exact Or.inr ⟨rfl, Or.inl rfl⟩

theorem or3 {a b c p : Prop} (h : a ∨ b ∨ c) (ha : a → p) (hb : b → p) (hc : c → p) : p := h.elim ha (fun h => h.elim hb hc)

set_option maxRecDepth 100000 in
set_option maxHeartbeats 4000000 in
theorem walk (M P T S R : Int) (C : Nat) (M' P' T' S' R' : Int) (C' : Nat) (s : ByteArray) (hC : C < 18446744073709551616) (hC' : C' < 18446744073709551616) (w : World) :
    Calls Try.prog 5 #[.agg #[.int .i64 M, .int .i64 P, .int .i64 T, .int .i64 S, .int .i64 R, .int .u64 C], .agg #[.int .i64 M', .int .i64 P', .int .i64 T', .int .i64 S', .int .i64 R', .int .u64 C'], .string s] w fun e w' => e = .returned (.bool true) ∧ Below w.heap.size w w' := by
  have HC := hid hC
  have HC' := hid hC'
  clear hC hC'
  obtain ⟨X0, X1, X2, X3, X4, X5, E, HDEC, HT⟩ : ∃ X0 X1 X2 X3 X4 X5 E : Int, Hid (∀ w : World, Calls Try.prog 13 #[.string s] w fun e w' => e = .returned (.tuple #[.agg #[.int .i64 X0, .int .i64 X1, .int .i64 X2, .int .i64 X3, .int .i64 X4, .int .u64 X5], .int .i64 E]) ∧ Below w.heap.size w w') ∧
      Hid ((E = 0 ∧ ∀ w : World, Calls Try.prog 9 #[.agg #[.int .i64 X0, .int .i64 X1, .int .i64 X2, .int .i64 X3, .int .i64 X4, .int .u64 X5]] w fun e w' => e = .returned (.tuple #[.string s, .int .i64 0]) ∧ Below w.heap.size w w') ∨ (¬ E = 0 ∧ X0 = 0 ∧ X1 = 0 ∧ X2 = 0 ∧ X3 = 0 ∧ X4 = 0 ∧ X5 = 0)) := by
    have hd := dec_any s
    rcases dec_back s with ⟨M, P, T, S, R, C, h1, h2, h3, h4, h5⟩ | ⟨h1, h2⟩
    · rw [h1, h2] at hd
      refine ⟨M, P, T, S, R, C, 0, hid hd, hid (Or.inl ⟨rfl, fun w => ?_⟩)⟩
      have he := enc_any M P T S R C h3 w
      rw [h4, h5] at he
      exact he
    · rw [h1] at hd
      exact ⟨0, 0, 0, 0, 0, 0, _, hid hd, hid (Or.inr ⟨by omega, rfl, rfl, rfl, rfl, rfl, rfl⟩)⟩
  have F0 : Hid (Six w.heap.size M P T S R C ((w.alloc (.cells #[.int .i64 M, .int .i64 P, .int .i64 T, .int .i64 S, .int .i64 R, .int .u64 C] 24)).alloc (.cells #[.int .i64 M', .int .i64 P', .int .i64 T', .int .i64 S', .int .i64 R', .int .u64 C'] 24))) := hid (Six.on (heap_alloc_new _ _) ((Below.refl _ _).alloc (Nat.le_refl _) _))
  have G0 : Hid (Six (w.heap.size + 1) M' P' T' S' R' C' ((w.alloc (.cells #[.int .i64 M, .int .i64 P, .int .i64 T, .int .i64 S, .int .i64 R, .int .u64 C] 24)).alloc (.cells #[.int .i64 M', .int .i64 P', .int .i64 T', .int .i64 S', .int .i64 R', .int .u64 C'] 24))) := hid (by
    have h := heap_alloc_new (w.alloc (.cells #[.int .i64 M, .int .i64 P, .int .i64 T, .int .i64 S, .int .i64 R, .int .u64 C] 24)) (.cells #[.int .i64 M', .int .i64 P', .int .i64 T', .int .i64 S', .int .i64 R', .int .u64 C'] 24)
    have e : (w.alloc (.cells #[.int .i64 M, .int .i64 P, .int .i64 T, .int .i64 S, .int .i64 R, .int .u64 C] 24)).heap.size = w.heap.size + 1 := by simp
    rw [e] at h
    exact h)
  have B0 : Hid (Below w.heap.size w ((w.alloc (.cells #[.int .i64 M, .int .i64 P, .int .i64 T, .int .i64 S, .int .i64 R, .int .u64 C] 24)).alloc (.cells #[.int .i64 M', .int .i64 P', .int .i64 T', .int .i64 S', .int .i64 R', .int .u64 C'] 24))) := hid (((Below.refl _ _).alloc (Nat.le_refl _) _).alloc (by simp) _)
  go_enter Try.func5, Try.ntmps5
  go_wp2_with fail
  refine (awake_any _).mono ?_
  rintro e w1 ⟨rfl, hb1⟩
  have F1 := hid (F0.out.on hb1)
  have G1 := hid (G0.out.on hb1)
  have B1 := hid (B0.out.trans (hb1.mono B0.out.size))
  clear hb1 F0 B0 G0
  obtain ⟨k0, k1, k2, k3, k4, k5⟩ := F1.out.cells
  obtain ⟨j0, j1, j2, j3, j4, j5⟩ := G1.out.cells
  by_cases hf : Fit M P T S R
  · have h0 := hf
    unfold Fit at h0
    obtain ⟨m, rfl⟩ := Int.eq_ofNat_of_zero_le (show 0 ≤ M by omega)
    obtain ⟨p, rfl⟩ := Int.eq_ofNat_of_zero_le (show 0 ≤ P by omega)
    obtain ⟨t, rfl⟩ := Int.eq_ofNat_of_zero_le (show 0 ≤ T by omega)
    obtain ⟨z, rfl⟩ := Int.eq_ofNat_of_zero_le (show 0 ≤ S by omega)
    obtain ⟨r, rfl⟩ := Int.eq_ofNat_of_zero_le (show 0 ≤ R by omega)
    have HE := hid (enc_yes m p t z r C hf HC.out)
    have HD := hid (fun w => dec_head (M := m) (P := p) (T := t) (S := z) (R := r) (C := C) hf HC.out w)
    have hsz : ((headS m p t z r C).size : Int) = 232 := by rw [head_size]; rfl
    have HF := hid hf
    clear h0 hf
    generalize hx : headS m p t z r C = x at *
    have HX := hid hx
    clear hx
    go_wp2_with fail
    refine (HE.out _).mono ?_
    rintro e w2 ⟨rfl, hb2⟩
    have F2 := hid (F1.out.on hb2)
    have G2 := hid (G1.out.on hb2)
    have B2 := hid (B1.out.trans (hb2.mono B1.out.size))
    clear hb2 F1 B1 G1 k0 k1 k2 k3 k4 k5 j0 j1 j2 j3 j4 j5
    go_wp2_with fail
    refine (HD.out _).mono ?_
    rintro e w3 ⟨rfl, hb3⟩
    have F3 := (F2.out.on hb3).on ((Below.refl _ _).alloc (Nat.le_refl _) (.cells #[.int .i64 m, .int .i64 p, .int .i64 t, .int .i64 z, .int .i64 r, .int .u64 C] 24))
    have G3 := (G2.out.on hb3).on ((Below.refl _ _).alloc (Nat.le_refl _) (.cells #[.int .i64 m, .int .i64 p, .int .i64 t, .int .i64 z, .int .i64 r, .int .u64 C] 24))
    have K3 : Six w3.heap.size m p t z r C (w3.alloc (.cells #[.int .i64 m, .int .i64 p, .int .i64 t, .int .i64 z, .int .i64 r, .int .u64 C] 24)) := heap_alloc_new _ _
    have B2' := B2.out.trans (hb3.mono B2.out.size)
    have B3 := hid (B2'.alloc B2'.size (.cells #[.int .i64 m, .int .i64 p, .int .i64 t, .int .i64 z, .int .i64 r, .int .u64 C] 24))
    obtain ⟨k0, k1, k2, k3, k4, k5⟩ := F3.cells
    obtain ⟨j0, j1, j2, j3, j4, j5⟩ := G3.cells
    obtain ⟨l0, l1, l2, l3, l4, l5⟩ := K3.cells
    have HF3 := hid F3
    have HG3 := hid G3
    clear hb3 F2 B2 G2 B2' F3 G3 K3
    go_wp2_with fail
    refine (enc_any M' P' T' S' R' C' HC'.out _).mono ?_
    rintro e w4 ⟨rfl, hb4⟩
    have F4 := HF3.out.on hb4
    have G4 := HG3.out.on hb4
    have B4 := hid (B3.out.trans (hb4.mono B3.out.size))
    clear hb4 HF3 HG3 B3 k0 k1 k2 k3 k4 k5 j0 j1 j2 j3 j4 j5 l0 l1 l2 l3 l4 l5
    obtain ⟨k0, k1, k2, k3, k4, k5⟩ := F4.cells
    obtain ⟨j0, j1, j2, j3, j4, j5⟩ := G4.cells
    clear F4 G4
    have hways : (encE M' P' T' S' R' = 1) ∨ (encE M' P' T' S' R' = 0 ∧ encS M' P' T' S' R' C' = x ∧ (m : Int) = M' ∧ (p : Int) = P' ∧ (t : Int) = T' ∧ (z : Int) = S' ∧ (r : Int) = R' ∧ C = C') ∨
        (encE M' P' T' S' R' = 0 ∧ (x.toList == (encS M' P' T' S' R' C').toList) = false ∧ ¬ ((m : Int) = M' ∧ (p : Int) = P' ∧ (t : Int) = T' ∧ (z : Int) = S' ∧ (r : Int) = R' ∧ (C : Int) = (C' : Int))) := by
      unfold encS encE
      by_cases hf' : Fit M' P' T' S' R'
      · rw [if_pos hf', if_pos hf']
        have h0 := hf'
        unfold Fit at h0
        obtain ⟨m', rfl⟩ := Int.eq_ofNat_of_zero_le (show 0 ≤ M' by omega)
        obtain ⟨p', rfl⟩ := Int.eq_ofNat_of_zero_le (show 0 ≤ P' by omega)
        obtain ⟨t', rfl⟩ := Int.eq_ofNat_of_zero_le (show 0 ≤ T' by omega)
        obtain ⟨z', rfl⟩ := Int.eq_ofNat_of_zero_le (show 0 ≤ S' by omega)
        obtain ⟨r', rfl⟩ := Int.eq_ofNat_of_zero_le (show 0 ≤ R' by omega)
        right
        simp only [Int.toNat_natCast]
        by_cases heq : headS m p t z r C = headS m' p' t' z' r' C'
        · obtain ⟨e1, e2, e3, e4, e5, e6⟩ := head_inj HF.out HC.out hf' HC'.out heq
          left
          refine ⟨by trivial, by rw [← HX.out, heq], by omega, by omega, by omega, by omega, by omega, e6⟩
        · right
          refine ⟨by trivial, ?_, ?_⟩
          · rw [beq_eq_false_iff_ne, ByteArray.toList_eq, ByteArray.toList_eq]
            intro h
            apply heq
            rw [HX.out]
            exact ByteArray.ext (Array.ext' h)
          · rintro ⟨a1, a2, a3, a4, a5, a6⟩
            apply heq
            rw [show m = m' by omega, show p = p' by omega, show t = t' by omega, show z = z' by omega, show r = r' by omega, show C = C' by omega]
      · rw [if_neg hf', if_neg hf']
        exact Or.inl rfl
    generalize encS M' P' T' S' R' C' = y at hways ⊢
    generalize encE M' P' T' S' R' = ye at hways ⊢
    refine or3 hways (fun he => ?caseA) (fun hh => ?caseB) (fun hh => ?caseC)
    case' caseA =>
      clear hways
      subst he
      go_wp2_with fail
    case' caseB =>
      obtain ⟨rfl, rfl, rfl, rfl, rfl, rfl, rfl, rfl⟩ := hh
      clear hways
      go_wp2_with fail
    case' caseC =>
      obtain ⟨rfl, hxy, hne⟩ := hh
      clear hways
      go_wp2_with fail
    all_goals try (exfalso; omega)
    all_goals
      refine (HDEC.out _).mono ?_
      rintro e w5 ⟨rfl, hb5⟩
      have B4' := B4.out.trans (hb5.mono B4.out.size)
      have B5 := hid (B4'.alloc B4'.size (.cells #[.int .i64 X0, .int .i64 X1, .int .i64 X2, .int .i64 X3, .int .i64 X4, .int .u64 X5] 24))
      clear hb5 B4' k0 k1 k2 k3 k4 k5 j0 j1 j2 j3 j4 j5 HDEC
      rcases HT.out with ⟨rfl, henc⟩ | ⟨he, rfl, rfl, rfl, rfl, rfl, rfl⟩
      · have HENC := hid henc
        clear henc HT
        go_wp2_with fail
        refine (HENC.out _).mono ?_
        rintro e w6 ⟨rfl, hb6⟩
        have B6 := hid (B5.out.trans (hb6.mono B5.out.size))
        clear hb6
        go_wp2
        go_ret
        exact ⟨rfl, B6.out⟩
      · clear HT
        go_wp2
        go_ret
        exact ⟨rfl, B5.out⟩
  · have HE := hid (enc_no M P T S R C hf)
    clear hf
    go_wp2_with fail
    refine (HE.out _).mono ?_
    rintro e w4 ⟨rfl, hb4⟩
    have B4 := hid (B1.out.trans (hb4.mono B1.out.size))
    clear hb4 B1 F1 G1 k0 k1 k2 k3 k4 k5 j0 j1 j2 j3 j4 j5 HE
    go_wp2_with fail
    refine (HDEC.out _).mono ?_
    rintro e w5 ⟨rfl, hb5⟩
    have B4' := B4.out.trans (hb5.mono B4.out.size)
    have B5 := hid (B4'.alloc B4'.size (.cells #[.int .i64 X0, .int .i64 X1, .int .i64 X2, .int .i64 X3, .int .i64 X4, .int .u64 X5] 24))
    clear hb5 B4' HDEC
    rcases HT.out with ⟨rfl, henc⟩ | ⟨he, rfl, rfl, rfl, rfl, rfl, rfl⟩
    · have HENC := hid henc
      clear henc HT
      go_wp2_with fail
      refine (HENC.out _).mono ?_
      rintro e w6 ⟨rfl, hb6⟩
      have B6 := hid (B5.out.trans (hb6.mono B5.out.size))
      clear hb6
      go_wp2
      go_ret
      exact ⟨rfl, B6.out⟩
    · clear HT
      go_wp2
      go_ret
      exact ⟨rfl, B5.out⟩
end Go.Proofs.Ytpfolialjajafaa.headBack
