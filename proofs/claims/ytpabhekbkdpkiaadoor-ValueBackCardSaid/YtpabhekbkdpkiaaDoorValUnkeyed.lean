/-
  Contract of the project's Unkey, whole.
-/
import Derived.Test.YtpabhekbkdpkiaaDoorValUnkey
namespace Go.Proofs.YtpabhekbkdpkiaaDoor
open Go.RowKit
namespace Va
open Num (hid unfF)
/-- What Unkey and Parse answer. -/
def uV (u : Un) : Value := .tuple #[.agg #[.int .i64 u.K, .int .i64 u.N, .string (bs u.S)], .int .i64 u.n, .int .i64 u.e]
theorem uV_eq {K N n e : Int} {S : ByteArray} {u : Un} (h1 : K = u.K) (h2 : N = u.N) (h3 : S = bs u.S) (h4 : n = u.n) (h5 : e = u.e) : Value.tuple #[.agg #[.int .i64 K, .int .i64 N, .string S], .int .i64 n, .int .i64 e] = uV u := by
  subst h1 h2 h3 h4 h5; rfl
theorem Bx.free {b : Nat} {K N : Int} {S : ByteArray} {w : World} (h : Bx b K N S w) : w.frozen? ⟨b, 0, none⟩ = false ∧ w.frozen? ⟨b, 1, none⟩ = false ∧ w.frozen? ⟨b, 2, none⟩ = false := by
  unfold Bx at h
  simp [World.frozen?, h]
theorem Bx.second {w : World} (K N K' N' : Int) (S S' : ByteArray) : Bx (w.heap.size + 1) K' N' S' ((w.alloc (.cells #[.int .i64 K, .int .i64 N, .string S] 23)).alloc (.cells #[.int .i64 K', .int .i64 N', .string S'] 23)) := by
  have h := Bx.new K' N' S' (w.alloc (.cells #[.int .i64 K, .int .i64 N, .string S] 23))
  have e : (w.alloc (.cells #[.int .i64 K, .int .i64 N, .string S] 23)).heap.size = w.heap.size + 1 := by simp
  rw [e] at h
  exact h
theorem Bx.first {w : World} (K N K' N' : Int) (S S' : ByteArray) : Bx w.heap.size K N S ((w.alloc (.cells #[.int .i64 K, .int .i64 N, .string S] 23)).alloc (.cells #[.int .i64 K', .int .i64 N', .string S'] 23)) :=
  (Bx.new K N S w).on ((Below.refl _ _).alloc (Nat.le_refl _) _)
theorem Bx.below {w : World} (K N K' N' : Int) (S S' : ByteArray) : Below w.heap.size w ((w.alloc (.cells #[.int .i64 K, .int .i64 N, .string S] 23)).alloc (.cells #[.int .i64 K', .int .i64 N', .string S'] 23)) :=
  ((Below.refl _ _).alloc (Nat.le_refl _) _).alloc (by simp) _
theorem unst_fits (k : Nat) (l : Bs) : ∀ out n, unst k l = .ok out n → n ≤ l.length := fun out n h => (unst_back k l out n h).1
/-- What the first byte says of the way to go. -/
theorem unkey_ways (s : ByteArray) (h : 0 < s.size) :
    (((s[0].toNat : Int) == 0) = true ∧ unkeyL (bl s) = ⟨0, 0, [], 1, 0⟩) ∨
    (((s[0].toNat : Int) == 0) = false ∧ ((s[0].toNat : Int) == 1) = true ∧ unkeyL (bl s) = if s.size < 9 then ⟨0, 0, [], 0, 3⟩ else ⟨1, (unfF 0 (((bl s).drop 1).take 8) : Int) - 9223372036854775808, [], 9, 0⟩) ∨
    (((s[0].toNat : Int) == 0) = false ∧ ((s[0].toNat : Int) == 1) = false ∧ ((s[0].toNat : Int) == 2) = true ∧ unkeyL (bl s) = unTail 2 (unst 2000 ((bl s).drop 1))) ∨
    (((s[0].toNat : Int) == 0) = false ∧ ((s[0].toNat : Int) == 1) = false ∧ ((s[0].toNat : Int) == 2) = false ∧ ((s[0].toNat : Int) == 3) = true ∧ unkeyL (bl s) = unTail 3 (unst 2000 ((bl s).drop 1))) ∨
    (((s[0].toNat : Int) == 0) = false ∧ ((s[0].toNat : Int) == 1) = false ∧ ((s[0].toNat : Int) == 2) = false ∧ ((s[0].toNat : Int) == 3) = false ∧ (3 : Int) < (s[0].toNat : Int) ∧ unkeyL (bl s) = ⟨0, 0, [], 0, 4⟩) := by
  have hc := rest_cons h
  rw [List.drop_zero] at hc
  have hl : ((bl s).drop 1).length = s.size - 1 := by rw [List.length_drop, bl_len]
  have hu : unkeyL (bl s) = (if s[0] = 0 then ⟨0, 0, [], 1, 0⟩ else if s[0] = 1 then (if ((bl s).drop 1).length < 8 then ⟨0, 0, [], 0, 3⟩ else ⟨1, (unfF 0 (((bl s).drop 1).take 8) : Int) - 9223372036854775808, [], 9, 0⟩)
      else if s[0] = 2 ∨ s[0] = 3 then unTail s[0].toNat (unst 2000 ((bl s).drop 1)) else ⟨0, 0, [], 0, 4⟩) := (congrArg unkeyL hc).trans rfl
  rw [hu]
  clear hu hc
  have key : ∀ (n : Nat), n < 256 → (s[0] = UInt8.ofNat n ↔ s[0].toNat = n) := by
    intro n hn
    constructor
    · intro e; rw [e, Num.ofNat_toNat]; omega
    · intro e; apply UInt8.toNat_inj.1; rw [Num.ofNat_toNat]; omega
  have q0 : s[0] = 0 ↔ s[0].toNat = 0 := key 0 (by decide)
  have q1 : s[0] = 1 ↔ s[0].toNat = 1 := key 1 (by decide)
  have q2 : s[0] = 2 ↔ s[0].toNat = 2 := key 2 (by decide)
  have q3 : s[0] = 3 ↔ s[0].toNat = 3 := key 3 (by decide)
  rw [hl]
  simp only [q0, q1, q2, q3, beq_iff_eq, beq_eq_false_iff_ne, ne_eq]
  by_cases h0 : s[0].toNat = 0
  · exact Or.inl ⟨by omega, by rw [if_pos h0]⟩
  · by_cases h1 : s[0].toNat = 1
    · refine Or.inr (Or.inl ⟨by omega, by omega, ?_⟩)
      rw [if_neg h0, if_pos h1]
      by_cases h9 : s.size < 9
      · rw [if_pos (by omega), if_pos h9]
      · rw [if_neg (by omega), if_neg h9]
    · by_cases h2 : s[0].toNat = 2
      · exact Or.inr (Or.inr (Or.inl ⟨by omega, by omega, by omega, by rw [if_neg h0, if_neg h1, if_pos (Or.inl h2), h2]; rfl⟩))
      · by_cases h3 : s[0].toNat = 3
        · exact Or.inr (Or.inr (Or.inr (Or.inl ⟨by omega, by omega, by omega, by omega, by rw [if_neg h0, if_neg h1, if_pos (Or.inr h3), h3]; rfl⟩)))
        · exact Or.inr (Or.inr (Or.inr (Or.inr ⟨by omega, by omega, by omega, by omega, by omega, by rw [if_neg h0, if_neg h1, if_neg (fun e => e.elim h2 h3)]⟩)))
set_option maxRecDepth 100000 in
set_option maxHeartbeats 4000000 in
theorem unkey_any (s : ByteArray) (hs : s.size ≤ maxLen) (w : World) :
    Calls Tryd.prog 18 #[.string s] w fun e w' => e = .returned (uV (unkeyL (bl s))) ∧ Below w.heap.size w w' := by
  replace hs : s.size ≤ 9223372036854775807 := by unfold maxLen at hs; omega
  by_cases h0 : s.size = 0
  · have hz : bl s = [] := by
      apply List.length_eq_zero_iff.1
      rw [bl_len]; exact h0
    have e : (s.toList == []) = true := by rw [ByteArray.toList_eq]; show (bl s == []) = true; rw [hz]; rfl
    rw [hz]
    clear hz h0
    go_enter Tryd.func18, Tryd.ntmps18
    go_wp2
    exact bodyPost_ret (v := uV ⟨0, 0, [], 0, 3⟩) (by simp [results, uV, bs, go_sem]) rfl ⟨rfl, (Below.refl _ _).alloc (Nat.le_refl _) _⟩
  · have hp : 0 < s.size := by omega
    have e : (s.toList == []) = false := by
      rw [ByteArray.toList_eq]
      have : (bl s).length ≠ 0 := by rw [bl_len]; exact h0
      cases h : s.data.toList with
      | nil => simp [bl, h] at this
      | cons => rfl
    clear h0
    have hby : (s[0].toNat : Int) ≤ 255 := by have := s[0].toNat_lt; omega
    rcases unkey_ways s hp with ⟨b0, hu⟩ | ⟨b0, b1, hu⟩ | ⟨b0, b1, b2, hu⟩ | ⟨b0, b1, b2, b3, hu⟩ | ⟨b0, b1, b2, b3, b4, hu⟩
    · rw [hu]
      clear hu
      go_enter Tryd.func18, Tryd.ntmps18
      go_wp2_with fail
      exact bodyPost_ret (v := .tuple #[.agg #[.int .i64 (s[0].toNat : Int), .int .i64 0, .string ⟨#[]⟩], .int .i64 1, .int .i64 0]) (by simp [results, go_sem]) rfl ⟨congrArg Ending.returned (uV_eq (u := ⟨0, 0, [], 1, 0⟩) (by simpa using b0) rfl rfl rfl rfl), Bx.below _ _ _ _ _ _⟩
    · have hk := kint_any (s.extract 1 s.size)
      have e1 : bl (s.extract 1 s.size) = (bl s).drop 1 := rest_list s 1
      have e2 : (s.extract 1 s.size).size = s.size - 1 := by rw [ByteArray.size_extract]; omega
      have hs1 : (1 : Int) ≤ (s.size : Int) := by omega
      by_cases h9 : s.size < 9
      · rw [if_pos h9] at hu
        rw [hu]
        rw [show kiV (s.extract 1 s.size) = .tuple #[.int .i64 0, .int .i64 0, .int .i64 3] from if_pos (by omega)] at hk
        have Hk := hid hk
        clear hu hk e1 e2 h9
        go_enter Tryd.func18, Tryd.ntmps18
        go_wp2_with fail
        refine (Hk.out _).mono ?_
        rintro e w5 ⟨rfl, rfl⟩
        go_wp2
        exact bodyPost_ret (v := uV ⟨0, 0, [], 0, 3⟩) (by simp [results, uV, bs, go_sem]) rfl ⟨rfl, Bx.below _ _ _ _ _ _⟩
      · rw [if_neg h9] at hu
        rw [hu]
        rw [show kiV (s.extract 1 s.size) = .tuple #[.int .i64 ((unfF 0 ((bl (s.extract 1 s.size)).take 8) : Nat) - 9223372036854775808), .int .i64 8, .int .i64 0] from if_neg (by omega), e1] at hk
        have hlt := unf8_take ((bl s).drop 1)
        generalize unfF 0 (((bl s).drop 1).take 8) = x at hk hlt ⊢
        have Hk := hid hk
        clear hu hk e1 e2 h9
        go_enter Tryd.func18, Tryd.ntmps18
        go_wp2_with fail
        refine (Hk.out _).mono ?_
        rintro e w5 ⟨rfl, rfl⟩
        go_wp2
        exact bodyPost_ret (v := .tuple #[.agg #[.int .i64 (s[0].toNat : Int), .int .i64 ((x : Int) - 9223372036854775808), .string ⟨#[]⟩], .int .i64 9, .int .i64 0]) (by simp [results, go_sem]) rfl ⟨congrArg Ending.returned (uV_eq (u := ⟨1, (x : Int) - 9223372036854775808, [], 9, 0⟩) (by simpa using b1) rfl rfl rfl rfl), Bx.below _ _ _ _ _ _⟩
    · have hk := kbytes_any (s.extract 1 s.size) (by rw [ByteArray.size_extract]; unfold maxLen; omega)
      rw [show bl (s.extract 1 s.size) = (bl s).drop 1 from rest_list s 1] at hk
      rw [hu]
      clear hu
      have hr := hid (unst_fits 2000 ((bl s).drop 1))
      have hdl : ((bl s).drop 1).length ≤ 9223372036854775806 := by rw [List.length_drop, bl_len]; omega
      have HDL := hid hdl
      clear hdl
      generalize unst 2000 ((bl s).drop 1) = R at hk hr ⊢
      have Hk := hid hk
      clear hk
      have XR := hid (Bx.first (w := w) 0 0 (s[0].toNat : Int) 0 ⟨#[]⟩ ⟨#[]⟩)
      have XV := hid (Bx.second (w := w) 0 0 (s[0].toNat : Int) 0 ⟨#[]⟩ ⟨#[]⟩)
      have B2 := hid (Bx.below (w := w) 0 0 (s[0].toNat : Int) 0 ⟨#[]⟩ ⟨#[]⟩)
      have hs1 : (1 : Int) ≤ (s.size : Int) := by omega
      go_enter Tryd.func18, Tryd.ntmps18
      go_wp2_with fail
      refine (Hk.out _).mono ?_
      rintro e w5 ⟨rfl, hb5⟩
      have XR5 := XR.out.on hb5
      have XV5 := XV.out.on hb5
      have B5 := hid (B2.out.trans (hb5.mono B2.out.size))
      obtain ⟨r0, r1, r2⟩ := XR5.cells
      obtain ⟨f0, f1, f2⟩ := XR5.free
      obtain ⟨v0, v1, v2⟩ := XV5.cells
      obtain ⟨g0, g1, g2⟩ := XV5.free
      have hlt1 := lt_of_block XV5
      have hlt0 := lt_of_block XR5
      clear XR XV B2 hb5 XR5 XV5
      cases R with
      | ok out n =>
        have hn : n ≤ 9223372036854775806 := Nat.le_trans (hr.out out n rfl) HDL.out
        have hn' : (n : Int) ≤ 9223372036854775806 := by omega
        unfold kbV
        go_wp2
        exact bodyPost_ret (v := .tuple #[.agg #[.int .i64 (s[0].toNat : Int), .int .i64 0, .string (bs out)], .int .i64 (1 + (n : Int)), .int .i64 0]) (by simp [results, go_sem, r0, r1, r2]) rfl ⟨congrArg Ending.returned (uV_eq (u := unTail 2 (.ok out n)) (by simpa [unTail] using b2) rfl rfl (by simp [unTail]) rfl), by
          repeat (first | exact B5.out | refine Below.setCell ?_ (by simp) _)⟩
      | short =>
        unfold kbV
        go_wp2
        exact bodyPost_ret (v := uV ⟨0, 0, [], 0, 3⟩) (by simp [results, uV, bs, go_sem, r0, r1, r2]) rfl ⟨rfl, by
          repeat (first | exact B5.out | refine Below.setCell ?_ (by simp) _)⟩
      | form =>
        unfold kbV
        go_wp2
        exact bodyPost_ret (v := uV ⟨0, 0, [], 0, 4⟩) (by simp [results, uV, bs, go_sem, r0, r1, r2]) rfl ⟨rfl, by
          repeat (first | exact B5.out | refine Below.setCell ?_ (by simp) _)⟩
    · have hk := kbytes_any (s.extract 1 s.size) (by rw [ByteArray.size_extract]; unfold maxLen; omega)
      rw [show bl (s.extract 1 s.size) = (bl s).drop 1 from rest_list s 1] at hk
      rw [hu]
      clear hu
      have hr := hid (unst_fits 2000 ((bl s).drop 1))
      have hdl : ((bl s).drop 1).length ≤ 9223372036854775806 := by rw [List.length_drop, bl_len]; omega
      have HDL := hid hdl
      clear hdl
      generalize unst 2000 ((bl s).drop 1) = R at hk hr ⊢
      have Hk := hid hk
      clear hk
      have XR := hid (Bx.first (w := w) 0 0 (s[0].toNat : Int) 0 ⟨#[]⟩ ⟨#[]⟩)
      have XV := hid (Bx.second (w := w) 0 0 (s[0].toNat : Int) 0 ⟨#[]⟩ ⟨#[]⟩)
      have B2 := hid (Bx.below (w := w) 0 0 (s[0].toNat : Int) 0 ⟨#[]⟩ ⟨#[]⟩)
      have hs1 : (1 : Int) ≤ (s.size : Int) := by omega
      go_enter Tryd.func18, Tryd.ntmps18
      go_wp2_with fail
      refine (Hk.out _).mono ?_
      rintro e w5 ⟨rfl, hb5⟩
      have XR5 := XR.out.on hb5
      have XV5 := XV.out.on hb5
      have B5 := hid (B2.out.trans (hb5.mono B2.out.size))
      obtain ⟨r0, r1, r2⟩ := XR5.cells
      obtain ⟨f0, f1, f2⟩ := XR5.free
      obtain ⟨v0, v1, v2⟩ := XV5.cells
      obtain ⟨g0, g1, g2⟩ := XV5.free
      have hlt1 := lt_of_block XV5
      have hlt0 := lt_of_block XR5
      clear XR XV B2 hb5 XR5 XV5
      cases R with
      | ok out n =>
        have hn : n ≤ 9223372036854775806 := Nat.le_trans (hr.out out n rfl) HDL.out
        have hn' : (n : Int) ≤ 9223372036854775806 := by omega
        unfold kbV
        go_wp2
        exact bodyPost_ret (v := .tuple #[.agg #[.int .i64 (s[0].toNat : Int), .int .i64 0, .string (bs out)], .int .i64 (1 + (n : Int)), .int .i64 0]) (by simp [results, go_sem, r0, r1, r2]) rfl ⟨congrArg Ending.returned (uV_eq (u := unTail 3 (.ok out n)) (by simpa [unTail] using b3) rfl rfl (by simp [unTail]) rfl), by
          repeat (first | exact B5.out | refine Below.setCell ?_ (by simp) _)⟩
      | short =>
        unfold kbV
        go_wp2
        exact bodyPost_ret (v := uV ⟨0, 0, [], 0, 3⟩) (by simp [results, uV, bs, go_sem, r0, r1, r2]) rfl ⟨rfl, by
          repeat (first | exact B5.out | refine Below.setCell ?_ (by simp) _)⟩
      | form =>
        unfold kbV
        go_wp2
        exact bodyPost_ret (v := uV ⟨0, 0, [], 0, 4⟩) (by simp [results, uV, bs, go_sem, r0, r1, r2]) rfl ⟨rfl, by
          repeat (first | exact B5.out | refine Below.setCell ?_ (by simp) _)⟩
    · rw [hu]
      clear hu
      go_enter Tryd.func18, Tryd.ntmps18
      go_wp2_with fail
      exact bodyPost_ret (v := uV ⟨0, 0, [], 0, 4⟩) (by simp [results, uV, bs, go_sem]) rfl ⟨rfl, Bx.below _ _ _ _ _ _⟩
end Va
end Go.Proofs.YtpabhekbkdpkiaaDoor
