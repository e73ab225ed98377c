/-
  Contract of the reference's Parse.
-/
import Derived.Test.YtiellodbkanciaaGreatDoorValRefQuoted
import Derived.Test.YtiellodbkanciaaGreatDoorValRefNumber
import Derived.Test.YtiellodbkanciaaGreatDoorGrpValC
namespace Go.Proofs.YtiellodbkanciaaGreatDoor
open Go.RowKit
namespace Va
open Num (hid)
theorem pre_yes {p : Bs} {s : ByteArray} (h : p.isPrefixOf (bl s) = true) : p.length ≤ s.size ∧ ((s.extract 0 p.length).toList == p) = true := by
  have hl := prefix_len h
  rw [bl_len] at hl
  refine ⟨hl, ?_⟩
  rw [beq_iff_eq, ByteArray.toList_eq]
  exact (head_list s p.length).trans (prefix_take h)
theorem pre_no {p : Bs} {s : ByteArray} (h : p.isPrefixOf (bl s) = false) : s.size < p.length ∨ (p.length ≤ s.size ∧ ((s.extract 0 p.length).toList == p) = false) := by
  by_cases hl : s.size < p.length
  · exact Or.inl hl
  · refine Or.inr ⟨by omega, ?_⟩
    rw [beq_eq_false_iff_ne, ByteArray.toList_eq]
    intro e
    have e' : (bl s).take p.length = p := (head_list s p.length).symm.trans e
    have : p.isPrefixOf (bl s) = true := by
      rw [List.isPrefixOf_iff_prefix, List.prefix_iff_eq_take]
      exact e'.symm
    rw [this] at h
    cases h
theorem q_yes {s : ByteArray} (h : [39].isPrefixOf (bl s) = true) : ∃ hp : 0 < s.size, ((s[0].toNat : Int) == 39) = true := by
  have hl := prefix_len h
  rw [bl_len] at hl
  have hp : 0 < s.size := hl
  refine ⟨hp, ?_⟩
  have hc := rest_cons hp
  rw [List.drop_zero] at hc
  rw [hc] at h
  simp [List.isPrefixOf] at h
  rw [← h]; rfl
theorem q_no {s : ByteArray} (h : [39].isPrefixOf (bl s) = false) : s.size < 1 ∨ ∃ hp : 0 < s.size, ((s[0].toNat : Int) == 39) = false := by
  by_cases hp : 0 < s.size
  · refine Or.inr ⟨hp, ?_⟩
    have hc := rest_cons hp
    rw [List.drop_zero] at hc
    rw [hc] at h
    simp [List.isPrefixOf] at h
    simp only [beq_eq_false_iff_ne, ne_eq]
    intro e
    exact h (UInt8.toNat_inj.1 (by show 39 = s[0].toNat; omega))
  · exact Or.inl (by omega)
set_option maxRecDepth 100000 in
set_option maxHeartbeats 8000000 in
theorem rparse_any (s : ByteArray) (hs : s.size ≤ 281474976710656) (w : World) :
    Calls Tryz.prog 85 #[.string s] w fun e w' => e = .returned (uV (parseL (bl s))) ∧ Below w.heap.size w w' := by
  rw [parse_eq]
  cases h0 : nullL.isPrefixOf (bl s) with
  | true =>
    rw [if_pos rfl]
    obtain ⟨l4, e4⟩ := pre_yes h0
    have l4' : 4 ≤ s.size := l4
    have l4i : (4 : Int) ≤ (s.size : Int) := by omega
    have e4' : ((s.extract 0 4).toList == [110, 117, 108, 108]) = true := e4
    clear h0 l4 e4
    go_enter Tryz.func85, Tryz.ntmps85
    go_wp2
    exact bodyPost_ret (v := uV ⟨0, 0, [], 4, 0⟩) (by simp [results, uV, bs, go_sem]) rfl ⟨rfl, (Below.refl _ _).alloc (Nat.le_refl _) _⟩
  | false =>
    rw [if_neg Bool.false_ne_true]
    have n4 : (s.size : Int) < 4 ∨ (4 ≤ s.size ∧ (4 : Int) ≤ (s.size : Int) ∧ ((s.extract 0 4).toList == [110, 117, 108, 108]) = false) := by
      rcases pre_no h0 with h | ⟨h1, h2⟩
      · have h' : s.size < 4 := h
        exact Or.inl (by omega)
      · have h1' : 4 ≤ s.size := h1
        exact Or.inr ⟨h1', by omega, h2⟩
    clear h0
    cases h1 : [39].isPrefixOf (bl s) with
    | true =>
      rw [if_pos rfl]
      obtain ⟨hp, b39⟩ := q_yes h1
      have hp' : (1 : Int) ≤ (s.size : Int) := by omega
      have hq := fun w => rquoted_any 2 1 s hp (by omega) w
      generalize quotedU 2 1 (pq 2000 ((bl s).drop 1)) = u at hq ⊢
      have Hq := hid hq
      clear h1 hq
      have X1 := hid (Bx.new 0 0 ⟨#[]⟩ w)
      have B1 := hid ((Below.refl w.heap.size w).alloc (Nat.le_refl _) (.cells #[.int .i64 0, .int .i64 0, .string ⟨#[]⟩] 78))
      rcases n4 with n4 | ⟨n4, n4i, n4e⟩
      all_goals (
        go_enter Tryz.func85, Tryz.ntmps85
        go_wp2_with fail
        refine (Hq.out _).mono ?_
        rintro e w5 ⟨rfl, hb5⟩
        obtain ⟨r0, r1, r2⟩ := (X1.out.on hb5).cells
        obtain ⟨f0, f1, f2⟩ := (X1.out.on hb5).free
        have hszw5 := lt_of_block (X1.out.on hb5)
        have BW := hid (B1.out.trans (hb5.mono B1.out.size))
        clear hb5
        unfold uV
        go_wp2
        exact bodyPost_ret (v := uV u) (by simp [results, uV, go_sem, r0, r1, r2]) rfl ⟨rfl, by
          repeat (first | exact BW.out | refine Below.setCell ?_ (by simp) _)⟩)
    | false =>
      rw [if_neg Bool.false_ne_true]
      have n1 : (s.size : Int) < 1 ∨ (∃ hp : 0 < s.size, (1 : Int) ≤ (s.size : Int) ∧ ((s[0].toNat : Int) == 39) = false) := by
        rcases q_no h1 with h | ⟨hp, h2⟩
        · exact Or.inl (by omega)
        · exact Or.inr ⟨hp, by omega, h2⟩
      clear h1
      cases h2 : [120, 39].isPrefixOf (bl s) with
      | true =>
        rw [if_pos rfl]
        obtain ⟨l2, e2⟩ := pre_yes h2
        have l2' : 2 ≤ s.size := l2
        have l2i : (2 : Int) ≤ (s.size : Int) := by omega
        have e2' : ((s.extract 0 2).toList == [120, 39]) = true := e2
        have hq := fun w => rquoted_any 3 2 s l2' (by omega) w
        generalize quotedU 3 2 (pq 2000 ((bl s).drop 2)) = u at hq ⊢
        have Hq := hid hq
        clear h2 hq l2 e2
        have X1 := hid (Bx.new 0 0 ⟨#[]⟩ w)
        have B1 := hid ((Below.refl w.heap.size w).alloc (Nat.le_refl _) (.cells #[.int .i64 0, .int .i64 0, .string ⟨#[]⟩] 78))
        rcases n1 with n1 | ⟨hp, n1i, n1e⟩
        · omega
        rcases n4 with n4 | ⟨n4, n4i, n4e⟩
        all_goals (
          go_enter Tryz.func85, Tryz.ntmps85
          go_wp2_with fail
          refine (Hq.out _).mono ?_
          rintro e w5 ⟨rfl, hb5⟩
          obtain ⟨r0, r1, r2⟩ := (X1.out.on hb5).cells
          obtain ⟨f0, f1, f2⟩ := (X1.out.on hb5).free
          have hszw5 := lt_of_block (X1.out.on hb5)
          have BW := hid (B1.out.trans (hb5.mono B1.out.size))
          clear hb5
          unfold uV
          go_wp2
          exact bodyPost_ret (v := uV u) (by simp [results, uV, go_sem, r0, r1, r2]) rfl ⟨rfl, by
            repeat (first | exact BW.out | refine Below.setCell ?_ (by simp) _)⟩)
      | false =>
        rw [if_neg Bool.false_ne_true]
        have n2 : (s.size : Int) < 2 ∨ (2 ≤ s.size ∧ (2 : Int) ≤ (s.size : Int) ∧ ((s.extract 0 2).toList == [120, 39]) = false) := by
          rcases pre_no h2 with h | ⟨h1, h2⟩
          · have h' : s.size < 2 := h
            exact Or.inl (by omega)
          · have h1' : 2 ≤ s.size := h1
            exact Or.inr ⟨h1', by omega, h2⟩
        have hq := fun w => rnum_any s hs w
        generalize numU (pintL (bl s)) = u at hq ⊢
        have Hq := hid hq
        clear h2 hq
        have X1 := hid (Bx.new 0 0 ⟨#[]⟩ w)
        have B1 := hid ((Below.refl w.heap.size w).alloc (Nat.le_refl _) (.cells #[.int .i64 0, .int .i64 0, .string ⟨#[]⟩] 78))
        rcases n4 with n4 | ⟨n4, n4i, n4e⟩
        all_goals (
          rcases n1 with n1 | ⟨hp, n1i, n1e⟩
          all_goals (
            rcases n2 with n2 | ⟨n2, n2i, n2e⟩
            all_goals first | omega | (
              go_enter Tryz.func85, Tryz.ntmps85
              go_wp2_with fail
              refine (Hq.out _).mono ?_
              rintro e w5 ⟨rfl, hb5⟩
              obtain ⟨r0, r1, r2⟩ := (X1.out.on hb5).cells
              obtain ⟨f0, f1, f2⟩ := (X1.out.on hb5).free
              have hszw5 := lt_of_block (X1.out.on hb5)
              have BW := hid (B1.out.trans (hb5.mono B1.out.size))
              clear hb5
              unfold uV
              go_wp2
              exact bodyPost_ret (v := uV u) (by simp [results, uV, go_sem, r0, r1, r2]) rfl ⟨rfl, by
                repeat (first | exact BW.out | refine Below.setCell ?_ (by simp) _)⟩)))
end Va
end Go.Proofs.YtiellodbkanciaaGreatDoor
