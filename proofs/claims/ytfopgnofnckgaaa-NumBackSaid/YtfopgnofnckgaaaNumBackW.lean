/-
  The walk of NumBack: it answers true; the old memory stays.
-/
import Derived.Test.YtfopgnofnckgaaaNumAwake
import Derived.Deep.QuietTactic
import Derived.BigQuiet
namespace Go.Proofs.Ytfopgnofnckgaaa.numBack
open Go.RowKit Go.Proofs.Ytfopgnofnckgaaa.Num

/-- The bytes of Var: a name that the walk leaves closed. -/
def vx (n : Nat) : ByteArray := ⟨(varB n).toArray⟩
theorem vx_size (n : Nat) : (vx n).size = (varB n).length := by unfold vx; rfl
theorem varx (n : Nat) (hn : n < 18446744073709551616) (w : World) :
    Calls Try.prog 12 #[.int .u64 n] w fun e w' => e = .returned (.string (vx n)) ∧ Below w.heap.size w w' := var_any n hn w
theorem unvar_v (n : Nat) (hn : n < 18446744073709551616) (s : ByteArray) (hs : s.size ≤ 140737488351232) (w : World) :
    Calls Try.prog 18 #[.string (vx n ++ s)] w fun e w' => e = .returned (.tuple #[.int .u64 n, .int .i64 (vx n).size, .int .i64 0]) ∧ w = w' := by
  have hl := vx_size n
  have hle := varB_le n
  have h2 := unvar_any (vx n ++ s) w (by unfold maxLen; rw [ByteArray.size_append]; omega)
  have e : (vx n ++ s).data.toList = varB n ++ s.data.toList := by unfold vx; simp
  rw [e, unv_varB n _ hn, ← hl] at h2
  exact h2

theorem unfix8 (n : Nat) (hn : n < 18446744073709551616) (w : World) :
    Calls Try.prog 20 #[.string ⟨(fix8 n).toArray⟩] w fun e w' => e = .returned (.tuple #[.int .u64 n, .int .i64 0]) ∧ w = w' := by
  have h := unfixed_any ⟨(fix8 n).toArray⟩ w
  have e : (⟨(fix8 n).toArray⟩ : ByteArray).data.toList = fixF 8 n := by unfold fix8; simp
  rw [e, unfix_fix n hn] at h
  exact h

theorem foldI_bd (a : Int) (h1 : -9223372036854775808 ≤ a) (h2 : a ≤ 9223372036854775807) : 0 ≤ foldI a ∧ foldI a ≤ 18446744073709551615 := by unfold foldI; split <;> omega
theorem unfoldI_bd (a : Int) (h1 : 0 ≤ a) (h2 : a ≤ 18446744073709551615) : -9223372036854775808 ≤ unfoldI a ∧ unfoldI a ≤ 9223372036854775807 := by unfold unfoldI; split <;> omega
theorem unfold_back (a : Int) (h1 : -9223372036854775808 ≤ a) (h2 : a ≤ 9223372036854775807) (w : World) :
    Calls Try.prog 16 #[.int .u64 (foldI a)] w fun e w' => e = .returned (.int .i64 a) ∧ w = w' := by
  have h := unfold_any (foldI a) (foldI_bd a h1 h2).1 (foldI_bd a h1 h2).2 w
  rw [unfold_fold] at h
  exact h
theorem fold_back (a : Int) (h1 : 0 ≤ a) (h2 : a ≤ 18446744073709551615) (w : World) :
    Calls Try.prog 14 #[.int .i64 (unfoldI a)] w fun e w' => e = .returned (.int .u64 a) ∧ w = w' := by
  have h := fold_any (unfoldI a) (unfoldI_bd a h1 h2).1 (unfoldI_bd a h1 h2).2 w
  rw [fold_unfold a h1] at h
  exact h
theorem wrap64_bd (n : Int) : -9223372036854775808 ≤ wrap64 n ∧ wrap64 n ≤ 9223372036854775807 := by rw [wrap_i]; omega

/-- The three ways of Unvar. -/
theorem three (l : List UInt8) : (∃ b m : Nat, unvL 0 0 l = (b, m, 0) ∧ b < 18446744073709551616 ∧ 1 ≤ m ∧ m ≤ l.length ∧ varB b = l.take m) ∨ unvL 0 0 l = (0, 0, 3) ∨ unvL 0 0 l = (0, 0, 4) := by
  have hk := unv_lt l
  rcases hk.2.2 with h | h | h
  · refine .inl ⟨(unvL 0 0 l).1, (unvL 0 0 l).2.1, by rw [← h], hk.1, ?_⟩
    obtain ⟨n, hb, _, _, hm, _, hv⟩ := unv_back l 0 0 (unvL 0 0 l).1 (unvL 0 0 l).2.1 9 rfl (by rw [← h])
    refine ⟨by omega, hk.2.1, ?_⟩
    rw [hb]
    simpa [varB] using hv
  · have := unv_err l 0 0 (by rw [h]; decide)
    exact .inr (.inl (Prod.ext this.1 (Prod.ext this.2 h)))
  · have := unv_err l 0 0 (by rw [h]; decide)
    exact .inr (.inr (Prod.ext this.1 (Prod.ext this.2 h)))

theorem unvar_ok (s : ByteArray) (hs : s.size ≤ 140737488351232) (b m : Nat) (h : unvL 0 0 s.data.toList = (b, m, 0)) (w : World) :
    Calls Try.prog 18 #[.string s] w fun e w' => e = .returned (.tuple #[.int .u64 b, .int .i64 m, .int .i64 0]) ∧ w = w' := by
  have h2 := unvar_any s w (by unfold maxLen; omega)
  rw [h] at h2
  exact h2
theorem unvar_er (s : ByteArray) (hs : s.size ≤ 140737488351232) (x : Int) (h : unvL 0 0 s.data.toList = (0, 0, x)) (w : World) :
    Calls Try.prog 18 #[.string s] w fun e w' => e = .returned (.tuple #[.int .u64 0, .int .i64 0, .int .i64 x]) ∧ w = w' := by
  have h2 := unvar_any s w (by unfold maxLen; omega)
  rw [h] at h2
  exact h2
theorem var_cut (s : ByteArray) (b m : Nat) (hb : b < 18446744073709551616) (h : varB b = s.data.toList.take m) (w : World) :
    Calls Try.prog 12 #[.int .u64 b] w fun e w' => e = .returned (.string (s.extract 0 m)) ∧ Below w.heap.size w w' := by
  have h2 := var_any b hb w
  have e : s.extract 0 m = ⟨(varB b).toArray⟩ := by
    apply ByteArray.ext
    apply Array.ext'
    rw [h]
    simp
  rw [e]
  exact h2

/-- A region that draws its order and whose calls make memory alone: one walk of the text's order, every operation quiet in the class C. -/
theorem wp_region_quiet_in {P : Program} {id : Nat} {Q : Exit → Act → World → Prop} {a : Act} {w : World} {l : List Oper} (C : World → Prop) (hm : P.follows .mixedOrders = true) (hB : Region.lexB .any l.toArray = true) (hC : C w.drew)
    (h : wpQuiet P l.toArray C (fun a' => ∀ w', C w' → Q .normal a' w') l a) : (Code.region id l.toArray true).wp P Q a w :=
  wp_region_quiet (C := C) hm hB hC (by simpa using h)

set_option maxRecDepth 100000 in
set_option maxHeartbeats 1000000 in
theorem walk (a0 : Int) (a1 : ByteArray) (w0 : (Lit.int .u64 a0).wf = true) (hs : a1.size ≤ 140737488351232) (w : World) :
    Calls Try.prog 5 #[.int .u64 a0, .string a1] w fun e w' => e = .returned (.bool true) ∧ Below w.heap.size w w' := by
  obtain ⟨n, hn, rfl⟩ := nat_u64 w0
  clear w0
  obtain ⟨b1, b2⟩ := wrap64_bd (n : Int)
  have hn' : (n : Int) ≤ 18446744073709551615 := by omega
  have hs1 : 1 ≤ (vx n).size := by rw [vx_size]; exact varB_pos n
  have hs2 : (vx n).size ≤ 10 := by rw [vx_size]; exact varB_le n
  rcases three a1.data.toList with ⟨b, m, hu, hb9, hm1, hm2, hv⟩ | hu | hu
  · have HU := hid hu
    have HV := hid hv
    have hm3 : m ≤ a1.size := by simpa using hm2
    clear hu hv hm2
    go_enter Try.func5, Try.ntmps5
    go_wp2_with fail
    refine (awake_any _).mono ?_
    rintro e w1 ⟨rfl, hb1⟩
    go_wp2_with fail
    refine (varx n hn _).mono ?_
    rintro e w2 ⟨rfl, hb2⟩
    go_wp2_with fail
    refine (unvar_v n hn a1 hs _).mono ?_
    rintro e w3 ⟨rfl, rfl⟩
    go_wp2_with fail
    refine (unvar_ok a1 hs b m HU.out _).mono ?_
    rintro e w3 ⟨rfl, rfl⟩
    have hb := below_then hb1 hb2
    clear hb1 hb2
    go_wp2_with fail
    have d1 : decide ((m : Int) < 1) = false := by simp; omega
    have d2 : decide (a1.size < m) = false := by simp; omega
    refine wp_region_quiet_in (fun wx => Below w.heap.size w wx) (by kernel_rfl) (by kernel_rfl) hb.drew ?_
    repeat
      first
      | go_big_quiet_skip
      | (go_big_quiet_want
         go_big_quiet_op
         first
         | go_big_quiet_on
         | (apply Exists.intro
            refine ⟨fun _ _ => ?_, ?_⟩
            · with_reducible exact Eq.refl _
            go_big_quiet_on)
         | (apply Exists.intro
            refine ⟨fun _ hx => ?_, ?_⟩
            · refine (var_cut a1 b m hb9 HV.out _).mono ?_
              rintro e w3 ⟨rfl, hb3⟩
              exact ⟨rfl, below_then hx hb3⟩
            go_big_quiet_on))
    refine wpQuiet_nil ?_
    intro w4 hb4
    clear hb d1 d2
    go_wp2_with fail
    refine (fixed8_any n hn _).mono ?_
    rintro e w5 ⟨rfl, hb5⟩
    go_wp2_with fail
    refine (unfix8 n hn _).mono ?_
    rintro e w6 ⟨rfl, rfl⟩
    go_wp2_with fail
    refine (fold_any _ b1 b2 _).mono ?_
    rintro e w6 ⟨rfl, rfl⟩
    go_wp2_with fail
    refine (unfold_back _ b1 b2 _).mono ?_
    rintro e w6 ⟨rfl, rfl⟩
    go_wp2_with fail
    refine (unfold_any _ (by omega) hn' _).mono ?_
    rintro e w6 ⟨rfl, rfl⟩
    go_wp2_with fail
    refine (fold_back _ (by omega) hn' _).mono ?_
    rintro e w6 ⟨rfl, rfl⟩
    go_wp2
    go_ret
    exact ⟨rfl, below_then hb4 hb5⟩
  · have HU := hid hu
    clear hu
    go_enter Try.func5, Try.ntmps5
    go_wp2_with fail
    refine (awake_any _).mono ?_
    rintro e w1 ⟨rfl, hb1⟩
    go_wp2_with fail
    refine (varx n hn _).mono ?_
    rintro e w2 ⟨rfl, hb2⟩
    go_wp2_with fail
    refine (unvar_v n hn a1 hs _).mono ?_
    rintro e w3 ⟨rfl, rfl⟩
    go_wp2_with fail
    refine (unvar_er a1 hs 3 HU.out _).mono ?_
    rintro e w3 ⟨rfl, rfl⟩
    have hb := below_then hb1 hb2
    clear hb1 hb2
    go_wp2_with fail
    go_quiet (fail)
    have hb4 := below_drewN hb nq
    clear hb
    go_wp2_with fail
    refine (fixed8_any n hn _).mono ?_
    rintro e w5 ⟨rfl, hb5⟩
    go_wp2_with fail
    refine (unfix8 n hn _).mono ?_
    rintro e w6 ⟨rfl, rfl⟩
    go_wp2_with fail
    refine (fold_any _ b1 b2 _).mono ?_
    rintro e w6 ⟨rfl, rfl⟩
    go_wp2_with fail
    refine (unfold_back _ b1 b2 _).mono ?_
    rintro e w6 ⟨rfl, rfl⟩
    go_wp2_with fail
    refine (unfold_any _ (by omega) hn' _).mono ?_
    rintro e w6 ⟨rfl, rfl⟩
    go_wp2_with fail
    refine (fold_back _ (by omega) hn' _).mono ?_
    rintro e w6 ⟨rfl, rfl⟩
    go_wp2
    go_ret
    exact ⟨rfl, below_then hb4 hb5⟩
  · have HU := hid hu
    clear hu
    go_enter Try.func5, Try.ntmps5
    go_wp2_with fail
    refine (awake_any _).mono ?_
    rintro e w1 ⟨rfl, hb1⟩
    go_wp2_with fail
    refine (varx n hn _).mono ?_
    rintro e w2 ⟨rfl, hb2⟩
    go_wp2_with fail
    refine (unvar_v n hn a1 hs _).mono ?_
    rintro e w3 ⟨rfl, rfl⟩
    go_wp2_with fail
    refine (unvar_er a1 hs 4 HU.out _).mono ?_
    rintro e w3 ⟨rfl, rfl⟩
    have hb := below_then hb1 hb2
    clear hb1 hb2
    go_wp2_with fail
    go_quiet (fail)
    have hb4 := below_drewN hb nq
    clear hb
    go_wp2_with fail
    refine (fixed8_any n hn _).mono ?_
    rintro e w5 ⟨rfl, hb5⟩
    go_wp2_with fail
    refine (unfix8 n hn _).mono ?_
    rintro e w6 ⟨rfl, rfl⟩
    go_wp2_with fail
    refine (fold_any _ b1 b2 _).mono ?_
    rintro e w6 ⟨rfl, rfl⟩
    go_wp2_with fail
    refine (unfold_back _ b1 b2 _).mono ?_
    rintro e w6 ⟨rfl, rfl⟩
    go_wp2_with fail
    refine (unfold_any _ (by omega) hn' _).mono ?_
    rintro e w6 ⟨rfl, rfl⟩
    go_wp2_with fail
    refine (fold_back _ (by omega) hn' _).mono ?_
    rintro e w6 ⟨rfl, rfl⟩
    go_wp2
    go_ret
    exact ⟨rfl, below_then hb4 hb5⟩

end Go.Proofs.Ytfopgnofnckgaaa.numBack
