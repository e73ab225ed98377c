/-
  Contracts of the reference's number, part, fixed.
-/
import Derived.Test.YtiellodbkanciaaGreatDoorNodeRefEnc
import Derived.Test.YtiellodbkanciaaGreatDoorNodeRefMath
import Derived.Test.YtiellodbkanciaaGreatDoorNodeDec
import Derived.Test.YtiellodbkanciaaGreatDoorGrpNum
import Derived.Test.YtiellodbkanciaaGreatDoorNumRefUnfixed
namespace Go.Proofs.YtiellodbkanciaaGreatDoor
open Go.RowKit
namespace No
open Num (hid varB fixF unfF unvL fixF_length)
theorem runv_b (S : Bs) (hS : S.length ≤ maxLen) (w : World) : Calls Tryz.prog 80 #[.string (bs S)] w fun e w' => e = .returned (.tuple #[.int .u64 ((unvL 0 0 S).1 : Nat), .int .i64 ((unvL 0 0 S).2.1 : Nat), .int .i64 (unvL 0 0 S).2.2]) ∧ w = w' :=
  Num.runvar_any (bs S) w (by rw [bs_size]; exact hS)
theorem runf_b (x : Bs) (h1 : 1 ≤ x.length) (h8 : x.length ≤ 8) (w : World) : Calls Tryz.prog 112 #[.string (bs x)] w fun e w' => e = .returned (.tuple #[.int .u64 (unfF 0 x : Nat), .int .i64 0]) ∧ w = w' := by
  have h := Num.runfixed_any (bs x) w
  rw [Num.unfix_yes (bs x) (by rw [bs_size]; exact h1) (by rw [bs_size]; exact h8)] at h
  exact h
theorem ex_mid (S : Bs) (i n : Nat) : (bs S).extract i (i + n) = bs ((S.drop i).take n) := by
  have e : (bs S).extract i (i + n) = bs (bl ((bs S).extract i (i + n))) := (bs_bl _).symm
  rw [e]
  refine congrArg bs ?_
  show ((bs S).extract i (i + n)).data.toList = _
  simp [ByteArray.data_extract, bs]
theorem upS_back_at (S : Bs) (h : (unvL 0 0 S).2.2 = 0) : (unvL 0 0 S).2.1 ≤ S.length := by
  obtain ⟨q, -, -, -, -, hm, -⟩ := Num.unv_back S 0 0 (unvL 0 0 S).1 (unvL 0 0 S).2.1 9 rfl (by rw [← h])
  omega
/-- What number gives. -/
def NumGives (S : Bs) (a : Int) (w w' : World) (e : Ending) : Prop := ∃ (z : Nat) (nx : Int), e = .returned (.tuple #[.int .i64 (z : Nat), .int .i64 nx]) ∧ z ≤ 5000 ∧ Rat S (fromS S a fun T => upS T 5000) z nx ∧ Below w.heap.size w w'
theorem num_no {S : Bs} {a : Int} {w w' : World} (h : fromS S a (fun T => upS T 5000) = none) (hb : Below w.heap.size w w') : NumGives S a w w' (.returned (.tuple #[.int .i64 0, .int .i64 (-1)])) := ⟨0, -1, rfl, by decide, Or.inr ⟨rfl, h⟩, hb⟩
set_option maxRecDepth 100000 in
set_option maxHeartbeats 1000000 in
theorem rnumber_any (S : Bs) (hS : S.length = 232) (a : Int) (h1 : -1 ≤ a) (h2 : a ≤ 232) (w : World) : Calls Tryz.prog 57 #[.string (bs S), .int .i64 a] w fun e w' => NumGives S a w w' e := by
  have hz := bs_size S
  have hz2 : (bs S).size = 232 := by rw [hz, hS]
  by_cases h0 : a < 0
  · have ea : a = -1 := by omega
    subst ea
    have HN := hid (num_no (S := S) (a := -1) (w := w) (w' := w) rfl (Below.refl _ _))
    clear hz
    go_enter Tryz.func57, Tryz.ntmps57
    go_wp2
    go_ret2
    exact HN.out
  · obtain ⟨k, rfl⟩ := Int.eq_ofNat_of_zero_le (show 0 ≤ a by omega)
    have hk : k ≤ 232 := by omega
    have e0 : fromS S (k : Int) (fun T => upS T 5000) = upS (S.drop k) 5000 := fromS_at S k _
    have HU := hid (runv_b (S.drop k) (by rw [List.length_drop]; unfold maxLen; omega))
    have hdl : (S.drop k).length = 232 - k := by rw [List.length_drop, hS]
    have hex : (bs S).extract k 232 = bs (S.drop k) := by rw [← hz2, ex_drop]
    have hex' : (bs S).extract k (bs S).size = bs (S.drop k) := ex_drop S k
    have HB := hid (upS_back_at (S.drop k))
    obtain ⟨z, hzz⟩ : ∃ z, (unvL 0 0 (S.drop k)).1 = z := ⟨_, rfl⟩
    obtain ⟨q, hqq⟩ : ∃ q, (unvL 0 0 (S.drop k)).2.1 = q := ⟨_, rfl⟩
    obtain ⟨er, hee⟩ : ∃ er, (unvL 0 0 (S.drop k)).2.2 = er := ⟨_, rfl⟩
    have hup : upS (S.drop k) 5000 = if er ≠ 0 ∨ 5000 < z then none else some (z, (S.drop k).drop q) := by unfold upS; rw [hzz, hqq, hee]
    simp only [hzz, hqq, hee] at HU HB
    have hk1 : ¬ (k : Int) < 0 := by omega
    have hk2 : ¬ (232 : Int) < (k : Int) := by omega
    by_cases he : er = 0
    · have he' : (er != 0) = false := by rw [he]; rfl
      by_cases h5 : 5000 < z
      · have h5' : (5000 : Int) < z := by omega
        rw [if_pos (Or.inr h5)] at hup
        have HN := hid (num_no (S := S) (a := k) (w := w) (w' := w) (e0.trans hup) (Below.refl _ _))
        clear hz hup e0 hdl he h5
        go_enter Tryz.func57, Tryz.ntmps57
        go_wp2_with fail
        refine (HU.out _).mono ?_
        rintro e w3 ⟨rfl, rfl⟩
        go_wp2
        go_ret2
        exact HN.out
      · have h5' : ¬ (5000 : Int) < z := by omega
        rw [if_neg (fun h => h.elim (fun h => h he) h5)] at hup
        have hq : q ≤ 232 - k := by
          have := HB.out he
          rw [hdl] at this
          exact this
        have HN : Hid (NumGives S k w w (.returned (.tuple #[.int .i64 (z : Nat), .int .i64 ((k : Int) + (q : Int))]))) := hid ⟨z, _, rfl, by omega, Or.inl ⟨k + q, by omega, by omega, by rw [e0, hup, List.drop_drop]⟩, Below.refl _ _⟩
        have hzi : IntKind.i64.wrap (z : Int) = (z : Int) := by rw [IntKind.wrap_i64]; omega
        clear hz hup e0 hdl he h5
        go_enter Tryz.func57, Tryz.ntmps57
        go_wp2_with fail
        refine (HU.out _).mono ?_
        rintro e w3 ⟨rfl, rfl⟩
        go_wp2
        go_ret2
        exact HN.out
    · have he' : (er != 0) = true := by simpa using he
      rw [if_pos (Or.inl he)] at hup
      have HN := hid (num_no (S := S) (a := k) (w := w) (w' := w) (e0.trans hup) (Below.refl _ _))
      clear hz hup e0 hdl he
      go_enter Tryz.func57, Tryz.ntmps57
      go_wp2_with fail
      refine (HU.out _).mono ?_
      rintro e w3 ⟨rfl, rfl⟩
      go_wp2
      go_ret2
      exact HN.out
def PartGives (S : Bs) (a : Int) (n : Nat) (w w' : World) (e : Ending) : Prop := ∃ (y : Bs) (nx : Int), e = .returned (.tuple #[.string (bs y), .int .i64 nx]) ∧ Rat S (fromS S a fun T => byS T n) y nx ∧ Below w.heap.size w w'
theorem part_no {S : Bs} {a : Int} {n : Nat} {w w' : World} (h : fromS S a (fun T => byS T n) = none) (hb : Below w.heap.size w w') : PartGives S a n w w' (.returned (.tuple #[.string ⟨#[]⟩, .int .i64 (-1)])) := ⟨[], -1, rfl, Or.inr ⟨rfl, h⟩, hb⟩
set_option maxRecDepth 100000 in
set_option maxHeartbeats 1000000 in
theorem rpart_any (S : Bs) (hS : S.length = 232) (a : Int) (h1 : -1 ≤ a) (h2 : a ≤ 232) (n : Nat) (hn : n ≤ 5000) (w : World) : Calls Tryz.prog 58 #[.string (bs S), .int .i64 a, .int .i64 (n : Nat)] w fun e w' => PartGives S a n w w' e := by
  have hz2 : (bs S).size = 232 := by rw [bs_size, hS]
  by_cases h0 : a < 0
  · have ea : a = -1 := by omega
    subst ea
    have HN := hid (part_no (S := S) (a := -1) (n := n) (w := w) (w' := w) rfl (Below.refl _ _))
    go_enter Tryz.func58, Tryz.ntmps58
    go_wp2
    go_ret2
    exact HN.out
  · obtain ⟨k, rfl⟩ := Int.eq_ofNat_of_zero_le (show 0 ≤ a by omega)
    have hk : k ≤ 232 := by omega
    have e0 : fromS S (k : Int) (fun T => byS T n) = byS (S.drop k) n := fromS_at S k _
    have hdl : (S.drop k).length = 232 - k := by rw [List.length_drop, hS]
    have hk1 : ¬ (k : Int) < 0 := by omega
    have hk2 : ¬ (232 : Int) < (k : Int) := by omega
    by_cases hb : 232 - k < n
    · have hb' : (232 : Int) - (k : Int) < n := by omega
      have hby : byS (S.drop k) n = none := by unfold byS; rw [hdl, if_pos hb]
      have HN := hid (part_no (S := S) (a := k) (n := n) (w := w) (w' := w) (e0.trans hby) (Below.refl _ _))
      clear hby e0 hdl hb
      go_enter Tryz.func58, Tryz.ntmps58
      go_wp2
      go_ret2
      exact HN.out
    · have hb' : ¬ (232 : Int) - (k : Int) < n := by omega
      have hby : byS (S.drop k) n = some ((S.drop k).take n, (S.drop k).drop n) := by unfold byS; rw [hdl, if_neg hb]
      have HN : Hid (PartGives S k n w w (.returned (.tuple #[.string (bs ((S.drop k).take n)), .int .i64 ((k : Int) + (n : Int))]))) := hid ⟨_, _, rfl, Or.inl ⟨k + n, by omega, by omega, by rw [e0, hby, List.drop_drop]⟩, Below.refl _ _⟩
      have hex := ex_mid S k n
      have hkn : (k : Int) + (n : Int) ≤ 232 := by omega
      have hkn2 : k + n ≤ 232 := by omega
      clear hby e0 hdl hb
      go_enter Tryz.func58, Tryz.ntmps58
      go_wp2
      go_ret2
      exact HN.out
def FixGives (S : Bs) (a : Int) (w w' : World) (e : Ending) : Prop := ∃ (q : Nat) (nx : Int), e = .returned (.tuple #[.int .i64 (q : Nat), .int .i64 nx]) ∧ Rat S (fromS S a fun T => fxS T 4) q nx ∧ Below w.heap.size w w'
set_option maxRecDepth 100000 in
set_option maxHeartbeats 1000000 in
theorem rfixed_at (S : Bs) (hS : S.length = 232) (a : Int) (h1 : -1 ≤ a) (h2 : a ≤ 232) (w : World) : Calls Tryz.prog 56 #[.string (bs S), .int .i64 a] w fun e w' => FixGives S a w w' e := by
  have HP := hid (rpart_any S hS a h1 h2 4 (by decide) w)
  go_enter Tryz.func56, Tryz.ntmps56
  go_wp2_with fail
  refine HP.out.mono ?_
  rintro e w3 ⟨y, nx, rfl, hr, hb⟩
  have HB := hid hb
  clear hb
  rcases hr with ⟨k, rfl, hk, hx⟩ | ⟨rfl, hx⟩
  · have hk1 : ¬ (k : Int) < 0 := by omega
    have hy : y.length = 4 := by
      unfold fromS at hx
      split at hx
      · cases hx
      · exact (byS_back hx).2
    have hfx : fromS S a (fun T => fxS T 4) = some (unfF 0 y, S.drop k) := by
      unfold fromS at hx ⊢
      split at hx
      · cases hx
      · rename_i h
        rw [if_neg h]
        show (byS (S.drop a.toNat) 4).map _ = _
        have hx' : byS (S.drop a.toNat) 4 = _ := hx
        rw [hx']
        rfl
    have hlt := Num.unfF_lt y 0
    rw [hy] at hlt
    have HU := hid (runf_b y (by omega) (by omega))
    have HN : Hid (∀ w', Below w.heap.size w w' → FixGives S a w w' (.returned (.tuple #[.int .i64 (unfF 0 y : Nat), .int .i64 (k : Int)]))) := hid fun w' hb => ⟨_, _, rfl, Or.inl ⟨k, rfl, hk, hfx⟩, hb⟩
    have hqi : IntKind.i64.wrap (unfF 0 y : Int) = (unfF 0 y : Int) := by rw [IntKind.wrap_i64]; omega
    clear hx hfx hy hlt
    generalize unfF 0 y = q at *
    go_wp2_with fail
    refine (HU.out _).mono ?_
    rintro e w4 ⟨rfl, rfl⟩
    go_wp2
    go_ret2
    exact HN.out _ HB.out
  · have hfx : fromS S a (fun T => fxS T 4) = none := by
      unfold fromS at hx ⊢
      split at hx
      · rename_i h; rw [if_pos h]
      · rename_i h
        rw [if_neg h]
        show (byS (S.drop a.toNat) 4).map _ = _
        have hx' : byS (S.drop a.toNat) 4 = _ := hx
        rw [hx']
        rfl
    have HN : Hid (∀ w', Below w.heap.size w w' → FixGives S a w w' (.returned (.tuple #[.int .i64 (0 : Nat), .int .i64 (-1)]))) := hid fun w' hb => ⟨_, _, rfl, Or.inr ⟨rfl, hfx⟩, hb⟩
    clear hx hfx
    go_wp2
    go_ret2
    exact HN.out _ HB.out
end No
end Go.Proofs.YtiellodbkanciaaGreatDoor
