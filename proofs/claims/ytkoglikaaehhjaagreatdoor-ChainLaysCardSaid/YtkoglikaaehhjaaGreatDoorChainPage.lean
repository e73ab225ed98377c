/-
  Contracts of pageOf and partOf: the page of a part, the part on a page.
-/
import Derived.Test.YtkoglikaaehhjaaGreatDoorChainMath
import Derived.Test.YtkoglikaaehhjaaGreatDoorNodeBld
import Derived.Test.YtkoglikaaehhjaaGreatDoorChainShelf
import Derived.Test.YtkoglikaaehhjaaGreatDoorGrpSpA
import Derived.Test.YtkoglikaaehhjaaGreatDoorSpareBld
import Derived.Shelf.Strings.Prefix
import Derived.BigQuiet
import Derived.Deep.QuietTactic
namespace Go.Proofs.YtkoglikaaehhjaaGreatDoor
open Go.RowKit Go.Shelf
namespace Ch
open Num (hid fixF fixF_length)
open Part (numAt)
open Mem (Bs bs)
open Sp (zeros zeros_len bs_append)
abbrev tShp : TypeId := 26
/-- A shelf as Pages. -/
abbrev pV (s : Nat) : Value := .iface tShp (Mem.ptr s)
abbrev ints (U : List Int) : List Value := U.map (Value.int .i64)
theorem hp_c (s p : Bs) (q : Bool) (h : p.isPrefixOf s = q) (w : World) : Calls Tryz.prog 62 #[.string (bs s), .string (bs p)] w fun e w' => e = .returned (.bool q) ∧ w = w' := by
  have := (Any.strings_HasPrefix Tryz.prefL (bs s) (bs p) w).mono (R' := fun e w' => e = .returned (.bool (Lib.hasPrefix s p)) ∧ w = w') fun _ _ h => ⟨h.1, h.2.symm⟩
  rw [show Lib.hasPrefix s p = q from h] at this
  exact this
set_option maxRecDepth 100000 in
set_option maxHeartbeats 1000000 in
theorem pageof_any (p : Bs) (hp : p.length ≤ 227) (m : Nat) (hm : m ≤ 4095) (w : World) :
    Calls Tryz.prog 52 #[.string (bs p), .int .i64 (m : Int)] w fun e w' => e = .returned (.string (bs (pageB p m))) ∧ Below w.heap.size w w' := by
  have hz := Sp.bs_size p
  have HR := hid (fun w => Sp.repeat_any (227 - p.length) (by omega) w)
  have e : ((227 - p.length : Nat) : Int) = 227 - ((bs p).size : Int) := by omega
  rw [e] at HR
  have HF := hid (fun w => Part.fixed4 m (by omega) w)
  have hu := Part.u64_nat m (by omega)
  have hx4 := Part.fx_size 4 m
  have z1 : (⟨#[3]⟩ : ByteArray).size = 1 := rfl
  have z0 := Sp.bs_size (zeros (227 - p.length))
  rw [zeros_len] at z0
  have s1 : ¬ 9223372036854775807 < (⟨#[3]⟩ : ByteArray).size + (Part.fx 4 m).size := by rw [z1, hx4]; omega
  have s2 : ¬ 9223372036854775807 < ((⟨#[3]⟩ : ByteArray) ++ Part.fx 4 m).size + (bs p).size := by rw [ByteArray.size_append, z1, hx4]; omega
  have s3 : ¬ 9223372036854775807 < ((⟨#[3]⟩ : ByteArray) ++ Part.fx 4 m ++ bs p).size + (bs (zeros (227 - p.length))).size := by rw [ByteArray.size_append, ByteArray.size_append, z1, hx4]; omega
  have HE : Hid ((⟨#[3]⟩ : ByteArray) ++ Part.fx 4 m ++ bs p ++ bs (zeros (227 - p.length)) = bs (pageB p m)) := hid (by
    show bs [3] ++ bs (fixF 4 m) ++ bs p ++ bs (zeros (227 - p.length)) = _
    rw [bs_append, bs_append, bs_append]
    unfold pageB
    simp)
  generalize bs (zeros (227 - p.length)) = Z at *
  have hb1 : (bs p).size ≤ 227 := by omega
  clear hz e z1 z0 hx4
  go_enter Tryz.func52, Tryz.ntmps52
  go_wp2_with fail
  refine (HR.out _).mono ?_
  rintro e w1 ⟨rfl, hb⟩
  have B1 := hid hb
  clear hb
  go_wp2_with fail
  refine (HF.out _).mono ?_
  rintro e w2 ⟨rfl, hb⟩
  have B2 := hid (B1.out.trans (hb.mono B1.out.size))
  clear hb
  go_wp2
  go_ret
  exact ⟨by rw [HE.out]; rfl, B2.out⟩
/-- What partOf answers. -/
def partV (o : Option (Bs × Int)) : Value := match o with
  | none => .tuple #[.string ⟨#[]⟩, .int .i64 0, .bool false]
  | some x => .tuple #[.string (bs x.1), .int .i64 x.2, .bool true]
theorem part_no {x : Bs} {left : Nat} (h : good x left = false) : partM x left = none := if_neg (by rw [h]; decide)
theorem part_yes {x : Bs} {left : Nat} (h : good x left = true) : partM x left = some ((x.drop 5).take (min left 227), ((numAt x 1 4 : Nat) : Int)) := if_pos h
theorem nil_iff (d : Bs) : ((bs d).toList == []) = decide (d = []) := by
  rw [show (bs d).toList = d from No.bs_list d]
  cases d <;> rfl
set_option maxRecDepth 100000 in
set_option maxHeartbeats 2000000 in
theorem partof_any (x : Bs) (left : Nat) (h0 : 0 < left) (hl : left ≤ 100000) (w : World) :
    Calls Tryz.prog 47 #[.string (bs x), .int .i64 (left : Int)] w fun e w' => e = .returned (partV (partM x left)) ∧ Below w.heap.size w w' := by
  have hz := Sp.bs_size x
  by_cases h1 : x.length = 232
  · have hs : (bs x).size = 232 := by omega
    cases hp : ([3] : Bs).isPrefixOf x with
    | false =>
      rw [part_no (by unfold good; rw [hp]; simp)]
      have HP := hid (fun w => hp_c x [3] false hp w)
      clear hz hp h1
      go_enter Tryz.func47, Tryz.ntmps47
      go_wp2_with fail
      refine (HP.out _).mono ?_
      rintro e w1 ⟨rfl, rfl⟩
      go_wp2
      go_ret3
      exact ⟨rfl, Below.refl _ _⟩
    | true =>
      have HP := hid (fun w => hp_c x [3] true hp w)
      have HU0 := fun w => Num.unfixed_any ((bs x).extract 1 5) w
      have e1 : ((bs x).extract 1 5).data.toList = (x.drop 1).take 4 := by rw [Sp.ex_mid]; rfl
      rw [e1, Sp.unfix_take x 1 4 (by decide) (by decide) (by omega)] at HU0
      have HU := hid HU0
      have hlt : numAt x 1 4 < 4294967296 := by
        have h2 := Part.numAt_lt x 1 4
        have h5 : (256 : Nat) ^ 4 = 4294967296 := by decide
        omega
      obtain ⟨q, hq⟩ : ∃ q : Nat, q = min left 227 := ⟨_, rfl⟩
      have HT0 : ∀ w, Calls Tryz.prog 66 #[.string (bs (x.drop (5 + q))), .string ⟨#[0]⟩] w fun e w' => (∃ X, e = .returned (.string (bs X)) ∧ decide (X = []) = No.blank (x.drop (5 + q))) ∧ Below w.heap.size w w' := fun w => No.trim_any (x.drop (5 + q)) w (by rw [List.length_drop]; omega)
      have HT := hid HT0
      have hD : (bs x).extract (5 + q) 232 = bs (x.drop (5 + q)) := by rw [← hs]; exact Sp.ex_drop x (5 + q)
      have hM : (bs x).extract 5 (5 + q) = bs ((x.drop 5).take q) := by rw [Sp.ex_mid]; congr 2; omega
      have hg : good x left = ((decide (left ≤ 227) == decide (numAt x 1 4 = 0)) && No.blank (x.drop (5 + q))) := by
        unfold good
        rw [hp, decide_eq_true h1, ← hq]
        simp
      have HG := hid hg
      have HPY : Hid (good x left = true → partM x left = some ((x.drop 5).take q, ((numAt x 1 4 : Nat) : Int))) := hid (fun h => by rw [part_yes h, hq])
      have HPN : Hid (good x left = false → partM x left = none) := hid part_no
      have hq2 : q ≤ 227 := by omega
      have hmn : min (left : Int) 227 = (q : Int) := by omega
      clear HU0 HT0 hg hp e1 hz h1 hq
      generalize numAt x 1 4 = m at *
      have hx : wrap64 (m : Int) = (m : Int) := by rw [Num.wrap_i]; omega
      generalize good x left = gd at *
      generalize partM x left = pm at *
      generalize x.drop (5 + q) = xt at *
      generalize hxm : (x.drop 5).take q = xm at *
      have hway : ((left : Int) ≤ 227 ∧ ((m : Int) == 0) = true ∧ (decide (left ≤ 227) == decide (m = 0)) = true) ∨ (¬ (left : Int) ≤ 227 ∧ ((m : Int) == 0) = false ∧ (decide (left ≤ 227) == decide (m = 0)) = true) ∨ ((left : Int) ≤ 227 ∧ ((m : Int) == 0) = false ∧ (decide (left ≤ 227) == decide (m = 0)) = false) ∨ (¬ (left : Int) ≤ 227 ∧ ((m : Int) == 0) = true ∧ (decide (left ≤ 227) == decide (m = 0)) = false) := by
        by_cases a : left ≤ 227 <;> by_cases b : m = 0
        · exact Or.inl ⟨by omega, by simp [b], by simp [a, b]⟩
        · exact Or.inr (Or.inr (Or.inl ⟨by omega, by simp [b], by simp [a, b]⟩))
        · exact Or.inr (Or.inr (Or.inr ⟨by omega, by simp [b], by simp [a, b]⟩))
        · exact Or.inr (Or.inl ⟨by omega, by simp [b], by simp [a, b]⟩)
      have fin2 : (decide (left ≤ 227) == decide (m = 0)) = false → pm = none := fun h => HPN.out (by rw [HG.out, h]; rfl)
      have fin0 : (decide (left ≤ 227) == decide (m = 0)) = true → No.blank xt = false → pm = none := fun h h2 => HPN.out (by rw [HG.out, h, h2]; rfl)
      have fin1 : (decide (left ≤ 227) == decide (m = 0)) = true → No.blank xt = true → pm = some (xm, (m : Int)) := fun h h2 => HPY.out (by rw [HG.out, h, h2]; rfl)
      have F0 := hid fin0
      have F1 := hid fin1
      have F2 := hid fin2
      clear fin0 fin1 fin2 HG HPY HPN
      go_enter Tryz.func47, Tryz.ntmps47
      go_wp2_with fail
      refine (HP.out _).mono ?_
      rintro e w1 ⟨rfl, rfl⟩
      go_wp2_with fail
      refine (HU.out _).mono ?_
      rintro e w1 ⟨rfl, rfl⟩
      rcases hway with ⟨a, b, c⟩ | ⟨a, b, c⟩ | ⟨a, b, c⟩ | ⟨a, b, c⟩
      · have C := hid c
        clear c
        go_wp2_with fail
        refine (HT.out _).mono ?_
        rintro e w3 ⟨⟨X, rfl, hx⟩, hb⟩
        have HB := hid hb
        have hn := nil_iff X
        rw [hx] at hn
        cases hbk : No.blank xt with
        | true =>
          have hP := F1.out C.out hbk
          subst hP
          rw [hbk] at hn
          clear hb hx hbk
          go_wp2
          go_ret3
          exact ⟨by rw [hM]; rfl, HB.out⟩
        | false =>
          have hP := F0.out C.out hbk
          subst hP
          rw [hbk] at hn
          clear hb hx hbk
          go_wp2
          go_ret3
          exact ⟨rfl, HB.out⟩
      · have C := hid c
        clear c
        go_wp2_with fail
        refine (HT.out _).mono ?_
        rintro e w3 ⟨⟨X, rfl, hx⟩, hb⟩
        have HB := hid hb
        have hn := nil_iff X
        rw [hx] at hn
        cases hbk : No.blank xt with
        | true =>
          have hP := F1.out C.out hbk
          subst hP
          rw [hbk] at hn
          clear hb hx hbk
          go_wp2
          go_ret3
          exact ⟨by rw [hM]; rfl, HB.out⟩
        | false =>
          have hP := F0.out C.out hbk
          subst hP
          rw [hbk] at hn
          clear hb hx hbk
          go_wp2
          go_ret3
          exact ⟨rfl, HB.out⟩
      · have hP := F2.out c
        subst hP
        clear c
        go_wp2
        go_ret3
        exact ⟨rfl, Below.refl _ _⟩
      · have hP := F2.out c
        subst hP
        clear c
        go_wp2
        go_ret3
        exact ⟨rfl, Below.refl _ _⟩
  · rw [part_no (by unfold good; rw [decide_eq_false h1]; rfl)]
    have hs : (((bs x).size : Int) != 232) = true := by rw [hz]; simpa using (by omega : ¬ (x.length : Int) = 232)
    clear hz
    go_enter Tryz.func47, Tryz.ntmps47
    go_wp2
    go_ret3
    exact ⟨rfl, Below.refl _ _⟩
end Ch
end Go.Proofs.YtkoglikaaehhjaaGreatDoor
