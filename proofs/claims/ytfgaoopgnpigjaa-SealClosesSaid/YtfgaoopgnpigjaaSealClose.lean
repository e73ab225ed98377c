/-
  Contracts of isWord and Close, the project's: what each call returns; the old memory stays.
-/
import Derived.Test.YtfgaoopgnpigjaaSealMath
import Derived.Test.YtfgaoopgnpigjaaMixSu
import Derived.Test.YtfgaoopgnpigjaaNumRefFixed
import Derived.Test.YtfgaoopgnpigjaaNumRefUnfixed
import Derived.Deep.QuietTactic
import Derived.BigQuiet
namespace Go.Proofs.Ytfgaoopgnpigjaa
open Go.RowKit
namespace Seal
open Num (hid fixF unfF)
open Mix (su sumN)

/-- A region that draws its order and whose calls make memory alone: one walk of the text's order, every operation quiet in the class C. -/
theorem wp_region_quiet_in {P : Program} {id : Nat} {Q : Exit → Act → World → Prop} {a : Act} {w : World} {l : List Oper} (C : World → Prop) (hm : P.follows .mixedOrders = true) (hB : Region.lexB .any l.toArray = true) (hC : C w.drew)
    (h : wpQuiet P l.toArray C (fun a' => ∀ w', C w' → Q .normal a' w') l a) : (Code.region id l.toArray true).wp P Q a w :=
  wp_region_quiet (C := C) hm hB hC (by simpa using h)

theorem cell_at {w : World} {b : Nat} {cs : Array Value} {t : TypeId} {f : Nat × Nat} (h : w.heap[b]? = some (.cells cs t f)) (j : Nat) : w.cell? ⟨b, j, none⟩ = cs[j]? := by simp [World.cell?, h]

/-- The bytes of a number, n of them; the bytes of a sector ahead of its sum; the whole: names that a walk leaves closed. -/
def fx (n k : Nat) : ByteArray := ⟨(fixF n k).toArray⟩
def bodyS (K N S : Nat) (d : ByteArray) : ByteArray := d ++ fx 4 K ++ fx 4 N ++ fx 8 S
def sealS (K N S : Nat) (d : ByteArray) : ByteArray := bodyS K N S d ++ fx 8 (su 1 (bodyS K N S d))
theorem fx_list (n k : Nat) : (fx n k).data.toList = fixF n k := rfl
theorem fx_size (n k : Nat) : (fx n k).size = n := by show (fixF n k).toArray.size = n; simp [Num.fixF_length]
theorem bodyS_list (K N S : Nat) (d : ByteArray) : (bodyS K N S d).data.toList = bodyL K N S d.data.toList := by
  unfold bodyS bodyL; simp [fx]
theorem sealS_list (K N S : Nat) (d : ByteArray) : (sealS K N S d).data.toList = sealL K N S d.data.toList := by
  have e : (sealS K N S d).data.toList = (bodyS K N S d).data.toList ++ fixF 8 (su 1 (bodyS K N S d)) := by unfold sealS; simp [fx]
  rw [e, bodyS_list]; unfold sealL su; rw [bodyS_list]
theorem bodyS_size (K N S : Nat) (d : ByteArray) : (bodyS K N S d).size = d.size + 16 := by
  unfold bodyS; simp only [ByteArray.size_append, fx_size]
theorem sealS_size (K N S : Nat) (d : ByteArray) : (sealS K N S d).size = d.size + 24 := by
  unfold sealS; simp only [ByteArray.size_append, fx_size, bodyS_size]

theorem fixed4 (n : Nat) (hn : n < 18446744073709551616) (w : World) :
    Calls Try.prog 48 #[.int .u64 n, .int .i64 4] w fun e w' => e = .returned (.string (fx 4 n)) ∧ Below w.heap.size w w' :=
  (Num.fixed_any n hn 4 w).mono fun _ _ h => h
theorem fixed8 (n : Nat) (hn : n < 18446744073709551616) (w : World) :
    Calls Try.prog 48 #[.int .u64 n, .int .i64 8] w fun e w' => e = .returned (.string (fx 8 n)) ∧ Below w.heap.size w w' :=
  (Num.fixed_any n hn 8 w).mono fun _ _ h => h
theorem rfixed4 (n : Nat) (hn : n < 18446744073709551616) (w : World) :
    Calls Try.prog 50 #[.int .u64 n, .int .i64 4] w fun e w' => e = .returned (.string (fx 4 n)) ∧ Below w.heap.size w w' :=
  (Num.rfixed_any n hn 4 w).mono fun _ _ h => h
theorem rfixed8 (n : Nat) (hn : n < 18446744073709551616) (w : World) :
    Calls Try.prog 50 #[.int .u64 n, .int .i64 8] w fun e w' => e = .returned (.string (fx 8 n)) ∧ Below w.heap.size w w' :=
  (Num.rfixed_any n hn 8 w).mono fun _ _ h => h
theorem su_lt (s : ByteArray) : su 1 s < 18446744073709551616 := Mix.su_lt 1 s (by decide)
theorem sum1 (s : ByteArray) (hs : s.size ≤ 1000000000000000) (w : World) :
    Calls Try.prog 49 #[.int .u64 1, .string s] w fun e w' => e = .returned (.int .u64 (su 1 s)) ∧ Below w.heap.size w w' := Mix.su_c 1 s (by decide) hs w
theorem rsum1 (s : ByteArray) (hs : s.size ≤ 1000000000000000) (w : World) :
    Calls Try.prog 51 #[.int .u64 1, .string s] w fun e w' => e = .returned (.int .u64 (su 1 s)) ∧ w = w' :=
  (Mix.rsum_any 1 (by decide) s hs w).mono fun _ _ h => h

/-- Whether a number has room in four bytes. -/
def wordB (n : Int) : Bool := decide (0 ≤ n ∧ n ≤ 4294967295)
theorem word_yes {n : Int} (h : 0 ≤ n ∧ n ≤ 4294967295) : wordB n = true := decide_eq_true h
theorem word_no {n : Int} (h : ¬ (0 ≤ n ∧ n ≤ 4294967295)) : wordB n = false := decide_eq_false h

theorem isWord_yes (n : Int) (h0 : 0 ≤ n) (h1 : n ≤ 4294967295) (w : World) :
    Calls Try.prog 47 #[.int .i64 n] w fun e w' => e = .returned (.bool true) ∧ w = w' := by
  go_enter Try.func47, Try.ntmps47
  go_wp2
  go_ret
  exact ⟨rfl, rfl⟩
theorem isWord_no (n : Int) (h : ¬ (0 ≤ n ∧ n ≤ 4294967295)) (w : World) :
    Calls Try.prog 47 #[.int .i64 n] w fun e w' => e = .returned (.bool false) ∧ w = w' := by
  by_cases h0 : 0 ≤ n
  · have h1 : ¬ n ≤ 4294967295 := fun h1 => h ⟨h0, h1⟩
    clear h
    go_enter Try.func47, Try.ntmps47
    go_wp2
    go_ret
    exact ⟨rfl, rfl⟩
  · clear h
    go_enter Try.func47, Try.ntmps47
    go_wp2
    go_ret
    exact ⟨rfl, rfl⟩

/-- The struct that came in, boxed; the old memory. -/
structure Cls (w : World) (K N : Int) (S : Nat) (d : ByteArray) (wx : World) : Prop where
  held : wx.heap[w.heap.size]? = some (.cells #[.int .i64 K, .int .i64 N, .int .u64 S, .string d] 24 (0, 0))
  below : Below w.heap.size w wx
theorem Cls.on {w : World} {K N : Int} {S : Nat} {d : ByteArray} {wx wy : World} (h : Cls w K N S d wx) (hb : Below wx.heap.size wx wy) : Cls w K N S d wy :=
  ⟨(hb.block _ (lt_of_block h.held)).trans h.held, h.below.trans (hb.mono h.below.size)⟩
theorem Cls.drew {w : World} {K N : Int} {S : Nat} {d : ByteArray} {wx : World} (h : Cls w K N S d wx) : Cls w K N S d wx.drew := ⟨h.held, h.below.drew⟩
theorem cls_new (w : World) (K N : Int) (S : Nat) (d : ByteArray) : Cls w K N S d (w.alloc (.cells #[.int .i64 K, .int .i64 N, .int .u64 S, .string d] 24)) :=
  ⟨heap_alloc_new _ _, (Below.refl _ _).alloc (Nat.le_refl _) _⟩

theorem u64_nat (k : Nat) (h : k < 18446744073709551616) : IntKind.u64.wrap (k : Int) = (k : Int) := by rw [Num.wrap_u]; omega

set_option maxRecDepth 100000 in
set_option maxHeartbeats 1000000 in
theorem close_yes (K N S : Nat) (hK : K < 4294967296) (hN : N < 4294967296) (hS : S < 18446744073709551616) (d : ByteArray) (hd : d.size = 232) (w : World) :
    Calls Try.prog 14 #[.agg #[.int .i64 K, .int .i64 N, .int .u64 S, .string d]] w fun e w' => e = .returned (.tuple #[.string (sealS K N S d), .int .i64 0]) ∧ Below w.heap.size w w' := by
  have hK1 : (K : Int) ≤ 4294967295 := by omega
  have hN1 : (N : Int) ≤ 4294967295 := by omega
  have hd1 : ((d.size : Int) != 232) = false := by simp; omega
  have HD := hid hd
  have hK64 := hid (u64_nat K (by omega))
  have hN64 := hid (u64_nat N (by omega))
  have HK := hid hK
  have HN := hid hN
  have HS := hid hS
  clear hd hK hN hS
  go_enter Try.func14, Try.ntmps14
  go_wp2_with fail
  refine (isWord_yes _ (by omega) hK1 _).mono ?_
  rintro e w' ⟨rfl, rfl⟩
  go_wp2_with fail
  refine (isWord_yes _ (by omega) hN1 _).mono ?_
  rintro e w' ⟨rfl, rfl⟩
  go_wp2_with fail
  have z1 : ¬ 9223372036854775807 < d.size + (fx 4 K).size := by rw [fx_size, HD.out]; decide
  have z2 : ¬ 9223372036854775807 < d.size + (fx 4 K).size + (fx 4 N).size := by rw [fx_size, fx_size, HD.out]; decide
  have z3 : ¬ 9223372036854775807 < d.size + (fx 4 K).size + (fx 4 N).size + (fx 8 S).size := by rw [fx_size, fx_size, fx_size, HD.out]; decide
  have C0 := cls_new w K N S d
  refine wp_region_quiet_in (Cls w K N S d) (by kernel_rfl) (by kernel_rfl) C0.drew ?_
  go_big_quiet_want
  go_big_quiet_op
  apply Exists.intro
  refine ⟨fun _ _ => ?_, ?_⟩
  · with_reducible exact Eq.refl _
  go_big_quiet_on
  go_big_quiet_want
  go_big_quiet_op
  refine ⟨.string d, fun wx hx => ?_, ?_⟩
  · have c : wx.cell? ⟨w.heap.size, 3, none⟩ = some (.string d) := cell_at hx.held 3
    simp [go_sem, c]
  go_big_quiet_on
  go_big_quiet_want
  go_big_quiet_op
  apply Exists.intro
  refine ⟨fun _ _ => ?_, ?_⟩
  · with_reducible exact Eq.refl _
  go_big_quiet_on
  go_big_quiet_want
  go_big_quiet_op
  refine ⟨.int .i64 K, fun wx hx => ?_, ?_⟩
  · have c : wx.cell? ⟨w.heap.size, 0, none⟩ = some (.int .i64 K) := cell_at hx.held 0
    simp [go_sem, c]
  go_big_quiet_on
  go_big_quiet_want
  go_big_quiet_op
  apply Exists.intro
  refine ⟨fun _ _ => ?_, ?_⟩
  · with_reducible exact Eq.refl _
  go_big_quiet_on
  go_big_quiet_want
  go_big_quiet_op
  refine ⟨.string (fx 4 K), fun wx hx => ?_, ?_⟩
  · refine (fixed4 K (by have := HK.out; omega) _).mono ?_
    rintro e w3 ⟨rfl, hb3⟩
    exact ⟨rfl, hx.on hb3⟩
  go_big_quiet_on
  go_big_quiet_want
  go_big_quiet_op
  apply Exists.intro
  refine ⟨fun _ _ => ?_, ?_⟩
  · with_reducible exact Eq.refl _
  go_big_quiet_on
  go_big_quiet_want
  go_big_quiet_op
  apply Exists.intro
  refine ⟨fun _ _ => ?_, ?_⟩
  · with_reducible exact Eq.refl _
  go_big_quiet_on
  go_big_quiet_want
  go_big_quiet_op
  refine ⟨.int .i64 N, fun wx hx => ?_, ?_⟩
  · have c : wx.cell? ⟨w.heap.size, 1, none⟩ = some (.int .i64 N) := cell_at hx.held 1
    simp [go_sem, c]
  go_big_quiet_on
  go_big_quiet_want
  go_big_quiet_op
  apply Exists.intro
  refine ⟨fun _ _ => ?_, ?_⟩
  · with_reducible exact Eq.refl _
  go_big_quiet_on
  go_big_quiet_want
  go_big_quiet_op
  refine ⟨.string (fx 4 N), fun wx hx => ?_, ?_⟩
  · refine (fixed4 N (by have := HN.out; omega) _).mono ?_
    rintro e w3 ⟨rfl, hb3⟩
    exact ⟨rfl, hx.on hb3⟩
  go_big_quiet_on
  go_big_quiet_want
  go_big_quiet_op
  apply Exists.intro
  refine ⟨fun _ _ => ?_, ?_⟩
  · with_reducible exact Eq.refl _
  go_big_quiet_on
  go_big_quiet_want
  go_big_quiet_op
  apply Exists.intro
  refine ⟨fun _ _ => ?_, ?_⟩
  · with_reducible exact Eq.refl _
  go_big_quiet_on
  go_big_quiet_want
  go_big_quiet_op
  refine ⟨.int .u64 S, fun wx hx => ?_, ?_⟩
  · have c : wx.cell? ⟨w.heap.size, 2, none⟩ = some (.int .u64 S) := cell_at hx.held 2
    simp [go_sem, c]
  go_big_quiet_on
  go_big_quiet_want
  go_big_quiet_op
  refine ⟨.string (fx 8 S), fun wx hx => ?_, ?_⟩
  · refine (fixed8 S HS.out _).mono ?_
    rintro e w3 ⟨rfl, hb3⟩
    exact ⟨rfl, hx.on hb3⟩
  go_big_quiet_on
  go_big_quiet_want
  go_big_quiet_op
  apply Exists.intro
  refine ⟨fun _ _ => ?_, ?_⟩
  · with_reducible exact Eq.refl _
  go_big_quiet_on
  go_big_quiet_want
  go_big_quiet_op
  go_big_quiet_on
  refine wpQuiet_nil ?_
  intro w2 C2
  have B := C2.below
  clear C2 C0
  have hb : (bodyS K N S d).size ≤ 1000000000000000 := by rw [bodyS_size, HD.out]; decide
  have z4 : ¬ 9223372036854775807 < (bodyS K N S d).size + (fx 8 (su 1 (bodyS K N S d))).size := by rw [bodyS_size, fx_size, HD.out]; decide
  have hsu := hid (su_lt (bodyS K N S d))
  have eb : d ++ fx 4 K ++ fx 4 N ++ fx 8 S = bodyS K N S d := rfl
  rw [eb]
  clear z1 z2 z3
  go_wp2_with fail
  refine (sum1 _ hb _).mono ?_
  rintro e w3 ⟨rfl, hb3⟩
  go_wp2_with fail
  refine (fixed8 _ hsu.out _).mono ?_
  rintro e w4 ⟨rfl, hb4⟩
  go_wp2
  go_ret2
  exact ⟨rfl, (B.trans (hb3.mono B.size)).trans (hb4.mono (Nat.le_trans B.size hb3.size))⟩

/-- Whether a sector can be of these; what Close answers, and its error: names that a walk leaves closed. -/
def fitB (K N : Int) (d : ByteArray) : Bool := decide ((0 ≤ K ∧ K ≤ 4294967295) ∧ (0 ≤ N ∧ N ≤ 4294967295) ∧ d.size = 232)
def closeS (K N : Int) (S : Nat) (d : ByteArray) : ByteArray := if fitB K N d then sealS K.toNat N.toNat S d else ⟨#[]⟩
def closeE (K N : Int) (d : ByteArray) : Int := if fitB K N d then 0 else 1
theorem fit_not {K N : Int} {d : ByteArray} (h : ¬ ((0 ≤ K ∧ K ≤ 4294967295) ∧ (0 ≤ N ∧ N ≤ 4294967295) ∧ d.size = 232)) (S : Nat) : closeS K N S d = ⟨#[]⟩ ∧ closeE K N d = 1 := by
  have e : fitB K N d = false := decide_eq_false h
  unfold closeS closeE
  rw [e]
  exact ⟨rfl, rfl⟩
theorem fit_is (K N S : Nat) (d : ByteArray) (hK : K < 4294967296) (hN : N < 4294967296) (hd : d.size = 232) : closeS K N S d = sealS K N S d ∧ closeE K N d = 0 := by
  have e : fitB K N d = true := decide_eq_true ⟨⟨by omega, by omega⟩, ⟨by omega, by omega⟩, hd⟩
  unfold closeS closeE
  rw [e]
  exact ⟨rfl, rfl⟩

set_option maxRecDepth 100000 in
set_option maxHeartbeats 1000000 in
theorem close_no (K N : Int) (S : Nat) (d : ByteArray) (h : ¬ ((0 ≤ K ∧ K ≤ 4294967295) ∧ (0 ≤ N ∧ N ≤ 4294967295) ∧ d.size = 232)) (w : World) :
    Calls Try.prog 14 #[.agg #[.int .i64 K, .int .i64 N, .int .u64 S, .string d]] w fun e w' => e = .returned (.tuple #[.string ⟨#[]⟩, .int .i64 1]) ∧ Below w.heap.size w w' := by
  by_cases hK : 0 ≤ K ∧ K ≤ 4294967295
  · have HK := hid hK
    by_cases hN : 0 ≤ N ∧ N ≤ 4294967295
    · have hd : ((d.size : Int) != 232) = true := by simp; omega
      have HN := hid hN
      clear h hK hN
      go_enter Try.func14, Try.ntmps14
      go_wp2_with fail
      refine (isWord_yes _ HK.out.1 HK.out.2 _).mono ?_
      rintro e w' ⟨rfl, rfl⟩
      go_wp2_with fail
      refine (isWord_yes _ HN.out.1 HN.out.2 _).mono ?_
      rintro e w' ⟨rfl, rfl⟩
      go_wp2
      go_ret2
      exact ⟨rfl, (Below.refl _ _).alloc (Nat.le_refl _) _⟩
    · have HN := hid hN
      clear h hK hN
      go_enter Try.func14, Try.ntmps14
      go_wp2_with fail
      refine (isWord_yes _ HK.out.1 HK.out.2 _).mono ?_
      rintro e w' ⟨rfl, rfl⟩
      go_wp2_with fail
      refine (isWord_no _ HN.out _).mono ?_
      rintro e w' ⟨rfl, rfl⟩
      go_wp2
      go_ret2
      exact ⟨rfl, (Below.refl _ _).alloc (Nat.le_refl _) _⟩
  · have HK := hid hK
    clear h hK
    go_enter Try.func14, Try.ntmps14
    go_wp2_with fail
    refine (isWord_no _ HK.out _).mono ?_
    rintro e w' ⟨rfl, rfl⟩
    go_wp2
    go_ret2
    exact ⟨rfl, (Below.refl _ _).alloc (Nat.le_refl _) _⟩

theorem close_any (K N : Int) (S : Nat) (hS : S < 18446744073709551616) (d : ByteArray) (w : World) :
    Calls Try.prog 14 #[.agg #[.int .i64 K, .int .i64 N, .int .u64 S, .string d]] w fun e w' => e = .returned (.tuple #[.string (closeS K N S d), .int .i64 (closeE K N d)]) ∧ Below w.heap.size w w' := by
  by_cases h : (0 ≤ K ∧ K ≤ 4294967295) ∧ (0 ≤ N ∧ N ≤ 4294967295) ∧ d.size = 232
  · obtain ⟨k, rfl⟩ := Int.eq_ofNat_of_zero_le h.1.1
    obtain ⟨n, rfl⟩ := Int.eq_ofNat_of_zero_le h.2.1.1
    obtain ⟨e1, e2⟩ := fit_is k n S d (by omega) (by omega) h.2.2
    rw [e1, e2]
    exact close_yes k n S (by omega) (by omega) hS d h.2.2 w
  · obtain ⟨e1, e2⟩ := fit_not h S
    rw [e1, e2]
    exact close_no K N S d h w

end Seal
end Go.Proofs.Ytfgaoopgnpigjaa
