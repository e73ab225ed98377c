/-
  Contracts of the project's log: top, place, sealed, sum, take, Len, Sync.
-/
import Derived.Test.YtgmbiiocjhkpdaaGreatLogPMem
import Derived.Test.YtgmbiiocjhkpdaaGreatLogShelf
import Derived.Test.YtgmbiiocjhkpdaaGreatGrpJSea
import Derived.Test.YtgmbiiocjhkpdaaGreatQuietTail
import Derived.Shelf.Strings.OnBuilder
import Derived.Shelf.Strings.BuilderK
import Derived.BigQuiet
import Derived.Deep.Cut
import Derived.Deep.RegionLaw
namespace Go.Proofs.YtgmbiiocjhkpdaaGreat
open Go.RowKit Go.Shelf
namespace Lo
open Num (hid)
open Jo (okB kK kN kS kD okB_iff)
open Disk (Mod Fil Sees Stays)
open Seal (zerosS zerosS_size zerosL sealS sealS_list sealS_size close_yes sumOf sum_any open_any open_says open_seal open_size openV openE saysV zeroV)
open Mem (Bs bs tI Chg ptr blk_cell blk_free blk_new blk_set blk_other blk_alloc row_kept row_shape row_type append_from step_append_run wpList_append_run)
variable {O O' : Nat → Prop} {d m j b : Nat} {f f' : Value} {M M' : Mod} {fs fs' : List Fr} {w w' : World}
abbrev tSl : TypeId := 55
theorem bs_of (s : ByteArray) : bs s.data.toList = s := by apply ByteArray.ext; simp [bs]
theorem bs_list (l : Bs) : (bs l).data.toList = l := rfl
theorem bs_len {l : Bs} {n : Nat} (h : l.length = n) : (bs l).size = n := by show l.toArray.size = n; simpa using h
theorem bs_take (l : Bs) (n : Nat) : (bs l).extract 0 n = bs (l.take n) := by
  apply ByteArray.ext
  simp [bs, ByteArray.data_extract]
theorem seal_bs (K N S : Nat) (l : Bs) : sealS K N S (bs l) = bs (Seal.sealL K N S l) := by
  rw [← bs_of (sealS K N S (bs l)), sealS_list, bs_list]
theorem extraL : Builder.Extra Tryz.prog Tryz.repeatH_ren where
  sizeBuilder := by kernel_rfl
  liesBuilder := by kernel_rfl
  t5 := Tryz.repeatH.t5
  a5 := Tryz.repeatH.a5
  z5 := Tryz.repeatH.z5
  v5 := Tryz.repeatH.v5
  infoByte := by kernel_rfl
  cellsByte := by kernel_rfl
  sizeByte := by kernel_rfl
  neB5 := by decide
theorem repeat_isL : Tryz.repeatH_ren.f 105 = 96 := by kernel_rfl
def z232 : Bs := List.replicate 232 0
theorem z232_len : z232.length = 232 := by unfold z232; rw [List.length_replicate]
theorem repeat_232 (w : World) :
    Calls Tryz.prog 96 #[.string ⟨#[0]⟩, .int .i64 232] w fun e w' => e = .returned (.string (bs z232)) ∧ Below w.heap.size w w' := by
  have h := Any.strings_Repeat Tryz.repeatH extraL ⟨#[0]⟩ 232 w (by omega) (by show 1 * 232 ≤ _; omega)
  rw [repeat_isL] at h
  have e : Lib.repeatL (⟨#[0]⟩ : ByteArray).data.toList 232 = z232 := by
    have := Lib.repeatL_replicate 0 1 232
    rw [Nat.mul_one] at this
    exact this
  rw [e] at h
  exact h
/-- A sealed sector ahead of its closing. -/
def slV (K N S : Nat) (l : Bs) : Value := .agg #[.int .i64 (K : Nat), .int .i64 (N : Nat), .int .u64 (S : Nat), .string (bs l)]
theorem close_bs (K N S : Nat) (hK : K < 4294967296) (hN : N < 4294967296) (hS : S < 18446744073709551616) (l : Bs) (hd : l.length = 232) (w : World) :
    Calls Tryz.prog 58 #[slV K N S l] w fun e w' => e = .returned (.tuple #[.string (bs (Seal.sealL K N S l)), .int .i64 0]) ∧ Below w.heap.size w w' := by
  have h := close_yes K N S hK hN hS (bs l) (bs_len hd) w
  rw [seal_bs] at h
  exact h
theorem top_bs (w : World) :
    Calls Tryz.prog 58 #[.agg #[.int .i64 4, .int .i64 1, .int .u64 0, .string (bs z232)]] w fun e w' => e = .returned (.tuple #[.string (bs topL), .int .i64 0]) ∧ Below w.heap.size w w' := close_bs 4 1 0 (by decide) (by decide) (by decide) z232 z232_len w
theorem topL_len : topL.length = 256 := by unfold topL; rw [Seal.seal_len, List.length_replicate]
theorem sum_bs {s : Bs} (h : s.length = 256) (w : World) : Calls Tryz.prog 63 #[.string (bs s)] w fun e w' => e = .returned (.int .u64 (sumL s : Nat)) ∧ w = w' := by
  have := sum_any (bs s) w
  rw [Seal.sumOf_yes (bs_len h)] at this
  exact this
theorem sumL_lt (s : Bs) : sumL s < 18446744073709551616 := Seal.numAt_lt s 248 8
theorem kD_len {l : Bs} (h : okB l = true) : (kD l).length = 232 := by
  have := (okB_iff.1 h).1
  unfold kD
  rw [List.length_take]; omega
theorem open_ok {l : Bs} (h : okB l = true) (w : World) : Calls Tryz.prog 68 #[.string (bs l)] w fun e w' => e = .returned (.tuple #[slV (kK l) (kN l) (kS l) (kD l), .int .i64 0]) ∧ Below w.heap.size w w' := by
  have ho := open_any (bs l) w
  obtain ⟨h1, h2⟩ := okB_iff.1 h
  have hs : (bs l).size = 256 := bs_len h1
  obtain ⟨e1, e2⟩ := open_says hs (show Seal.right (bs l).data.toList from h2)
  rw [e1, e2] at ho
  have e3 : saysV (bs l) = slV (kK l) (kN l) (kS l) (kD l) := by
    unfold saysV slV kD
    rw [bs_take]
    rfl
  rw [e3] at ho
  exact ho
theorem oErr_ne (l : Bs) : oErr l ≠ 0 := by unfold oErr; split <;> decide
theorem open_not {l : Bs} (h : okB l = false) (w : World) : Calls Tryz.prog 68 #[.string (bs l)] w fun e w' => e = .returned (.tuple #[slV 0 0 0 [], .int .i64 (oErr l)]) ∧ Below w.heap.size w w' := by
  have ho := open_any (bs l) w
  have hz : zeroV = slV 0 0 0 [] := rfl
  unfold oErr
  by_cases h1 : l.length = 256
  · have hs : (bs l).size = 256 := bs_len h1
    have hr : ¬ Seal.right (bs l).data.toList := fun e => by rw [okB_iff.2 ⟨h1, e⟩] at h; cases h
    obtain ⟨e1, e2⟩ := open_seal hs hr
    rw [e1, e2, hz] at ho
    rw [if_pos h1]
    exact ho
  · have hs : ¬ (bs l).size = 256 := fun e => h1 (by have : l.toArray.size = 256 := e; simpa using this)
    obtain ⟨e1, e2⟩ := open_size hs
    rw [e1, e2, hz] at ho
    rw [if_neg h1]
    exact ho

set_option maxRecDepth 100000 in
set_option maxHeartbeats 1000000 in
theorem top_any (w : World) : Calls Tryz.prog 57 #[] w fun e w' => e = .returned (.string (bs topL)) ∧ Below w.heap.size w w' := by
  have HC : Hid (∀ w, Calls Tryz.prog 58 #[.agg #[.int .i64 4, .int .i64 1, .int .u64 0, .string (bs z232)]] w fun e w' => e = .returned (.tuple #[.string (bs topL), .int .i64 0]) ∧ Below w.heap.size w w') := hid top_bs
  have HR : Hid (∀ w, Calls Tryz.prog 96 #[.string ⟨#[0]⟩, .int .i64 232] w fun e w' => e = .returned (.string (bs z232)) ∧ Below w.heap.size w w') := hid repeat_232
  generalize bs z232 = Z at *
  generalize bs topL = T at *
  go_enter Tryz.func57, Tryz.ntmps57
  go_wp2_with fail
  refine (HR.out _).mono ?_
  rintro e w1 ⟨rfl, hb1⟩
  have HB1 := hid hb1
  clear hb1
  go_wp2_with fail
  refine (HC.out _).mono ?_
  rintro e w2 ⟨rfl, hb2⟩
  have HB2 : Hid (Below w.heap.size w w2) := hid (HB1.out.trans (hb2.mono HB1.out.size))
  clear hb2
  go_wp2
  go_ret
  exact ⟨rfl, HB2.out⟩
set_option maxRecDepth 100000 in
theorem place_any (i : Nat) (hi : i ≤ 1000000) (w : World) : Calls Tryz.prog 61 #[.int .i64 (i : Nat)] w fun e w' => e = .returned (.int .i64 (i + 1 : Nat)) ∧ w = w' := by
  go_enter Tryz.func61, Tryz.ntmps61
  go_wp2
  go_ret
  exact ⟨rfl, rfl⟩
def kindOf (c : Bool) : Nat := if c then 6 else 5
theorem kindOf_lt (c : Bool) : kindOf c < 4294967296 := by cases c <;> decide
set_option maxRecDepth 100000 in
set_option maxHeartbeats 1000000 in
theorem sealed_any (n S : Nat) (l : Bs) (c : Bool) (w : World) : Calls Tryz.prog 59 #[.int .i64 (n : Nat), .string (bs l), .bool c, .int .u64 (S : Nat)] w fun e w' => e = .returned (slV (kindOf c) n S l) ∧ Below w.heap.size w w' := by
  unfold slV
  generalize bs l = D at *
  cases c
  · go_enter Tryz.func59, Tryz.ntmps59
    go_wp2
    exact bodyPost_ret (v := .agg #[.int .i64 (kindOf false : Nat), .int .i64 (n : Nat), .int .u64 (S : Nat), .string D]) (by simp [results, kindOf, go_sem]) rfl ⟨rfl, (Below.refl _ _).alloc (Nat.le_refl _) _⟩
  · go_enter Tryz.func59, Tryz.ntmps59
    go_wp2
    exact bodyPost_ret (v := .agg #[.int .i64 (kindOf true : Nat), .int .i64 (n : Nat), .int .u64 (S : Nat), .string D]) (by simp [results, kindOf, go_sem]) rfl ⟨rfl, (Below.refl _ _).alloc (Nat.le_refl _) _⟩
theorem below_dN {B : Nat} {a w : World} (h : Below B a w) (n : Nat) : Below B a (w.drewN n) := ⟨h.os, h.tape, h.output, h.size, h.block⟩
theorem sumP_last {fs : List Fr} (h : 0 < fs.length) : sumP fs = (fs[fs.length - 1]'(by omega)).2 := by
  rcases List.eq_nil_or_concat fs with rfl | ⟨r, x, rfl⟩
  · simp at h
  · simp only [List.concat_eq_append]
    rw [sumP_snoc]
    simp
set_option maxRecDepth 100000 in
set_option maxHeartbeats 1000000 in
theorem sum_any_ (h : PL O d m j b f M fs w) : Calls Tryz.prog 60 #[ptr j] w fun e w' => e = .returned (.int .u64 (sumP fs : Nat)) ∧ Below w.heap.size w w' := by
  obtain ⟨ao, cap, rfl⟩ := h.shape
  have c1 := h.c1
  have hfew := h.few
  by_cases h0 : fs.length = 0
  · have e : sumP fs = sumL topL := by rw [List.eq_nil_of_length_eq_zero h0]; rfl
    have HE := hid e
    have HS := hid (fun w => sum_bs topL_len w)
    have HT := hid top_any
    rw [h0] at c1
    generalize bs topL = T at *
    clear h e hfew h0
    go_enter Tryz.func60, Tryz.ntmps60
    go_wp2_with fail
    refine (HT.out _).mono ?_
    rintro e w1 ⟨rfl, hb1⟩
    have HB := hid hb1
    clear hb1
    go_wp2_with fail
    refine (HS.out _).mono ?_
    rintro e w2 ⟨rfl, rfl⟩
    go_wp2
    go_ret
    rw [HE.out]
    exact ⟨rfl, HB.out⟩
  · obtain ⟨k, hk⟩ : ∃ k, fs.length = k + 1 := ⟨fs.length - 1, by omega⟩
    obtain ⟨g, rfl, hg, hc, q0, q1⟩ := fr_at h.row k (by omega)
    have e : sumP fs = (fs[k]'(by omega)).2 := by
      rw [sumP_last (by omega)]
      congr 2
      omega
    rw [← e] at q1
    have hw1 : wrap64 (((k + 1 : Nat) : Int) - 1) = (k : Int) := by rw [Num.wrap_i]; omega
    have hne : (((k + 1 : Nat) : Int) == 0) = false := by simp; omega
    have hlt : (k : Int) < ((k + 1 : Nat) : Int) := by omega
    rw [hk] at c1 hfew
    generalize sumP fs = S at *
    clear h e q0 hk h0
    go_enter Tryz.func60, Tryz.ntmps60
    go_upto_region 3 with fail
    go_quiet (fail)
    go_wp2
    go_ret
    exact ⟨rfl, below_dN (Below.refl _ _) _⟩
end Lo
end Go.Proofs.YtgmbiiocjhkpdaaGreat
