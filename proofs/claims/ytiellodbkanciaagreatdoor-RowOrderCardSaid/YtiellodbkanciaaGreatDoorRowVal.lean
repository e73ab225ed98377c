/-
  Contract of the reader's value.
-/
import Derived.Test.YtiellodbkanciaaGreatDoorRowRead
namespace Go.Proofs.YtiellodbkanciaaGreatDoor
open Go.RowKit
namespace Ro
open Va
open Num (hid unvL unfoldI)
theorem Bx.one {b g : Nat} {K N : Int} {S : ByteArray} {w w' : World} (h : Bx g K N S w) (ho : One b w w') (hne : g ≠ b) : Bx g K N S w' := (ho.block g (lt_of_block h) hne).trans h
theorem One.high {b : Nat} {w0 w : World} (h : One b w0 w) {g : Nat} (hg : w0.heap.size ≤ g) (j : Nat) (u : Value) : One b w0 (w.setCell ⟨g, j, none⟩ u) :=
  ⟨h.os, h.tape, h.output, by simpa [World.setCell] using h.size, fun k hk hb => (Below.heap_setCell _ _ _ _ (by show k ≠ g; omega)).trans (h.block k hk hb)⟩
theorem One.alloc {b : Nat} {w0 w : World} (h : One b w0 w) (o : Obj) : One b w0 (w.alloc o) := h.trans (One.of_below ((Below.refl _ _).alloc (Nat.le_refl _) o))
theorem Rd.other {b : Nat} {S : Bs} {e : Int} {w : World} (h : Rd b S e w) {g : Nat} (hg : g ≠ b) (j : Nat) (u : Value) : Rd b S e (w.setCell ⟨g, j, none⟩ u) := (Below.heap_setCell _ _ _ _ (by show b ≠ g; omega)).trans h
theorem Rd.alloc {b : Nat} {S : Bs} {e : Int} {w : World} (h : Rd b S e w) (o : Obj) : Rd b S e (w.alloc o) := h.on ((Below.refl _ _).alloc (Nat.le_refl _) o)
theorem Bx.put {g : Nat} {K N : Int} {S : ByteArray} {w : World} (h : Bx g K N S w) (K' N' : Int) (S' : ByteArray) : Bx g K' N' S' (((w.setCell ⟨g, 0, none⟩ (.int .i64 K')).setCell ⟨g, 1, none⟩ (.int .i64 N')).setCell ⟨g, 2, none⟩ (.string S')) := by
  unfold Bx at h ⊢
  simp [World.setCell, Array.getElem?_modify, h]
/-- The answer's block behind the last store, and the block made ahead of it. -/
theorem Bx.done {g : Nat} {K N : Int} {S : ByteArray} {w : World} (h : Bx g K N S w) (K' N' : Int) (S' : ByteArray) (o : Obj) : Bx g K' N' S' ((((w.setCell ⟨g, 0, none⟩ (.int .i64 K')).setCell ⟨g, 1, none⟩ (.int .i64 N')).setCell ⟨g, 2, none⟩ (.string S')).alloc o) :=
  Va.Bx.on (Bx.put h K' N' S') ((Below.refl _ _).alloc (Nat.le_refl _) o)
/-- What value gives. -/
def Gives (b : Nat) (x : Dv) (w w' : World) (e : Ending) : Prop := ∃ v : V, e = .returned (.agg #[.int .i64 v.K, .int .i64 v.N, .string v.S]) ∧ (match x with
  | .ok v' t => v = v' ∧ Rd b t 0 w'
  | .no q => q ≠ 0 ∧ ∃ T : Bs, Rd b T q w') ∧ One b w w'
theorem unfold_n {n : Nat} (h : n < 18446744073709551616) (w : World) : Calls Tryz.prog 128 #[.int .u64 (n : Nat)] w fun e w' => e = .returned (.int .i64 (unfoldI n)) ∧ w = w' := Num.unfold_any n (by omega) (by omega) w
def valR (K N : Int) (S : ByteArray) : Value := .agg #[.int .i64 K, .int .i64 N, .string S]
theorem kind_ways (S : Bs) : ((kindT S).v = 0 ∧ ((kindT S).e = 0 ∧ decV S = .ok ⟨0, 0, bs []⟩ (kindT S).s ∨ (kindT S).e ≠ 0 ∧ decV S = .no (kindT S).e)) ∨
    (∃ k : UInt8, ((kindT S).v = 1 ∨ (kindT S).v = 2 ∨ (kindT S).v = 3) ∧ (kindT S).e = 0 ∧ (kindT S).v = k.toNat ∧ S = k :: (kindT S).s) := by
  match S with
  | [] => exact Or.inl ⟨rfl, Or.inr ⟨(by decide : (3 : Int) ≠ 0), rfl⟩⟩
  | k :: l =>
    rw [kindT_cons, decV_cons]
    by_cases h3 : 3 < k.toNat
    · rw [if_pos h3, if_pos h3]
      exact Or.inl ⟨rfl, Or.inr ⟨(by decide : (4 : Int) ≠ 0), rfl⟩⟩
    · rw [if_neg h3, if_neg h3]
      by_cases h0 : k.toNat = 0
      · rw [if_pos h0]
        exact Or.inl ⟨h0, Or.inl ⟨rfl, rfl⟩⟩
      · exact Or.inr ⟨k, by show k.toNat = 1 ∨ k.toNat = 2 ∨ k.toNat = 3; omega, rfl, rfl, rfl⟩
set_option maxRecDepth 100000 in
set_option maxHeartbeats 2000000 in
theorem value_none (b : Nat) (S S1 : Bs) (e0 e1 : Int) (w : World) (h : Rd b S e0 w) (hk : Calls Tryz.prog 127 #[ptr b] (w.alloc (.cells #[.int .i64 0, .int .i64 0, .string ⟨#[]⟩] tV)) fun e w' => e = .returned (.int .i64 0) ∧ Rd b S1 e1 w' ∧ One b (w.alloc (.cells #[.int .i64 0, .int .i64 0, .string ⟨#[]⟩] tV)) w') :
    Calls Tryz.prog 78 #[ptr b] w fun e w' => e = .returned (valR 0 0 (bs [])) ∧ Rd b S1 e1 w' ∧ One b w w' := by
  have HK := hid hk
  have hbl := h.lt
  have R0 := hid (Bx.new 0 0 ⟨#[]⟩ w)
  have O0 := hid ((One.refl b w).alloc (.cells #[.int .i64 0, .int .i64 0, .string ⟨#[]⟩] tV))
  clear h hk
  go_enter Tryz.func78, Tryz.ntmps78
  go_wp2_with fail
  refine HK.out.mono ?_
  rintro e w1 ⟨rfl, hr, ho⟩
  have R1 := Bx.one R0.out ho (by omega)
  obtain ⟨r0, r1, r2⟩ := R1.cells
  obtain ⟨f0, f1, f2⟩ := R1.free
  have hl1 := lt_of_block R1
  obtain ⟨u0, u1, u2⟩ := (Bx.done R1 0 0 (bs []) (.cells #[.int .i64 0, .int .i64 0, .string ⟨#[]⟩] tV)).cells
  have HR := hid hr
  have HO := hid (O0.out.trans ho)
  clear hr ho R1
  go_wp2
  exact bodyPost_ret (v := valR 0 0 (bs [])) (by simp [results, valR, bs, go_sem] at u0 u1 u2 ⊢; simp [u0, u1, u2, go_sem]) rfl ⟨rfl, by
    repeat (first | exact HR.out | refine Rd.other ?_ (by omega) _ _ | refine Rd.alloc ?_ _), by
    repeat (first | exact HO.out | refine One.high ?_ (Nat.le_refl _) _ _ | refine One.alloc ?_ _)⟩
theorem Bx.other {g : Nat} {K N : Int} {S : ByteArray} {w : World} (h : Bx g K N S w) {g' : Nat} (hg : g' ≠ g) (j : Nat) (u : Value) : Bx g K N S (w.setCell ⟨g', j, none⟩ u) := (Below.heap_setCell _ _ _ _ (by show g ≠ g'; omega)).trans h
theorem Bx.setN {g : Nat} {K N : Int} {S : ByteArray} {w : World} (h : Bx g K N S w) (N' : Int) : Bx g K N' S (w.setCell ⟨g, 1, none⟩ (.int .i64 N')) := by
  unfold Bx at h ⊢
  simp [World.setCell, Array.getElem?_modify, h]
theorem Bx.setS {g : Nat} {K N : Int} {S : ByteArray} {w : World} (h : Bx g K N S w) (S' : ByteArray) : Bx g K N S' (w.setCell ⟨g, 2, none⟩ (.string S')) := by
  unfold Bx at h ⊢
  simp [World.setCell, Array.getElem?_modify, h]
set_option maxRecDepth 100000 in
set_option maxHeartbeats 2000000 in
theorem value_int (b : Nat) (S S1 : Bs) (e0 : Int) (hS : S1.length ≤ 281474976710656) (w : World) (h : Rd b S e0 w) (hk : Calls Tryz.prog 127 #[ptr b] (w.alloc (.cells #[.int .i64 0, .int .i64 0, .string ⟨#[]⟩] tV)) fun e w' => e = .returned (.int .i64 1) ∧ Rd b S1 0 w' ∧ One b (w.alloc (.cells #[.int .i64 0, .int .i64 0, .string ⟨#[]⟩] tV)) w') :
    Calls Tryz.prog 78 #[ptr b] w fun e w' => e = .returned (valR 1 (unfoldI (unvL 0 0 S1).1) (bs [])) ∧ Rd b (S1.drop (unvL 0 0 S1).2.1) (unvL 0 0 S1).2.2 w' ∧ One b w w' := by
  have HK := hid hk
  have hbl := h.lt
  have R0 := hid (Bx.new 0 0 ⟨#[]⟩ w)
  have O0 := hid ((One.refl b w).alloc (.cells #[.int .i64 0, .int .i64 0, .string ⟨#[]⟩] tV))
  have HNL := hid (fun w h => number_live b S1 hS w h)
  have hun := (Num.unv_lt S1).1
  generalize unvL 0 0 S1 = u at *
  obtain ⟨n, k, q⟩ := u
  simp only at HNL hun ⊢
  obtain ⟨N, hN⟩ : ∃ N, unfoldI n = N := ⟨_, rfl⟩
  have HU := hid (fun w => unfold_n hun w)
  rw [hN] at HU ⊢
  clear h hk hN
  go_enter Tryz.func78, Tryz.ntmps78
  go_wp2_with fail
  refine HK.out.mono ?_
  rintro e w1 ⟨rfl, hr, ho⟩
  have R1 := hid (Bx.one R0.out ho (by omega))
  have hl1 := lt_of_block R1.out
  have HR1 := hid (hr.alloc (.cells #[.int .i64 1, .int .i64 0, .string ⟨#[]⟩] tV))
  have HO1 := hid ((O0.out.trans ho).alloc (.cells #[.int .i64 1, .int .i64 0, .string ⟨#[]⟩] tV))
  have R2 := hid (Va.Bx.on R1.out ((Below.refl _ _).alloc (Nat.le_refl _) (.cells #[.int .i64 1, .int .i64 0, .string ⟨#[]⟩] tV)))
  have T2 := hid (Bx.new 1 0 ⟨#[]⟩ w1)
  have hb1 : b < w1.heap.size := hr.lt
  clear hr ho R1
  go_wp2_with fail
  refine (HNL.out _ HR1.out).mono ?_
  rintro e w2 ⟨rfl, hr, ho⟩
  have R3 := hid (Bx.one R2.out ho (by omega))
  have T3 := hid (Bx.one T2.out ho (by omega))
  have HR2 := hid hr
  have HO2 := hid (HO1.out.trans ho)
  have hl2 := lt_of_block R3.out
  have hl3 := lt_of_block T3.out
  clear hr ho R2 T2
  go_wp2_with fail
  refine (HU.out _).mono ?_
  rintro e w3 ⟨rfl, rfl⟩
  obtain ⟨t0, t1, t2⟩ := T3.out.cells
  obtain ⟨tf0, tf1, tf2⟩ := T3.out.free
  obtain ⟨r0, r1, r2⟩ := R3.out.cells
  obtain ⟨f0, f1, f2⟩ := R3.out.free
  have hne : ¬ w1.heap.size = w.heap.size := by omega
  have hne2 : ¬ w.heap.size = w1.heap.size := by omega
  have U := hid (Bx.put (Bx.other R3.out (by omega : w1.heap.size ≠ w.heap.size) 1 (.int .i64 N)) 1 N (bs [])).cells
  have HR3 := hid (((HR2.out.other (by omega : w1.heap.size ≠ b) 1 (.int .i64 N)).other (by omega : w.heap.size ≠ b) 0 (.int .i64 1)).other (by omega : w.heap.size ≠ b) 1 (.int .i64 N) |>.other (by omega : w.heap.size ≠ b) 2 (.string (bs [])))
  have HO3 := hid ((((HO2.out.high (by omega : w.heap.size ≤ w1.heap.size) 1 (.int .i64 N)).high (Nat.le_refl _) 0 (.int .i64 1)).high (Nat.le_refl _) 1 (.int .i64 N)).high (Nat.le_refl _) 2 (.string (bs [])))
  go_wp2
  obtain ⟨u0, u1, u2⟩ := U.out
  exact bodyPost_ret (v := valR 1 N (bs [])) (by simp [results, valR, bs, go_sem] at u0 u1 u2 ⊢; simp [u0, u1, u2, go_sem]) rfl ⟨rfl, HR3.out, HO3.out⟩
def strT (S1 : Bs) : Tk Bs := if (upT S1 2000).e = 0 then bytT (upT S1 2000).s (upT S1 2000).v else ⟨[], (upT S1 2000).s, (upT S1 2000).e⟩
/-- What is left behind the number is not longer. -/
theorem upT_len (S : Bs) (m : Nat) : (upT S m).s.length ≤ S.length := by
  unfold upT
  split
  · exact Nat.le_refl _
  · split
    · show (S.drop _).length ≤ _; rw [List.length_drop]; omega
    · show (S.drop _).length ≤ _; rw [List.length_drop]; omega
set_option maxRecDepth 100000 in
set_option maxHeartbeats 2000000 in
theorem value_str2 (b : Nat) (S S1 : Bs) (e0 : Int) (hS : S1.length ≤ 281474976710656) (w : World) (h : Rd b S e0 w) (hk : Calls Tryz.prog 127 #[ptr b] (w.alloc (.cells #[.int .i64 0, .int .i64 0, .string ⟨#[]⟩] tV)) fun e w' => e = .returned (.int .i64 2) ∧ Rd b S1 0 w' ∧ One b (w.alloc (.cells #[.int .i64 0, .int .i64 0, .string ⟨#[]⟩] tV)) w') :
    Calls Tryz.prog 78 #[ptr b] w fun e w' => e = .returned (valR 2 0 (bs (strT S1).v)) ∧ Rd b (strT S1).s (strT S1).e w' ∧ One b w w' := by
  have HK := hid hk
  have hbl := h.lt
  have R0 := hid (Bx.new 0 0 ⟨#[]⟩ w)
  have O0 := hid ((One.refl b w).alloc (.cells #[.int .i64 0, .int .i64 0, .string ⟨#[]⟩] tV))
  have HUP : Hid (∀ w, Rd b S1 0 w → Calls Tryz.prog 77 #[ptr b, .int .u64 2000] w fun e w' => e = .returned (.int .i64 ((upT S1 2000).v : Nat)) ∧ Rd b (upT S1 2000).s (upT S1 2000).e w' ∧ One b w w') := hid (fun w h => upto_live b 2000 (Nat.le_refl _) S1 hS w h)
  have hlen := upT_len S1 2000
  unfold strT
  generalize upT S1 2000 = u at *
  obtain ⟨n, T, q⟩ := u
  simp only at HUP hlen ⊢
  have HBY : Hid (∀ w, Rd b T q w → Calls Tryz.prog 129 #[ptr b, .int .i64 (n : Nat)] w fun e w' => e = .returned (.string (bs (if q = 0 then bytT T n else ⟨[], T, q⟩).v)) ∧ Rd b (if q = 0 then bytT T n else ⟨[], T, q⟩).s (if q = 0 then bytT T n else ⟨[], T, q⟩).e w' ∧ One b w w') := hid (by
    intro w hw
    by_cases hq : q = 0
    · subst hq
      rw [if_pos rfl]
      exact bytes_live b n T (by omega) w hw
    · rw [if_neg hq]
      refine (bytes_dead b n T q hq w hw).mono ?_
      rintro e w' ⟨rfl, rfl⟩
      exact ⟨rfl, hw, One.refl _ _⟩)
  generalize (if q = 0 then bytT T n else ⟨[], T, q⟩ : Tk Bs) = x at *
  obtain ⟨X, T2, q2⟩ := x
  simp only at HBY ⊢
  obtain ⟨Y, hY⟩ : ∃ Y, bs X = Y := ⟨_, rfl⟩
  rw [hY] at HBY ⊢
  clear h hk hlen hY
  go_enter Tryz.func78, Tryz.ntmps78
  go_wp2_with fail
  refine HK.out.mono ?_
  rintro e w1 ⟨rfl, hr, ho⟩
  have R1 := hid (Bx.one R0.out ho (by omega))
  have hl1 := lt_of_block R1.out
  have HR1 := hid (hr.alloc (.cells #[.int .i64 2, .int .i64 0, .string ⟨#[]⟩] tV))
  have HO1 := hid ((O0.out.trans ho).alloc (.cells #[.int .i64 2, .int .i64 0, .string ⟨#[]⟩] tV))
  have R2 := hid (Va.Bx.on R1.out ((Below.refl _ _).alloc (Nat.le_refl _) (.cells #[.int .i64 2, .int .i64 0, .string ⟨#[]⟩] tV)))
  have T2' := hid (Bx.new 2 0 ⟨#[]⟩ w1)
  have hb1 : b < w1.heap.size := hr.lt
  clear hr ho R1
  go_wp2_with fail
  refine (HUP.out _ HR1.out).mono ?_
  rintro e w2 ⟨rfl, hr, ho⟩
  have R3 := hid (Bx.one R2.out ho (by omega))
  have T3 := hid (Bx.one T2'.out ho (by omega))
  have HR2 := hid hr
  have HO2 := hid (HO1.out.trans ho)
  clear hr ho R2 T2'
  go_wp2_with fail
  refine (HBY.out _ HR2.out).mono ?_
  rintro e w3 ⟨rfl, hr, ho⟩
  have R4 := hid (Bx.one R3.out ho (by omega))
  have T4 := hid (Bx.one T3.out ho (by omega))
  have HR3 := hid hr
  have HO3 := hid (HO2.out.trans ho)
  have hl2 := lt_of_block R4.out
  have hl3 := lt_of_block T4.out
  clear hr ho R3 T3
  obtain ⟨t0, t1, t2⟩ := T4.out.cells
  obtain ⟨tf0, tf1, tf2⟩ := T4.out.free
  obtain ⟨r0, r1, r2⟩ := R4.out.cells
  obtain ⟨f0, f1, f2⟩ := R4.out.free
  have hne : ¬ w1.heap.size = w.heap.size := by omega
  have hne2 : ¬ w.heap.size = w1.heap.size := by omega
  have U := hid (Bx.put (Bx.other R4.out (by omega : w1.heap.size ≠ w.heap.size) 2 (.string Y)) 2 0 Y).cells
  have HR5 := hid (((HR3.out.other (by omega : w1.heap.size ≠ b) 2 (.string Y)).other (by omega : w.heap.size ≠ b) 0 (.int .i64 2)).other (by omega : w.heap.size ≠ b) 1 (.int .i64 0) |>.other (by omega : w.heap.size ≠ b) 2 (.string Y))
  have HO5 := hid ((((HO3.out.high (by omega : w.heap.size ≤ w1.heap.size) 2 (.string Y)).high (Nat.le_refl _) 0 (.int .i64 2)).high (Nat.le_refl _) 1 (.int .i64 0)).high (Nat.le_refl _) 2 (.string Y))
  go_wp2
  obtain ⟨u0, u1, u2⟩ := U.out
  exact bodyPost_ret (v := valR 2 0 Y) (by simp [results, valR, go_sem, u0, u1, u2]) rfl ⟨rfl, HR5.out, HO5.out⟩
set_option maxRecDepth 100000 in
set_option maxHeartbeats 2000000 in
theorem value_str3 (b : Nat) (S S1 : Bs) (e0 : Int) (hS : S1.length ≤ 281474976710656) (w : World) (h : Rd b S e0 w) (hk : Calls Tryz.prog 127 #[ptr b] (w.alloc (.cells #[.int .i64 0, .int .i64 0, .string ⟨#[]⟩] tV)) fun e w' => e = .returned (.int .i64 3) ∧ Rd b S1 0 w' ∧ One b (w.alloc (.cells #[.int .i64 0, .int .i64 0, .string ⟨#[]⟩] tV)) w') :
    Calls Tryz.prog 78 #[ptr b] w fun e w' => e = .returned (valR 3 0 (bs (strT S1).v)) ∧ Rd b (strT S1).s (strT S1).e w' ∧ One b w w' := by
  have HK := hid hk
  have hbl := h.lt
  have R0 := hid (Bx.new 0 0 ⟨#[]⟩ w)
  have O0 := hid ((One.refl b w).alloc (.cells #[.int .i64 0, .int .i64 0, .string ⟨#[]⟩] tV))
  have HUP : Hid (∀ w, Rd b S1 0 w → Calls Tryz.prog 77 #[ptr b, .int .u64 2000] w fun e w' => e = .returned (.int .i64 ((upT S1 2000).v : Nat)) ∧ Rd b (upT S1 2000).s (upT S1 2000).e w' ∧ One b w w') := hid (fun w h => upto_live b 2000 (Nat.le_refl _) S1 hS w h)
  have hlen := upT_len S1 2000
  unfold strT
  generalize upT S1 2000 = u at *
  obtain ⟨n, T, q⟩ := u
  simp only at HUP hlen ⊢
  have HBY : Hid (∀ w, Rd b T q w → Calls Tryz.prog 129 #[ptr b, .int .i64 (n : Nat)] w fun e w' => e = .returned (.string (bs (if q = 0 then bytT T n else ⟨[], T, q⟩).v)) ∧ Rd b (if q = 0 then bytT T n else ⟨[], T, q⟩).s (if q = 0 then bytT T n else ⟨[], T, q⟩).e w' ∧ One b w w') := hid (by
    intro w hw
    by_cases hq : q = 0
    · subst hq
      rw [if_pos rfl]
      exact bytes_live b n T (by omega) w hw
    · rw [if_neg hq]
      refine (bytes_dead b n T q hq w hw).mono ?_
      rintro e w' ⟨rfl, rfl⟩
      exact ⟨rfl, hw, One.refl _ _⟩)
  generalize (if q = 0 then bytT T n else ⟨[], T, q⟩ : Tk Bs) = x at *
  obtain ⟨X, T2, q2⟩ := x
  simp only at HBY ⊢
  obtain ⟨Y, hY⟩ : ∃ Y, bs X = Y := ⟨_, rfl⟩
  rw [hY] at HBY ⊢
  clear h hk hlen hY
  go_enter Tryz.func78, Tryz.ntmps78
  go_wp2_with fail
  refine HK.out.mono ?_
  rintro e w1 ⟨rfl, hr, ho⟩
  have R1 := hid (Bx.one R0.out ho (by omega))
  have hl1 := lt_of_block R1.out
  have HR1 := hid (hr.alloc (.cells #[.int .i64 3, .int .i64 0, .string ⟨#[]⟩] tV))
  have HO1 := hid ((O0.out.trans ho).alloc (.cells #[.int .i64 3, .int .i64 0, .string ⟨#[]⟩] tV))
  have R2 := hid (Va.Bx.on R1.out ((Below.refl _ _).alloc (Nat.le_refl _) (.cells #[.int .i64 3, .int .i64 0, .string ⟨#[]⟩] tV)))
  have T2' := hid (Bx.new 3 0 ⟨#[]⟩ w1)
  have hb1 : b < w1.heap.size := hr.lt
  clear hr ho R1
  go_wp2_with fail
  refine (HUP.out _ HR1.out).mono ?_
  rintro e w2 ⟨rfl, hr, ho⟩
  have R3 := hid (Bx.one R2.out ho (by omega))
  have T3 := hid (Bx.one T2'.out ho (by omega))
  have HR2 := hid hr
  have HO2 := hid (HO1.out.trans ho)
  clear hr ho R2 T2'
  go_wp2_with fail
  refine (HBY.out _ HR2.out).mono ?_
  rintro e w3 ⟨rfl, hr, ho⟩
  have R4 := hid (Bx.one R3.out ho (by omega))
  have T4 := hid (Bx.one T3.out ho (by omega))
  have HR3 := hid hr
  have HO3 := hid (HO2.out.trans ho)
  have hl2 := lt_of_block R4.out
  have hl3 := lt_of_block T4.out
  clear hr ho R3 T3
  obtain ⟨t0, t1, t2⟩ := T4.out.cells
  obtain ⟨tf0, tf1, tf2⟩ := T4.out.free
  obtain ⟨r0, r1, r2⟩ := R4.out.cells
  obtain ⟨f0, f1, f2⟩ := R4.out.free
  have hne : ¬ w1.heap.size = w.heap.size := by omega
  have hne2 : ¬ w.heap.size = w1.heap.size := by omega
  have U := hid (Bx.put (Bx.other R4.out (by omega : w1.heap.size ≠ w.heap.size) 2 (.string Y)) 3 0 Y).cells
  have HR5 := hid (((HR3.out.other (by omega : w1.heap.size ≠ b) 2 (.string Y)).other (by omega : w.heap.size ≠ b) 0 (.int .i64 3)).other (by omega : w.heap.size ≠ b) 1 (.int .i64 0) |>.other (by omega : w.heap.size ≠ b) 2 (.string Y))
  have HO5 := hid ((((HO3.out.high (by omega : w.heap.size ≤ w1.heap.size) 2 (.string Y)).high (Nat.le_refl _) 0 (.int .i64 3)).high (Nat.le_refl _) 1 (.int .i64 0)).high (Nat.le_refl _) 2 (.string Y))
  go_wp2
  obtain ⟨u0, u1, u2⟩ := U.out
  exact bodyPost_ret (v := valR 3 0 Y) (by simp [results, valR, go_sem, u0, u1, u2]) rfl ⟨rfl, HR5.out, HO5.out⟩
/-- What value gives, of a reader that lives. -/
theorem value_live (b : Nat) (S : Bs) (hS : S.length ≤ 281474976710656) (w : World) (h : Rd b S 0 w) :
    Calls Tryz.prog 78 #[ptr b] w fun e w' => Gives b (decV S) w w' e := by
  have hk := kind_live b S hS _ (h.alloc (.cells #[.int .i64 0, .int .i64 0, .string ⟨#[]⟩] tV))
  rcases kind_ways S with ⟨h0, h1⟩ | ⟨k, h1, he, hv, hs⟩
  · rw [h0] at hk
    refine (value_none b S (kindT S).s 0 (kindT S).e w h hk).mono ?_
    rintro e w' ⟨rfl, hr, ho⟩
    refine ⟨⟨0, 0, bs []⟩, rfl, ?_, ho⟩
    rcases h1 with ⟨h2, h3⟩ | ⟨h2, h3⟩
    · rw [h3]; rw [h2] at hr; exact ⟨rfl, hr⟩
    · rw [h3]; exact ⟨h2, _, hr⟩
  · have hsl : (kindT S).s.length ≤ 281474976710656 := by
      have := congrArg List.length hs
      rw [List.length_cons] at this
      omega
    have hk3 : ¬ 3 < k.toNat := by omega
    rw [he] at hk
    generalize kindT S = x at *
    obtain ⟨kk, l, q⟩ := x
    simp only at hk he hv hs hsl h1
    subst hs
    rw [decV_cons, if_neg hk3, if_neg (by omega)]
    rcases h1 with h1 | h1 | h1
    · rw [h1] at hk
      refine (value_int b _ l 0 hsl w h hk).mono ?_
      rintro e w' ⟨rfl, hr, ho⟩
      refine ⟨⟨1, unfoldI (unvL 0 0 l).1, bs []⟩, rfl, ?_, ho⟩
      by_cases hq : (unvL 0 0 l).2.2 = 0
      · rw [if_neg (by simpa using hq), if_pos (by omega)]
        rw [hq] at hr
        exact ⟨rfl, hr⟩
      · rw [if_pos (by simpa using hq)]
        exact ⟨hq, _, hr⟩
    all_goals (
      rw [h1] at hk
      have hst : (unvL 0 0 l).2.2 = 0 → ¬ 2000 < (unvL 0 0 l).1 → upT l 2000 = ⟨(unvL 0 0 l).1, l.drop (unvL 0 0 l).2.1, 0⟩ := fun a c => by unfold upT; rw [if_neg (by simpa using a), if_neg c]
      have hst2 : (unvL 0 0 l).2.2 = 0 → 2000 < (unvL 0 0 l).1 → upT l 2000 = ⟨0, l.drop (unvL 0 0 l).2.1, 4⟩ := fun a c => by unfold upT; rw [if_neg (by simpa using a), if_pos c]
      have hst3 : (unvL 0 0 l).2.2 ≠ 0 → upT l 2000 = ⟨0, l, (unvL 0 0 l).2.2⟩ := fun a => by unfold upT; rw [if_pos a])
    · refine (value_str2 b _ l 0 hsl w h hk).mono ?_
      rintro e w' ⟨rfl, hr, ho⟩
      refine ⟨⟨2, 0, bs (strT l).v⟩, rfl, ?_, ho⟩
      unfold strT at hr ⊢
      by_cases hq : (unvL 0 0 l).2.2 = 0
      · rw [if_neg (by simpa using hq), if_neg (by omega)]
        by_cases hn : 2000 < (unvL 0 0 l).1
        · rw [if_pos hn]
          rw [hst2 hq hn, if_neg (show ¬ (4 : Int) = 0 by decide)] at hr
          exact ⟨by decide, _, hr⟩
        · rw [if_neg hn]
          rw [hst hq hn] at hr ⊢
          rw [if_pos rfl] at hr ⊢
          unfold bytT at hr ⊢
          simp only at hr ⊢
          by_cases hx : (l.drop (unvL 0 0 l).2.1).length < (unvL 0 0 l).1
          · rw [if_pos hx] at hr ⊢
            exact ⟨by decide, _, hr⟩
          · rw [if_neg hx] at hr ⊢
            rw [if_neg hx]
            refine ⟨?_, hr⟩
            rw [show ((k.toNat : Nat) : Int) = 2 by omega]
      · rw [if_pos (by simpa using hq)]
        rw [hst3 hq, if_neg hq] at hr
        exact ⟨hq, _, hr⟩
    · refine (value_str3 b _ l 0 hsl w h hk).mono ?_
      rintro e w' ⟨rfl, hr, ho⟩
      refine ⟨⟨3, 0, bs (strT l).v⟩, rfl, ?_, ho⟩
      unfold strT at hr ⊢
      by_cases hq : (unvL 0 0 l).2.2 = 0
      · rw [if_neg (by simpa using hq), if_neg (by omega)]
        by_cases hn : 2000 < (unvL 0 0 l).1
        · rw [if_pos hn]
          rw [hst2 hq hn, if_neg (show ¬ (4 : Int) = 0 by decide)] at hr
          exact ⟨by decide, _, hr⟩
        · rw [if_neg hn]
          rw [hst hq hn] at hr ⊢
          rw [if_pos rfl] at hr ⊢
          unfold bytT at hr ⊢
          simp only at hr ⊢
          by_cases hx : (l.drop (unvL 0 0 l).2.1).length < (unvL 0 0 l).1
          · rw [if_pos hx] at hr ⊢
            exact ⟨by decide, _, hr⟩
          · rw [if_neg hx] at hr ⊢
            rw [if_neg hx]
            refine ⟨?_, hr⟩
            rw [show ((k.toNat : Nat) : Int) = 3 by omega]
      · rw [if_pos (by simpa using hq)]
        rw [hst3 hq, if_neg hq] at hr
        exact ⟨hq, _, hr⟩
theorem value_dead (b : Nat) (S : Bs) (e0 : Int) (he : e0 ≠ 0) (w : World) (h : Rd b S e0 w) :
    Calls Tryz.prog 78 #[ptr b] w fun e w' => e = .returned (valR 0 0 (bs [])) ∧ Rd b S e0 w' ∧ One b w w' := by
  refine value_none b S S e0 e0 w h ((kind_dead b S e0 he _ (h.alloc _)).mono ?_)
  rintro e w' ⟨rfl, rfl⟩
  exact ⟨rfl, h.alloc _, One.refl _ _⟩
end Ro
end Go.Proofs.YtiellodbkanciaaGreatDoor
