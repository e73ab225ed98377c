/-
  Contract of the statements' awake: answers that the document fixes by number.
-/
import Derived.Test.YtbenjlddihpciaaShelfLab
namespace Go.Proofs.Ytbenjlddihpciaa
open Go.RowKit
namespace Sh
open Sp
open Num (hid)
open Mem (Bs bs IAt tI tS tIs tSs Chg Row ptr blk_cell blk_free blk_new blk_set blk_other blk_alloc row_kept row_shape row_type)
def g2 : Hd := ⟨1, 2, 0, 0, 0, 0⟩
def g3 : Hd := ⟨1, 3, 0, 0, 0, 0⟩
def g4 : Hd := ⟨1, 3, 1, 1, 0, 0⟩
def T1 : St := (newM 3 h1 S0).2.2
def T2 : St := (newM 3 g2 T1).2.2
def T3 : St := (newM 3 g3 T2).2.2
def X1 : Bs := 120 :: zeros 231
def T4 : St := (T3.put 1 X1).2
def T5 : St := (freeM g3 T4 1).2.2
def T6 : St := (newM 3 g4 T5).2.2
theorem v1 : (newM 3 h1 S0).1 = (1, 0) ∧ (newM 3 h1 S0).2.1 = g2 := by decide +kernel
theorem v2 : (newM 3 g2 T1).1 = (2, 0) ∧ (newM 3 g2 T1).2.1 = g3 := by decide +kernel
theorem v3 : (newM 3 g3 T2).1 = (0, 22) ∧ (newM 3 g3 T2).2.1 = g3 := by decide +kernel
theorem v4 : (T3.put 1 X1).1 = 0 := by decide +kernel
theorem v5 : (freeM g3 T4 1).1 = 0 ∧ (freeM g3 T4 1).2.1 = g4 := by decide +kernel
theorem v6 : (newM 3 g4 T5).1 = (1, 0) ∧ (newM 3 g4 T5).2.1 = g3 := by decide +kernel
theorem v7 : T6.f 1 = some (zeros 232) := by decide +kernel
theorem v8 : T6.f 3 = none := by decide +kernel
theorem fx : full ⟨#[120]⟩ = bs X1 := by decide +kernel
theorem fz : full ⟨#[]⟩ = bs (zeros 232) := by decide +kernel
theorem fit2 : Fit g2 := by unfold Fit; decide
theorem fit3 : Fit g3 := by unfold Fit; decide
theorem fit4 : Fit g4 := by unfold Fit; decide
theorem w1 : Wf 1 := wf_of (by decide) (by decide)
theorem w3 : Wf 3 := wf_of (by decide) (by decide)
theorem small_new {c : Nat} {S : St} (k : Small c S) (lim : Int) (h : Hd) : Small (c + 3) (newM lim h S).2.2 := by
  unfold newM
  split
  · exact k.more (by omega)
  · have := small_takeM k h
    unfold more
    split
    · exact this.more (by omega)
    · unfold Small at *
      show _ + 1 ≤ _
      omega
theorem small_free {c : Nat} {S : St} (k : Small c S) (h : Hd) (n : Int) : Small (c + 3) (freeM h S n).2.2 := by
  unfold freeM
  split
  · exact k.more (by omega)
  · have := small_giveM k h n
    unfold after
    split
    · exact this.more (by omega)
    · exact this.more (by omega)
variable {s d N cnt : Nat} {lim : Int} {h : Hd} {arm : Int} {S : St} {w0 w w' : World}
/-- New, whatever it answers. -/
theorem ShL.newAny (k : ShL s d N cnt lim h arm S w0 w) (ha : arm < 1) (hf : Fit h) (hc : cnt ≤ 20000) :
    Calls Try.prog 13 #[ptr s] w fun e w' => e = .returned (.tuple #[.int .i64 (newM lim h S).1.1, .int .i64 (newM lim h S).1.2]) ∧ ShL s d N (cnt + 3) lim (newM lim h S).2.1 arm (newM lim h S).2.2 w0 w' ∧ Chg (Two s d) w w' := by
  refine (new_any k.at' ha hf k.sm (by omega)).mono ?_
  rintro e w' ⟨rfl, hA, hC⟩
  exact ⟨rfl, k.turned hA hC (small_new k.sm _ _), hC⟩
theorem ShL.freeAny (k : ShL s d N cnt lim h arm S w0 w) (ha : arm < 1) (hf : Fit h) (hc : cnt ≤ 20000) {n : Int} (hn : Wf n) :
    Calls Try.prog 15 #[ptr s, .int .i64 n] w fun e w' => e = .returned (.int .i64 (freeM h S n).1) ∧ ShL s d N (cnt + 3) lim (freeM h S n).2.1 arm (freeM h S n).2.2 w0 w' ∧ Chg (Two s d) w w' := by
  refine (free_any k.at' ha hf k.sm (by omega) hn).mono ?_
  rintro e w' ⟨rfl, hA, hC⟩
  exact ⟨rfl, k.turned hA hC (small_free k.sm _ _), hC⟩
theorem ShL.putAny (k : ShL s d N cnt lim h arm S w0 w) (ha : arm < 1) (hc : cnt ≤ 20000) {n : Int} (hn : Wf n) (x : Bs) :
    Calls Try.prog 16 #[ptr s, .int .i64 n, .string (bs x)] w fun e w' => e = .returned (.int .i64 (S.put n x).1) ∧ ShL s d N (cnt + 3) lim h arm (S.put n x).2 w0 w' ∧ Chg (Two s d) w w' := by
  refine (put_ok k.at' ha k.sm (by omega) hn x).mono ?_
  rintro e w' ⟨rfl, hA, hC⟩
  exact ⟨rfl, k.turned hA hC ((small_put k.sm n x).more (by omega)), hC⟩
section
theorem c1 (k : ShL s d N 0 3 h1 0 S0 w0 w) : Calls Try.prog 13 #[ptr s] w fun e w' => e = .returned (.tuple #[.int .i64 1, .int .i64 0]) ∧ ShL s d N 3 3 g2 0 T1 w0 w' ∧ Chg (Two s d) w w' := by
  have H := k.newAny (by decide) fit1 (by decide)
  rw [v1.1, v1.2] at H
  exact H
theorem c2 (k : ShL s d N 3 3 g2 0 T1 w0 w) : Calls Try.prog 13 #[ptr s] w fun e w' => e = .returned (.tuple #[.int .i64 2, .int .i64 0]) ∧ ShL s d N 6 3 g3 0 T2 w0 w' ∧ Chg (Two s d) w w' := by
  have H := k.newAny (by decide) fit2 (by decide)
  rw [v2.1, v2.2] at H
  exact H
theorem c3 (k : ShL s d N 6 3 g3 0 T2 w0 w) : Calls Try.prog 13 #[ptr s] w fun e w' => e = .returned (.tuple #[.int .i64 0, .int .i64 22]) ∧ ShL s d N 9 3 g3 0 T3 w0 w' ∧ Chg (Two s d) w w' := by
  have H := k.newAny (by decide) fit3 (by decide)
  rw [v3.1, v3.2] at H
  exact H
theorem c4 (k : ShL s d N 9 3 g3 0 T3 w0 w) : Calls Try.prog 16 #[ptr s, .int .i64 1, .string (bs X1)] w fun e w' => e = .returned (.int .i64 0) ∧ ShL s d N 12 3 g3 0 T4 w0 w' ∧ Chg (Two s d) w w' := by
  have H := k.putAny (by decide) (by decide) w1 X1
  rw [v4] at H
  exact H
theorem c5 (k : ShL s d N 12 3 g3 0 T4 w0 w) : Calls Try.prog 15 #[ptr s, .int .i64 1] w fun e w' => e = .returned (.int .i64 0) ∧ ShL s d N 15 3 g4 0 T5 w0 w' ∧ Chg (Two s d) w w' := by
  have H := k.freeAny (by decide) fit3 (by decide) w1
  rw [v5.1, v5.2] at H
  exact H
theorem c6 (k : ShL s d N 15 3 g4 0 T5 w0 w) : Calls Try.prog 13 #[ptr s] w fun e w' => e = .returned (.tuple #[.int .i64 1, .int .i64 0]) ∧ ShL s d N 18 3 g3 0 T6 w0 w' ∧ Chg (Two s d) w w' := by
  have H := k.newAny (by decide) fit4 (by decide)
  rw [v6.1, v6.2] at H
  exact H
theorem c7 (k : ShL s d N 18 3 g3 0 T6 w0 w) : Calls Try.prog 17 #[ptr s, .int .i64 1] w fun e w' => e = .returned (.tuple #[.string (bs (zeros 232)), .int .i64 0]) ∧ Below w.heap.size w w' := k.get (by decide) w1 v7
theorem c8 (k : ShL s d N 18 3 g3 0 T6 w0 w) : Calls Try.prog 17 #[ptr s, .int .i64 3] w fun e w' => e = .returned (.tuple #[.string ⟨#[]⟩, .int .i64 21]) ∧ Below w.heap.size w w' := by
  have H := get_ok k.at' (by decide) w3
  rw [get_no v8] at H
  exact H
end
theorem ShL.armAt (k : ShL s d N cnt lim h arm S w0 w) (n : Int) : Calls Try.prog 20 #[ptr s, .int .i64 n] w fun e w' => e = .returned (.tuple #[]) ∧ ShL s d N cnt lim h n S w0 w' ∧ Chg (Two s d) w w' := by
  refine (arm_any k.at' n).mono ?_
  rintro e w' ⟨rfl, hA, hC⟩
  exact ⟨rfl, k.turned hA hC k.sm, hC⟩
set_option maxRecDepth 100000 in
set_option maxHeartbeats 2000000 in
theorem awake_any (w : World) : Calls Try.prog 11 #[] w fun e w' => e = .returned (.bool true) ∧ Below w.heap.size w w' := by
  have HX := hid (fun w => full_any ⟨#[120]⟩ w)
  have HZ := hid (fun w => full_any ⟨#[]⟩ w)
  rw [fx] at HX
  rw [fz] at HZ
  have hfd := fun w => fld1 1 3 0 0 0 0 w
  go_enter Try.func11, Try.ntmps11
  go_wp2_with fail
  refine (ShL.new 3 (by decide) (by decide) (Below.refl w.heap.size w)).mono ?_
  rintro e w1 ⟨s, d, rfl, hk⟩
  have K1 := hid hk
  clear hk
  go_wp2_with fail
  refine (c1 K1.out).mono ?_
  rintro e w2 ⟨rfl, hk, -⟩
  have K2 := hid hk
  clear hk K1
  go_wp2_with fail
  refine (c2 K2.out).mono ?_
  rintro e w3 ⟨rfl, hk, -⟩
  have K3 := hid hk
  clear hk K2
  go_wp2_with fail
  refine (c3 K3.out).mono ?_
  rintro e w4 ⟨rfl, hk, -⟩
  have K4 := hid hk
  clear hk K3
  go_wp2_with fail
  refine (HX.out _).mono ?_
  rintro e w5 ⟨rfl, hb⟩
  have K5 := hid (K4.out.kept hb)
  clear hb K4
  go_wp2_with fail
  refine (c4 K5.out).mono ?_
  rintro e w6 ⟨rfl, hk, -⟩
  have K6 := hid hk
  clear hk K5
  go_wp2_with fail
  refine (c5 K6.out).mono ?_
  rintro e w7 ⟨rfl, hk, -⟩
  have K7 := hid hk
  clear hk K6
  go_wp2_with fail
  refine (c6 K7.out).mono ?_
  rintro e w8 ⟨rfl, hk, -⟩
  have K8 := hid hk
  clear hk K7
  go_wp2_with fail
  refine (c7 K8.out).mono ?_
  rintro e w9 ⟨rfl, hb⟩
  have K9 := hid (K8.out.kept hb)
  clear hb K8
  go_wp2_with fail
  refine (c8 K9.out).mono ?_
  rintro e w10 ⟨rfl, hb⟩
  have K10 := hid (K9.out.kept hb)
  clear hb K9
  go_wp2_with fail
  refine (K10.out.armAt 1).mono ?_
  rintro e w11 ⟨rfl, hk, -⟩
  have K11 := hid hk
  clear hk K10
  go_wp2_with fail
  refine (get_io K11.out.at'.blk 1).mono ?_
  rintro e w12 ⟨rfl, hw⟩
  subst hw
  have HH := hid (fun w => head_ok (s := s) (d := d) (lim := 3) (h := g3) (arm := 1) (w := w))
  unfold hV g3 at HH
  simp only at HH
  generalize bs (zeros 232) = Z at *
  go_wp2_with fail
  refine (HZ.out _).mono ?_
  rintro e w13 ⟨rfl, hb⟩
  have K13 := hid (K11.out.kept hb)
  clear hb K11
  go_wp2_with fail
  refine (HH.out _ K13.out.at'.blk).mono ?_
  rintro e w14 ⟨rfl, hb⟩
  have K14 := hid (K13.out.kept hb)
  clear hb K13
  go_wp2
  go_ret
  exact ⟨rfl, K14.out.be⟩
end Sh
end Go.Proofs.Ytbenjlddihpciaa
