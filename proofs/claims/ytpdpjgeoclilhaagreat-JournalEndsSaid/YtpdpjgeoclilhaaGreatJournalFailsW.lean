/-
  The walk of JournalFails: an error of the disk at any operation, and Back.
-/
import Derived.Test.YtpdpjgeoclilhaaGreatJouChanged
import Derived.Test.YtpdpjgeoclilhaaGreatJouAwake
namespace Go.Proofs.YtpdpjgeoclilhaaGreat
open Go.RowKit Go.Shelf
namespace Jo
open Num (hid)
open Disk (Mod Fil Plc Sees Stays Ctl arm_sees)
open Mem (Bs bs LAt ptr)

/-- A number by a number. -/
def remN (x : Int) (q : Nat) : Nat := ((x % 18446744073709551616) % (q : Int)).toNat
theorem remN_lt (x : Int) (q : Nat) (hq : 0 < q) : remN x q < q := by
  unfold remN
  have h1 := Int.emod_lt_of_pos (x % 18446744073709551616) (show (0 : Int) < q from by omega)
  have h2 := Int.emod_nonneg (x % 18446744073709551616) (show (q : Int) ≠ 0 from by omega)
  omega
theorem remN_is (x : Int) (q : Nat) (hq : 0 < q ∧ q ≤ 1000) : wrap64 ((IntKind.u64.wrap x).tmod (q : Int)) = ((remN x q : Nat) : Int) := by
  have h1 := Int.emod_lt_of_pos (x % 18446744073709551616) (show (0 : Int) < q from by omega)
  have h2 := Int.emod_nonneg (x % 18446744073709551616) (show (q : Int) ≠ 0 from by omega)
  have h3 : IntKind.u64.wrap x = x % 18446744073709551616 := Num.wrap_u _
  have h4 : 0 ≤ x % 18446744073709551616 := Int.emod_nonneg _ (by decide)
  rw [h3, Int.tmod_eq_emod_of_nonneg h4, Num.wrap_i]
  unfold remN
  omega
/-- A disk that the laws go on with. -/
structure Dk (w0 : World) (d m : Nat) (M : Mod) (wr : World) : Prop where
  sees : Sees (Bl w0.heap.size) d m M wr
  below : Below w0.heap.size w0 wr
theorem Dk.on {w0 wr w2 : World} {d m : Nat} {M : Mod} (h : Dk w0 d m M wr) (hb : Below wr.heap.size wr w2) : Dk w0 d m M w2 := ⟨h.sees.kept hb, h.below.trans (hb.mono h.below.size)⟩
theorem Dk.to {w0 wr w2 : World} {d m : Nat} {M M' : Mod} (h : Dk w0 d m M wr) (h1 : Sees (Bl w0.heap.size) d m M' w2) (h2 : Stays (Bl w0.heap.size) wr w2) : Dk w0 d m M' w2 := ⟨h1, h.below.trans (bl_below h2 h.below.size)⟩
theorem changed_laid {w0 w : World} {d m P : Nat} {M0 M1 : Mod} (h : Dk w0 d m M1 w) (hM : LaidM P M0) (hf : M1.fs = M0.fs) (hP : P ≤ 8) {v : Value} {l : List ChC} (hL : LAt 3 chV w0 v l) :
    Calls Tryz.prog 25 #[ptr d, .int .i64 (P : Nat), v] w fun e w' => ∃ er M, e = .returned (.int .i64 er) ∧ Dk w0 d m M w' ∧ EndP P M1 er M := by
  obtain ⟨_, _, _, D, h1, h2, h3⟩ := hM
  refine (changed_any h.sees h.below (hf.trans h1) h2 h3 hP hL).mono ?_
  rintro e w' ⟨er, M, rfl, a, b, c⟩
  exact ⟨er, M, rfl, ⟨a, b⟩, c⟩
/-- Behind an error: what Back meets, and what it makes. -/
theorem fails_plain {P : Nat} (hP : P ≤ 8) {M0 M1 : Mod} {er : Int} (h0 : LaidM P M0) (a mo : Int) (h1 : EndP P (M0.arm a 1 mo) er M1) :
    ∃ D, (backM ((backM (M1.arm 1 1 1)).2.arm 0 0 0)).1 = 0 ∧ (backM ((backM (M1.arm 1 1 1)).2.arm 0 0 0)).2.fs = dir2 D none ∧ Fin P D ∧ Calm (backM ((backM (M1.arm 1 1 1)).2.arm 0 0 0)).2.c := by
  obtain ⟨D, J, hf, hc, hk, _⟩ := h1
  have hu1 : Up M1.c := hk.1 (armed_up h0.1.1 a mo)
  have hu2 : Up (M1.arm 1 1 1).c := armed_up hu1.1 1 1
  have hf2 : (M1.arm 1 1 1).fs = dir2 D J := (armed_room M1 1 1 1).2.1.trans hf
  obtain ⟨D2, J2, g1, g2, _, _⟩ := back_keeps (str := False) (by omega) hf2 hc.sta
  have hu3 := (back_kp (M1.arm 1 1 1)).1 hu2
  obtain ⟨c1, c2, c3⟩ := disarmed hu3.1
  obtain ⟨D3, J3, k1, k2, k3, k4⟩ := back_keeps (str := False) (by omega) (c3.trans g1) g2
  obtain ⟨e1, e2, _⟩ := k4 c1
  obtain ⟨rfl, hF⟩ := k3 e1
  exact ⟨D3, e1, k1, hF, e2⟩
set_option maxRecDepth 100000 in
set_option maxHeartbeats 4000000 in
theorem fails_walk (a0 : Int) (v1 : Value) (l1 : List ChC) (a2 : Int) (w : World) (hL : LAt 3 chV w v1 l1) :
    Calls Tryz.prog 5 #[.int .i64 a0, v1, .int .i64 a2] w fun e w' => e = .returned (.bool true) ∧ Below w.heap.size w w' := by
  have hr0 : wrap64 ((IntKind.u64.wrap a0).tmod 9) = _ := remN_is a0 9 (by decide)
  have hr2 : wrap64 ((IntKind.u64.wrap a2).tmod 70) = _ := remN_is a2 70 (by decide)
  have hl0 := remN_lt a0 9 (by decide)
  have hl2 := remN_lt a2 70 (by decide)
  generalize remN a0 9 = P at *
  generalize remN a2 70 = q at *
  obtain ⟨ao, cap, rfl, -⟩ := hL.ways
  have HL := hid hL
  clear hL
  go_enter Tryz.func5, Tryz.ntmps5
  go_wp2_with fail
  refine (awake_any w).mono ?_
  rintro e w1 ⟨rfl, hb1⟩
  have HB1 := hid hb1
  clear hb1
  go_wp2_with fail
  refine (laid_any P (by omega) w1).mono ?_
  rintro e w2 ⟨d, m, M0, rfl, h2, hb2, hM0⟩
  have H2 : Hid (Dk w d m M0 w2) := hid ⟨h2.fewer (fun k hk => Nat.lt_of_lt_of_le hk HB1.out.size), HB1.out.trans (hb2.mono HB1.out.size)⟩
  have HM0 := hid hM0
  clear h2 hb2 hM0
  go_wp2_with fail
  refine (arm_sees H2.out.sees (1 + (q : Int)) 1 2 (by omega) (by decide)).mono ?_
  rintro e w3 ⟨rfl, h3, hs3⟩
  have H3 := hid (H2.out.to h3 hs3)
  clear h3 hs3
  go_wp2_with fail
  refine (changed_laid H3.out HM0.out (armed_room _ _ _ _).2.1 (by omega) HL.out).mono ?_
  rintro e w4 ⟨er, M1, rfl, h4, hE⟩
  have H4 := hid h4
  have HF := hid (fails_plain (by omega) HM0.out _ _ hE)
  clear h4 hE HM0
  go_wp2_with fail
  refine (arm_sees H4.out.sees 1 1 1 (by decide) (by decide)).mono ?_
  rintro e w5 ⟨rfl, h5, hs5⟩
  have H5 := hid (H4.out.to h5 hs5)
  clear h5 hs5
  go_wp2_with fail
  refine (back_any H5.out.sees).mono ?_
  rintro e w6 ⟨rfl, h6, hs6⟩
  have H6 := hid (H5.out.to h6 hs6)
  clear h6 hs6
  go_wp2_with fail
  refine (arm_sees H6.out.sees 0 0 0 (by decide) (by decide)).mono ?_
  rintro e w7 ⟨rfl, h7, hs7⟩
  have H7 := hid (H6.out.to h7 hs7)
  clear h7 hs7
  go_wp2_with fail
  refine (back_any H7.out.sees).mono ?_
  rintro e w8 ⟨rfl, h8, hs8⟩
  have H8 := hid (H7.out.to h8 hs8)
  clear h8 hs8
  obtain ⟨D, e1, e2, e3, e4⟩ := HF.out
  generalize backM ((backM (M1.arm 1 1 1)).2.arm 0 0 0) = X at *
  rw [e1]
  have HWAS := hid (was_any H8.out.sees e2 e4 e3 (by omega))
  clear e1 e2 e3 e4 HF
  go_wp2_with fail
  refine HWAS.out.mono ?_
  rintro e w9 ⟨M9, rfl, h9, hs9, hf9, hc9⟩
  have H9 := hid (H8.out.to h9 hs9)
  have hsz : M9.size jn = -1 := by rw [size_j hf9]; rfl
  clear h9 hs9 hf9 hc9
  go_wp2_with fail
  refine (size_jn H9.out.sees).mono ?_
  rintro e w10 ⟨rfl, rfl⟩
  rw [hsz]
  go_wp2
  go_ret
  exact ⟨rfl, H9.out.below⟩
end Jo
end Go.Proofs.YtpdpjgeoclilhaaGreat
