import Derived.Test.YtpdpjgeoclilhaaGreatRefWriteNew
namespace Go.Proofs.YtpdpjgeoclilhaaGreat
open Go.RowKit
namespace Ref
open Disk
open Num (hid bcells)
section
variable {R : Nat → Prop} {w : World} {r : Nat} {v : Value} {E : Ens} {c : Ctl} {a k m : Int}
set_option maxRecDepth 100000 in
set_option maxHeartbeats 4000000 in
theorem rwrite_neg {M : Mod} (hG : Good M) (h : Refs R r M w) (_hR : ∀ b, w.heap.size ≤ b → R b) (s : ByteArray) (hs : s.size ≤ maxLen) (i : Int) (l : ByteArray) (hi : i < 0) :
    Calls Tryz.prog 54 #[ptr r, .string s, .int .i64 i, .string l] w fun e w' => e = .returned (.int .i64 (M.write s.data.toList i l.data.toList).1) ∧ RefOut R w r (M.write s.data.toList i l.data.toList).2 w' := by
  obtain ⟨v, E, a, k, m, D, hE⟩ := h
  have hRr := D.own
  have hll : l.data.toList.length = l.size := by simp
  have hfit : (nameFit s.data.toList && decide (0 ≤ i) && decide (l.data.toList.length = 256)) = (nameFit s.data.toList && !true) := by
    rw [decide_eq_false (by omega)]; simp
  have hb := begin_any D hG.ok s hs true (nameFit s.data.toList && !true) rfl
  have HBG := hid hb
  have h8 := hG.len hE
  have hrr : M.c.refusal (nameFit s.data.toList && !true) ≠ 0 := by
    rw [Bool.not_true, Bool.and_false]; simp [Ctl.refusal]
  have e1 : M.write s.data.toList i l.data.toList = (M.c.refusal (nameFit s.data.toList && !true), ⟨M.c.begun (nameFit s.data.toList && !true), M.fs⟩) := by
    unfold Mod.write
    rw [hfit]
    exact run_bad hrr
  have HE1 := hid e1
  generalize hq : M.c.refusal (nameFit s.data.toList && !true) = q at *
  have hq0 : (q != 0) = true := by simpa using hrr
  have hzb : ((l.size : Int) != 256) = ((l.size : Int) != 256) := rfl
  clear e1 hrr hq hfit hb D hll hzb
  go_enter Tryz.func54, Tryz.ntmps54
  go_wp2_with fail
  refine HBG.out.mono ?_
  rintro e w1 ⟨rfl, hbeg⟩
  have HB := hid hbeg
  clear hbeg HBG
  go_wp2
  go_ret
  exact ⟨ret_i (by rw [HE1.out]), HB.out.out (by rw [HE1.out]; exact hE) hRr (by rw [HE1.out])⟩

set_option maxRecDepth 100000 in
set_option maxHeartbeats 4000000 in
theorem rwrite_len {M : Mod} (hG : Good M) (h : Refs R r M w) (_hR : ∀ b, w.heap.size ≤ b → R b) (s : ByteArray) (hs : s.size ≤ maxLen) (i : Int) (l : ByteArray) (h0 : ¬ i < 0) (hz : l.size ≠ 256) :
    Calls Tryz.prog 54 #[ptr r, .string s, .int .i64 i, .string l] w fun e w' => e = .returned (.int .i64 (M.write s.data.toList i l.data.toList).1) ∧ RefOut R w r (M.write s.data.toList i l.data.toList).2 w' := by
  obtain ⟨v, E, a, k, m, D, hE⟩ := h
  have hRr := D.own
  have hll : l.data.toList.length = l.size := by simp
  have hfit : (nameFit s.data.toList && decide (0 ≤ i) && decide (l.data.toList.length = 256)) = (nameFit s.data.toList && !true) := by
    rw [hll, decide_eq_false hz]; simp
  have hb := begin_any D hG.ok s hs true (nameFit s.data.toList && !true) rfl
  have HBG := hid hb
  have h8 := hG.len hE
  have hrr : M.c.refusal (nameFit s.data.toList && !true) ≠ 0 := by
    rw [Bool.not_true, Bool.and_false]; simp [Ctl.refusal]
  have e1 : M.write s.data.toList i l.data.toList = (M.c.refusal (nameFit s.data.toList && !true), ⟨M.c.begun (nameFit s.data.toList && !true), M.fs⟩) := by
    unfold Mod.write
    rw [hfit]
    exact run_bad hrr
  have HE1 := hid e1
  generalize hq : M.c.refusal (nameFit s.data.toList && !true) = q at *
  have hq0 : (q != 0) = true := by simpa using hrr
  have hzb : ((l.size : Int) != 256) = true := by simp; omega
  clear e1 hrr hq hfit hb D hll hz
  go_enter Tryz.func54, Tryz.ntmps54
  go_wp2_with fail
  refine HBG.out.mono ?_
  rintro e w1 ⟨rfl, hbeg⟩
  have HB := hid hbeg
  clear hbeg HBG
  go_wp2
  go_ret
  exact ⟨ret_i (by rw [HE1.out]), HB.out.out (by rw [HE1.out]; exact hE) hRr (by rw [HE1.out])⟩

set_option maxRecDepth 100000 in
set_option maxHeartbeats 4000000 in
theorem rwrite_ref {M : Mod} (hG : Good M) (h : Refs R r M w) (_hR : ∀ b, w.heap.size ≤ b → R b) (s : ByteArray) (hs : s.size ≤ maxLen) (i : Int) (l : ByteArray) (h0 : ¬ i < 0) (hz : l.size = 256) (hr : M.c.refusal (nameFit s.data.toList) ≠ 0) :
    Calls Tryz.prog 54 #[ptr r, .string s, .int .i64 i, .string l] w fun e w' => e = .returned (.int .i64 (M.write s.data.toList i l.data.toList).1) ∧ RefOut R w r (M.write s.data.toList i l.data.toList).2 w' := by
  obtain ⟨v, E, a, k, m, D, hE⟩ := h
  have hRr := D.own
  have hll : l.data.toList.length = l.size := by simp
  have hfit : (nameFit s.data.toList && decide (0 ≤ i) && decide (l.data.toList.length = 256)) = (nameFit s.data.toList && !false) := by
    rw [hll, decide_eq_true (by omega), decide_eq_true hz]; simp
  have hb := begin_any D hG.ok s hs false (nameFit s.data.toList && !false) rfl
  have HBG := hid hb
  have h8 := hG.len hE
  have hrr : M.c.refusal (nameFit s.data.toList && !false) ≠ 0 := by
    simpa using hr
  have e1 : M.write s.data.toList i l.data.toList = (M.c.refusal (nameFit s.data.toList && !false), ⟨M.c.begun (nameFit s.data.toList && !false), M.fs⟩) := by
    unfold Mod.write
    rw [hfit]
    exact run_bad hrr
  have HE1 := hid e1
  generalize hq : M.c.refusal (nameFit s.data.toList && !false) = q at *
  have hq0 : (q != 0) = true := by simpa using hrr
  have hzb : ((l.size : Int) != 256) = false := by simp; omega
  clear e1 hrr hq hfit hb D hll hz hr
  go_enter Tryz.func54, Tryz.ntmps54
  go_wp2_with fail
  refine HBG.out.mono ?_
  rintro e w1 ⟨rfl, hbeg⟩
  have HB := hid hbeg
  clear hbeg HBG
  go_wp2
  go_ret
  exact ⟨ret_i (by rw [HE1.out]), HB.out.out (by rw [HE1.out]; exact hE) hRr (by rw [HE1.out])⟩

theorem rwrite_any {M : Mod} (hG : Good M) (h : Refs R r M w) (hR : ∀ b, w.heap.size ≤ b → R b) (s : ByteArray) (hs : s.size ≤ maxLen) (i : Int) (l : ByteArray) :
    Calls Tryz.prog 54 #[ptr r, .string s, .int .i64 i, .string l] w fun e w' => e = .returned (.int .i64 (M.write s.data.toList i l.data.toList).1) ∧ RefOut R w r (M.write s.data.toList i l.data.toList).2 w' := by
  by_cases hi : i < 0
  · exact rwrite_neg hG h hR s hs i l hi
  by_cases hz : l.size = 256
  · by_cases hr : M.c.refusal (nameFit s.data.toList) = 0
    · obtain ⟨q, rfl⟩ := Int.eq_ofNat_of_zero_le (show 0 ≤ i by omega)
      cases hx : get? M.fs s.data.toList with
      | none => exact rwrite_new hG h hR s hs q l hz hr hx
      | some F => exact rwrite_found hG h hR s hs q l hz hr (by rw [hx]; rfl)
    · exact rwrite_ref hG h hR s hs i l hi hz hr
  · exact rwrite_len hG h hR s hs i l hi hz
end
end Ref
end Go.Proofs.YtpdpjgeoclilhaaGreat
