/-
  Contracts of Open, the project's and the reference's: what each call returns; the old memory stays.
-/
import Derived.Test.YtfgaoopgnpigjaaSealOpen
import Derived.Test.YtfgaoopgnpigjaaSealShelf
import Derived.Test.YtfgaoopgnpigjaaQuietTail
namespace Go.Proofs.Ytfgaoopgnpigjaa
open Go.RowKit
namespace Seal
open Num (hid fixF unfF)
open Mix (su sumN)

theorem liteClone (s : ByteArray) (hs : s.size ≤ 281474976710656) (w : World) :
    Calls Try.prog 94 #[.string s] w fun e w' => e = .returned (.string s) ∧ Below w.heap.size w w' :=
  AnyPu.stringslite_Clone Try.cloneL s w hs
theorem clone_any (s : ByteArray) (hs : s.size ≤ 281474976710656) (w : World) :
    Calls Try.prog 54 #[.string s] w fun e w' => e = .returned (.string s) ∧ Below w.heap.size w w' := by
  go_enter Try.func54, Try.ntmps54
  go_wp2_with fail
  refine (liteClone s hs _).mono ?_
  rintro e w1 ⟨rfl, hb⟩
  go_wp2
  go_ret
  exact ⟨rfl, hb⟩

theorem beq_nat (x y : Nat) : ((x : Int) == (y : Int)) = decide (x = y) := by
  by_cases h : x = y
  · subst h; simp
  · have : ((x : Int) == (y : Int)) = false := by simp; omega
    rw [this, decide_eq_false h]

set_option maxRecDepth 100000 in
set_option maxHeartbeats 1000000 in
theorem open_no (s : ByteArray) (h : ¬ s.size = 256) (w : World) :
    Calls Try.prog 18 #[.string s] w fun e w' => e = .returned (.tuple #[zeroV, .int .i64 1]) ∧ Below w.heap.size w w' := by
  have ht : ((s.size : Int) != 256) = true := by simp; omega
  clear h
  go_enter Try.func18, Try.ntmps18
  go_wp2
  exact bodyPost_ret (v := .tuple #[zeroV, .int .i64 1]) (by simp [results, zeroV, go_sem]) rfl ⟨rfl, (Below.refl _ _).alloc (Nat.le_refl _) _⟩


theorem bcell {W w1 : World} (hb : Below W.heap.size W w1) : (∀ b o, b < W.heap.size → w1.cell? ⟨b, o, none⟩ = W.cell? ⟨b, o, none⟩) ∧ (∀ b o, b < W.heap.size → w1.frozen? ⟨b, o, none⟩ = W.frozen? ⟨b, o, none⟩) :=
  ⟨fun b o h => hb.cell (p := ⟨b, o, none⟩) h, fun b o h => hb.frozen (p := ⟨b, o, none⟩) h⟩

set_option maxRecDepth 100000 in
set_option maxHeartbeats 1000000 in
theorem open_bad (s : ByteArray) (h : s.size = 256) (hr : ¬ right s.data.toList) (w : World) :
    Calls Try.prog 18 #[.string s] w fun e w' => e = .returned (.tuple #[zeroV, .int .i64 20]) ∧ Below w.heap.size w w' := by
  have ht : ((s.size : Int) != 256) = false := by simp; omega
  have hs : (248 : Int) ≤ (s.size : Int) := by omega
  have hne : (((su 1 (s.extract 0 248) : Nat) : Int) != ((sumOf s : Nat) : Int)) = true := by
    rw [sumOf_yes h]
    have := mt sum_of_right.2 hr
    simp; omega
  have hq : (s.extract 0 248).size ≤ 1000000000000000 := by simp; omega
  clear h hr
  go_enter Try.func18, Try.ntmps18
  go_wp2_with fail
  refine (sum1 _ hq _).mono ?_
  rintro e w1 ⟨rfl, hb1⟩
  obtain ⟨hc, hf⟩ := bcell hb1
  go_wp2_with fail
  refine (sum_any _ _).mono ?_
  rintro e w' ⟨rfl, rfl⟩
  go_wp2
  have B : Below w.heap.size w w1 := ((Below.refl _ _).alloc (Nat.le_refl _) _).trans (hb1.mono (by simp))
  exact bodyPost_ret (v := .tuple #[zeroV, .int .i64 20]) (by simp [results, zeroV, go_sem, hc]) rfl ⟨rfl, (((B.setCell (Nat.le_refl _) _).setCell (Nat.le_refl _) _).setCell (Nat.le_refl _) _).setCell (Nat.le_refl _) _⟩

theorem blk_free {w : World} {b : Nat} {c : Array Value} {t : TypeId} (h : w.heap[b]? = some (.cells c t (0, 0))) (i : Nat) : w.frozen? ⟨b, i, none⟩ = false := by simp [World.frozen?, h]
theorem nought {w wx : World} (C : Cls w 0 0 0 ⟨#[]⟩ wx) : wx.cell? ⟨w.heap.size, 0, none⟩ = some (.int .i64 0) ∧ wx.cell? ⟨w.heap.size, 1, none⟩ = some (.int .i64 0) ∧ wx.cell? ⟨w.heap.size, 2, none⟩ = some (.int .u64 0) ∧ wx.cell? ⟨w.heap.size, 3, none⟩ = some (.string ⟨#[]⟩) ∧
    wx.frozen? ⟨w.heap.size, 0, none⟩ = false ∧ wx.frozen? ⟨w.heap.size, 1, none⟩ = false ∧ wx.frozen? ⟨w.heap.size, 2, none⟩ = false ∧ wx.frozen? ⟨w.heap.size, 3, none⟩ = false ∧ w.heap.size < wx.heap.size :=
  ⟨cell_at C.held 0, cell_at C.held 1, cell_at C.held 2, cell_at C.held 3, blk_free C.held 0, blk_free C.held 1, blk_free C.held 2, blk_free C.held 3, lt_of_block C.held⟩

set_option maxRecDepth 100000 in
set_option maxHeartbeats 1000000 in
theorem open_good (s : ByteArray) (h : s.size = 256) (hr : right s.data.toList) (w : World) :
    Calls Try.prog 18 #[.string s] w fun e w' => e = .returned (.tuple #[saysV s, .int .i64 0]) ∧ Below w.heap.size w w' := by
  have ht : ((s.size : Int) != 256) = false := by simp; omega
  have hs : (248 : Int) ≤ (s.size : Int) := by omega
  have hne : (((su 1 (s.extract 0 248) : Nat) : Int) != ((sumOf s : Nat) : Int)) = false := by
    rw [sumOf_yes h]
    have := sum_of_right.1 hr
    simp; omega
  have hq : (s.extract 0 248).size ≤ 1000000000000000 := by simp; omega
  have hq2 : (s.extract 0 232).size ≤ 281474976710656 := by simp; omega
  have b1 := part_lt s 232 236
  have b2 := part_lt s 236 240
  have c1 : ((part s 232 236 : Nat) : Int) ≤ 4294967295 := by omega
  have c2 : ((part s 236 240 : Nat) : Int) ≤ 4294967295 := by omega
  have h256 : 256 ≤ s.size := by omega
  clear h hr b1 b2
  go_enter Try.func18, Try.ntmps18
  go_wp2_with fail
  refine (sum1 _ hq _).mono ?_
  rintro e w1 ⟨rfl, hb1⟩
  have C1 : Cls w 0 0 0 ⟨#[]⟩ w1 := (cls_new w 0 0 0 ⟨#[]⟩).on hb1
  clear hb1
  go_wp2_with fail
  refine (sum_any _ _).mono ?_
  rintro e w' ⟨rfl, rfl⟩
  go_wp2_with fail
  refine Tail.wp_region_quiet_tail 15 (Cls w 0 0 0 ⟨#[]⟩) (by kernel_rfl) (by kernel_rfl) C1.drew ?_
  simp only [List.take_succ_cons, List.take_zero, List.drop_succ_cons, List.drop_zero]
  go_big_quiet_want
  go_big_quiet_op
  go_big_quiet_on
  go_big_quiet_want
  go_big_quiet_op
  apply Exists.intro
  refine ⟨fun _ _ => ?_, ?_⟩
  · with_reducible exact Eq.refl _
  go_big_quiet_on
  go_big_quiet_want
  go_big_quiet_op
  refine ⟨.int .u64 (part s 232 236 : Nat), fun wx hx => ?_, ?_⟩
  · refine (number_at s 232 236 (by decide) (by decide) (by omega) _).mono ?_
    rintro e w3 ⟨rfl, rfl⟩
    exact ⟨rfl, hx⟩
  go_big_quiet_on
  go_big_quiet_want
  go_big_quiet_op
  apply Exists.intro
  refine ⟨fun _ _ => ?_, ?_⟩
  · with_reducible exact Eq.refl _
  go_big_quiet_on
  go_big_quiet_want
  go_big_quiet_op
  go_big_quiet_on
  go_big_quiet_want
  go_big_quiet_op
  apply Exists.intro
  refine ⟨fun _ _ => ?_, ?_⟩
  · with_reducible exact Eq.refl _
  go_big_quiet_on
  go_big_quiet_want
  go_big_quiet_op
  refine ⟨.int .u64 (part s 236 240 : Nat), fun wx hx => ?_, ?_⟩
  · refine (number_at s 236 240 (by decide) (by decide) (by omega) _).mono ?_
    rintro e w3 ⟨rfl, rfl⟩
    exact ⟨rfl, hx⟩
  go_big_quiet_on
  go_big_quiet_want
  go_big_quiet_op
  apply Exists.intro
  refine ⟨fun _ _ => ?_, ?_⟩
  · with_reducible exact Eq.refl _
  go_big_quiet_on
  go_big_quiet_want
  go_big_quiet_op
  go_big_quiet_on
  go_big_quiet_want
  go_big_quiet_op
  apply Exists.intro
  refine ⟨fun _ _ => ?_, ?_⟩
  · with_reducible exact Eq.refl _
  go_big_quiet_on
  go_big_quiet_want
  go_big_quiet_op
  refine ⟨.int .u64 (part s 240 248 : Nat), fun wx hx => ?_, ?_⟩
  · refine (number_at s 240 248 (by decide) (by decide) (by omega) _).mono ?_
    rintro e w3 ⟨rfl, rfl⟩
    exact ⟨rfl, hx⟩
  go_big_quiet_on
  go_big_quiet_want
  go_big_quiet_op
  go_big_quiet_on
  go_big_quiet_want
  go_big_quiet_op
  apply Exists.intro
  refine ⟨fun _ _ => ?_, ?_⟩
  · with_reducible exact Eq.refl _
  go_big_quiet_on
  go_big_quiet_want
  go_big_quiet_op
  refine ⟨.string (s.extract 0 232), fun wx hx => ?_, ?_⟩
  · refine (clone_any _ hq2 _).mono ?_
    rintro e w3 ⟨rfl, hb3⟩
    exact ⟨rfl, hx.on hb3⟩
  go_big_quiet_on
  go_big_quiet_want
  go_big_quiet_op
  apply Exists.intro
  refine ⟨fun _ _ => ?_, ?_⟩
  · with_reducible exact Eq.refl _
  go_big_quiet_on
  refine wpQuiet_nil ?_
  intro w2 C2
  obtain ⟨k0, k1, k2, k3, z0, z1, z2, z3, zs⟩ := nought C2
  have B := C2.below
  clear C1 C2
  go_wp2
  exact bodyPost_ret (v := .tuple #[saysV s, .int .i64 0]) (by simp [results, saysV, go_sem, k0, k1, k2, k3]) rfl ⟨rfl, (((B.setCell (Nat.le_refl _) _).setCell (Nat.le_refl _) _).setCell (Nat.le_refl _) _).setCell (Nat.le_refl _) _⟩

theorem open_any (s : ByteArray) (w : World) :
    Calls Try.prog 18 #[.string s] w fun e w' => e = .returned (.tuple #[openV s, .int .i64 (openE s)]) ∧ Below w.heap.size w w' := by
  by_cases h : s.size = 256
  · by_cases hr : right s.data.toList
    · obtain ⟨e1, e2⟩ := open_says h hr
      rw [e1, e2]
      exact open_good s h hr w
    · obtain ⟨e1, e2⟩ := open_seal h hr
      rw [e1, e2]
      exact open_bad s h hr w
  · obtain ⟨e1, e2⟩ := open_size h
    rw [e1, e2]
    exact open_no s h w

end Seal
end Go.Proofs.Ytfgaoopgnpigjaa
