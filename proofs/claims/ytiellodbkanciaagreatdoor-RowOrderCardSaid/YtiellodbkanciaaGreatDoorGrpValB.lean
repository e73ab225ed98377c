/-
  Put together: ValSmall, ValCompare, ValKey, ValOwn, ValBase.
-/
import Derived.Test.YtiellodbkanciaaGreatDoorValShelf
import Derived.Test.YtiellodbkanciaaGreatDoorGrpValA
import Derived.Test.YtiellodbkanciaaGreatDoorGrpNum
import Derived.Lib.Hide
import Derived.ProofKit
import Derived.StillTailTactics
import Derived.Deep.QuietTactic
import Derived.Lib.LaidTab
import Derived.BigQuiet
import Derived.Lib.BufferRead
/-
  Contracts of layer 6's small functions: Good and Compare, the project's and the reference's.
-/
namespace Go.Proofs.YtiellodbkanciaaGreatDoor
open Go.RowKit
namespace Va
open Num (hid)
/-- The text of a value as a list. -/
abbrev bl (S : ByteArray) : Bs := S.data.toList
theorem bl_len (S : ByteArray) : (bl S).length = S.size := by simp [bl]
theorem bl_empty (S : ByteArray) : S.toList.isEmpty = decide (bl S = []) := by
  rw [ByteArray.toList_eq]
  cases h : S.data.toList <;> simp [bl, h]
def goodB (K N : Int) (S : ByteArray) : Bool := decide (Good K N (bl S))
theorem ret_b {a b : Bool} (h : a = b) : Ending.returned (.bool a) = .returned (.bool b) := by rw [h]
theorem good_0 (N : Int) (S : ByteArray) : goodB 0 N S = (decide (N = 0) && decide (bl S = [])) := by
  unfold goodB Good; rw [Bool.eq_iff_iff]; simp
theorem good_1 (N : Int) (S : ByteArray) : goodB 1 N S = decide (bl S = []) := by
  unfold goodB Good; rw [Bool.eq_iff_iff]; simp
theorem good_2 (N : Int) (S : ByteArray) : goodB 2 N S = (decide (N = 0) && decide ((S.size : Int) ≤ 2000)) := by
  unfold goodB Good; rw [Bool.eq_iff_iff]; simp; omega
theorem good_3 (N : Int) (S : ByteArray) : goodB 3 N S = (decide (N = 0) && decide ((S.size : Int) ≤ 2000)) := by
  unfold goodB Good; rw [Bool.eq_iff_iff]; simp; omega
theorem good_not {K : Int} (h0 : K ≠ 0) (h1 : K ≠ 1) (h2 : K ≠ 2) (h3 : K ≠ 3) (N : Int) (S : ByteArray) : goodB K N S = false := by
  unfold goodB Good; simp [h0, h1, h2, h3]
set_option maxHeartbeats 1000000 in
theorem good_any (K N : Int) (S : ByteArray) (w : World) : Calls Tryz.prog 115 #[.agg #[.int .i64 K, .int .i64 N, .string S]] w fun e w' => e = .returned (.bool (goodB K N S)) ∧ Below w.heap.size w w' := by
  go_enter Tryz.func115, Tryz.ntmps115
  go_wp2
  all_goals (
    go_ret
    refine ⟨ret_b ?_, (Below.refl _ _).alloc (Nat.le_refl _) _⟩
    simp only [beq_iff_eq, beq_eq_false_iff_ne] at *
    first
    | (subst K; rw [good_0]; simp_all [bl_empty])
    | (subst K; rw [good_1]; simp_all [bl_empty])
    | (subst K; rw [good_2]; simp_all)
    | (subst K; rw [good_3]; simp_all)
    | (rw [good_not ‹_› ‹_› ‹_› ‹_›]))
set_option maxHeartbeats 1000000 in
theorem rgood_any (K N : Int) (S : ByteArray) (w : World) : Calls Tryz.prog 68 #[.agg #[.int .i64 K, .int .i64 N, .string S]] w fun e w' => e = .returned (.bool (goodB K N S)) ∧ Below w.heap.size w w' := by
  go_enter Tryz.func68, Tryz.ntmps68
  go_wp2
  all_goals (
    go_ret
    refine ⟨ret_b ?_, (Below.refl _ _).alloc (Nat.le_refl _) _⟩
    simp only [beq_iff_eq, beq_eq_false_iff_ne] at *
    first
    | (subst K; rw [good_0]; simp_all [bl_empty])
    | (subst K; rw [good_1]; simp_all [bl_empty])
    | (subst K; rw [good_2]; simp_all)
    | (subst K; rw [good_3]; simp_all)
    | (rw [good_not ‹_› ‹_› ‹_› ‹_›]))
end Va
end Go.Proofs.YtiellodbkanciaaGreatDoor

/-
  Contracts of Compare, the project's and the reference's.
-/
namespace Go.Proofs.YtiellodbkanciaaGreatDoor
open Go.RowKit
namespace Va
open Num (hid)

theorem cmps_any (a b : ByteArray) (w : World) : Calls Tryz.prog 45 #[.string a, .string b] w fun e w' => e = .returned (.int .i64 (cmpB (bl a) (bl b))) ∧ w' = w :=
  Any.strings_Compare Tryz.cmpL a b w
theorem cmpi_any (a b : Int) (w : World) : Calls Tryz.prog 117 #[.int .i64 a, .int .i64 b] w fun e w' => e = .returned (.int .i64 (cmpI a b)) ∧ w' = w :=
  Any.cmp_Compare_int Tryz.cmpIL a b w
set_option maxHeartbeats 1000000 in
theorem or_1 (x y z : Int) (b : Nat) (w : World) (hx : (x != 0) = true) (hb : w.heap[b]? = some (.cells #[.int .i64 x, .int .i64 y, .int .i64 z] 3 (0, 0))) :
    Calls Tryz.prog 116 #[.slice (some ⟨b, 0, none⟩) 3 3] w fun e w' => e = .returned (.int .i64 x) ∧ w = w' := by
  have c0 : w.cell? ⟨b, 0, none⟩ = some (.int .i64 x) := by simp [World.cell?, hb]
  have c1 : w.cell? ⟨b, 1, none⟩ = some (.int .i64 y) := by simp [World.cell?, hb]
  have c2 : w.cell? ⟨b, 2, none⟩ = some (.int .i64 z) := by simp [World.cell?, hb]
  clear hb
  go_enter Tryz.func116, Tryz.ntmps116
  go_wp2
  go_loop [8] (fun i => i = .int .i64 0) (fun i => 3 - (intOf i).toNat)
  case atStart => exact rfl
  case round =>
    rcases hrel with rfl
    · go_wp2
      go_ret
      exact ⟨rfl, rfl⟩
set_option maxHeartbeats 1000000 in
theorem or_2 (y z : Int) (b : Nat) (w : World) (hx : (y != 0) = true) (hb : w.heap[b]? = some (.cells #[.int .i64 0, .int .i64 y, .int .i64 z] 3 (0, 0))) :
    Calls Tryz.prog 116 #[.slice (some ⟨b, 0, none⟩) 3 3] w fun e w' => e = .returned (.int .i64 y) ∧ w = w' := by
  have c0 : w.cell? ⟨b, 0, none⟩ = some (.int .i64 0) := by simp [World.cell?, hb]
  have c1 : w.cell? ⟨b, 1, none⟩ = some (.int .i64 y) := by simp [World.cell?, hb]
  have c2 : w.cell? ⟨b, 2, none⟩ = some (.int .i64 z) := by simp [World.cell?, hb]
  clear hb
  go_enter Tryz.func116, Tryz.ntmps116
  go_wp2
  go_loop [8] (fun i => i = .int .i64 0 ∨ i = .int .i64 1) (fun i => 3 - (intOf i).toNat)
  case atStart => exact Or.inl rfl
  case round =>
    rcases hrel with rfl | rfl
    · go_wp2
      go_round
      case rel => exact Or.inr (rfl)
      case measure => simp [intOf]
    · go_wp2
      go_ret
      exact ⟨rfl, rfl⟩
set_option maxHeartbeats 1000000 in
theorem or_3 (z : Int) (b : Nat) (w : World) (hx : (z != 0) = true) (hb : w.heap[b]? = some (.cells #[.int .i64 0, .int .i64 0, .int .i64 z] 3 (0, 0))) :
    Calls Tryz.prog 116 #[.slice (some ⟨b, 0, none⟩) 3 3] w fun e w' => e = .returned (.int .i64 z) ∧ w = w' := by
  have c0 : w.cell? ⟨b, 0, none⟩ = some (.int .i64 0) := by simp [World.cell?, hb]
  have c1 : w.cell? ⟨b, 1, none⟩ = some (.int .i64 0) := by simp [World.cell?, hb]
  have c2 : w.cell? ⟨b, 2, none⟩ = some (.int .i64 z) := by simp [World.cell?, hb]
  clear hb
  go_enter Tryz.func116, Tryz.ntmps116
  go_wp2
  go_loop [8] (fun i => i = .int .i64 0 ∨ i = .int .i64 1 ∨ i = .int .i64 2) (fun i => 3 - (intOf i).toNat)
  case atStart => exact Or.inl rfl
  case round =>
    rcases hrel with rfl | rfl | rfl
    · go_wp2
      go_round
      case rel => exact Or.inr (Or.inl rfl)
      case measure => simp [intOf]
    · go_wp2
      go_round
      case rel => exact Or.inr (Or.inr (rfl))
      case measure => simp [intOf]
    · go_wp2
      go_ret
      exact ⟨rfl, rfl⟩
set_option maxHeartbeats 1000000 in
theorem or_4 (b : Nat) (w : World) (hb : w.heap[b]? = some (.cells #[.int .i64 0, .int .i64 0, .int .i64 0] 3 (0, 0))) :
    Calls Tryz.prog 116 #[.slice (some ⟨b, 0, none⟩) 3 3] w fun e w' => e = .returned (.int .i64 0) ∧ w = w' := by
  have c0 : w.cell? ⟨b, 0, none⟩ = some (.int .i64 0) := by simp [World.cell?, hb]
  have c1 : w.cell? ⟨b, 1, none⟩ = some (.int .i64 0) := by simp [World.cell?, hb]
  have c2 : w.cell? ⟨b, 2, none⟩ = some (.int .i64 0) := by simp [World.cell?, hb]
  clear hb
  go_enter Tryz.func116, Tryz.ntmps116
  go_wp2
  go_loop [8] (fun i => i = .int .i64 0 ∨ i = .int .i64 1 ∨ i = .int .i64 2 ∨ i = .int .i64 3) (fun i => 3 - (intOf i).toNat)
  case atStart => exact Or.inl rfl
  case round =>
    rcases hrel with rfl | rfl | rfl | rfl
    · go_wp2
      go_round
      case rel => exact Or.inr (Or.inl rfl)
      case measure => simp [intOf]
    · go_wp2
      go_round
      case rel => exact Or.inr (Or.inr (Or.inl rfl))
      case measure => simp [intOf]
    · go_wp2
      go_round
      case rel => exact Or.inr (Or.inr (Or.inr (rfl)))
      case measure => simp [intOf]
    · go_wp2
      go_ret
      exact ⟨rfl, rfl⟩
theorem or_any (x y z : Int) (b : Nat) (w : World) (hb : w.heap[b]? = some (.cells #[.int .i64 x, .int .i64 y, .int .i64 z] 3 (0, 0))) :
    Calls Tryz.prog 116 #[.slice (some ⟨b, 0, none⟩) 3 3] w fun e w' => e = .returned (.int .i64 (orI x (orI y z))) ∧ w = w' := by
  by_cases hx : x = 0
  · subst hx
    by_cases hy : y = 0
    · subst hy
      by_cases hz : z = 0
      · subst hz
        exact or_4 b w hb
      · exact or_3 z b w (by simpa using hz) hb
    · rw [show orI 0 (orI y z) = y from (if_pos rfl).trans (if_neg hy)]
      exact or_2 y z b w (by simpa using hy) hb
  · rw [show orI x (orI y z) = x from if_neg hx]
    exact or_1 x y z b w (by simpa using hx) hb
/-- What Compare answers. -/
def cmpS (K N : Int) (S : ByteArray) (K' N' : Int) (S' : ByteArray) : Int := compareL K N (bl S) K' N' (bl S')
theorem cmp_no {K N : Int} {S : ByteArray} {K' N' : Int} {S' : ByteArray} (h : goodB K N S = false ∨ goodB K' N' S' = false) : cmpS K N S K' N' S' = 0 := by
  unfold cmpS compareL
  rw [if_neg]
  rintro ⟨h1, h2⟩
  rcases h with h | h <;> unfold goodB at h <;> simp_all
theorem cmp_yes {K N : Int} {S : ByteArray} {K' N' : Int} {S' : ByteArray} (h : goodB K N S = true) (h' : goodB K' N' S' = true) : cmpS K N S K' N' S' = orI (cmpI K K') (orI (cmpI N N') (cmpB (bl S) (bl S'))) := by
  unfold cmpS compareL
  unfold goodB at h h'
  rw [if_pos ⟨by simpa using h, by simpa using h'⟩]
  rfl
/-- A boxed value. -/
def Bx (b : Nat) (K N : Int) (S : ByteArray) (w : World) : Prop := w.heap[b]? = some (.cells #[.int .i64 K, .int .i64 N, .string S] 78 (0, 0))
theorem Bx.on {b : Nat} {K N : Int} {S : ByteArray} {w w' : World} (h : Bx b K N S w) (hb : Below w.heap.size w w') : Bx b K N S w' := (hb.block _ (lt_of_block h)).trans h
theorem Bx.cells {b : Nat} {K N : Int} {S : ByteArray} {w : World} (h : Bx b K N S w) : w.cell? ⟨b, 0, none⟩ = some (.int .i64 K) ∧ w.cell? ⟨b, 1, none⟩ = some (.int .i64 N) ∧ w.cell? ⟨b, 2, none⟩ = some (.string S) := by
  unfold Bx at h
  simp [World.cell?, h]
theorem Bx.new (K N : Int) (S : ByteArray) (w : World) : Bx w.heap.size K N S (w.alloc (.cells #[.int .i64 K, .int .i64 N, .string S] 78)) := heap_alloc_new _ _
set_option maxRecDepth 100000 in
set_option maxHeartbeats 1000000 in
theorem compare_any (K N : Int) (S : ByteArray) (K' N' : Int) (S' : ByteArray) (w : World) :
    Calls Tryz.prog 70 #[.agg #[.int .i64 K, .int .i64 N, .string S], .agg #[.int .i64 K', .int .i64 N', .string S']] w fun e w' => e = .returned (.int .i64 (cmpS K N S K' N' S')) ∧ Below w.heap.size w w' := by
  have B2 : Hid (Below w.heap.size w ((w.alloc (.cells #[.int .i64 K, .int .i64 N, .string S] 78)).alloc (.cells #[.int .i64 K', .int .i64 N', .string S'] 78))) := hid (((Below.refl _ _).alloc (Nat.le_refl _) _).alloc (by simp) _)
  have X2 : Hid (Bx w.heap.size K N S ((w.alloc (.cells #[.int .i64 K, .int .i64 N, .string S] 78)).alloc (.cells #[.int .i64 K', .int .i64 N', .string S'] 78))) := hid ((Bx.new K N S w).on ((Below.refl _ _).alloc (Nat.le_refl _) _))
  have Y2 : Hid (Bx (w.heap.size + 1) K' N' S' ((w.alloc (.cells #[.int .i64 K, .int .i64 N, .string S] 78)).alloc (.cells #[.int .i64 K', .int .i64 N', .string S'] 78))) := hid (by
    have h := Bx.new K' N' S' (w.alloc (.cells #[.int .i64 K, .int .i64 N, .string S] 78))
    have e : (w.alloc (.cells #[.int .i64 K, .int .i64 N, .string S] 78)).heap.size = w.heap.size + 1 := by simp
    rw [e] at h
    exact h)
  cases hg : goodB K N S with
  | false =>
    rw [cmp_no (Or.inl hg)]
    have G := good_any K N S
    rw [hg] at G
    have HG := hid G
    clear G hg
    go_enter Tryz.func70, Tryz.ntmps70
    go_wp2_with fail
    refine (HG.out _).mono ?_
    rintro e w3 ⟨rfl, hb3⟩
    have B3 := hid (B2.out.trans (hb3.mono B2.out.size))
    clear hb3
    go_wp2
    go_ret
    exact ⟨rfl, B3.out⟩
  | true =>
    have G := good_any K N S
    rw [hg] at G
    have HG := hid G
    clear G
    cases hg' : goodB K' N' S' with
    | false =>
      rw [cmp_no (Or.inr hg')]
      have G' := good_any K' N' S'
      rw [hg'] at G'
      have HG' := hid G'
      clear G' hg hg'
      go_enter Tryz.func70, Tryz.ntmps70
      go_wp2_with fail
      refine (HG.out _).mono ?_
      rintro e w3 ⟨rfl, hb3⟩
      obtain ⟨y0, y1, y2⟩ := (Y2.out.on hb3).cells
      have B3 := hid (B2.out.trans (hb3.mono B2.out.size))
      clear hb3
      go_wp2_with fail
      refine (HG'.out _).mono ?_
      rintro e w4 ⟨rfl, hb4⟩
      have B4 := hid (B3.out.trans (hb4.mono B3.out.size))
      clear hb4
      go_wp2
      go_ret
      exact ⟨rfl, B4.out⟩
    | true =>
      rw [cmp_yes hg hg']
      have G' := good_any K' N' S'
      rw [hg'] at G'
      have HG' := hid G'
      clear G' hg hg'
      generalize hk : cmpI K K' = ck
      generalize hn : cmpI N N' = cn
      generalize hs : cmpB (bl S) (bl S') = cs
      have C1 := hid (fun w => (cmpi_any K K' w))
      have C2 := hid (fun w => (cmpi_any N N' w))
      have C3 := hid (fun w => (cmps_any S S' w))
      rw [hk] at C1
      rw [hn] at C2
      rw [hs] at C3
      clear hk hn hs
      go_enter Tryz.func70, Tryz.ntmps70
      go_wp2_with fail
      refine (HG.out _).mono ?_
      rintro e w3 ⟨rfl, hb3⟩
      obtain ⟨y0, y1, y2⟩ := (Y2.out.on hb3).cells
      have X3 := hid (X2.out.on hb3)
      have Y3 := hid (Y2.out.on hb3)
      have B3 := hid (B2.out.trans (hb3.mono B2.out.size))
      clear hb3
      go_wp2_with fail
      refine (HG'.out _).mono ?_
      rintro e w4 ⟨rfl, hb4⟩
      have X4 := X3.out.on hb4
      have Y4 := Y3.out.on hb4
      have B4 := hid (B3.out.trans (hb4.mono B3.out.size))
      clear hb4 y0 y1 y2 X2 X3 Y2 Y3 B2 B3
      obtain ⟨x0, x1, x2⟩ := X4.cells
      obtain ⟨y0, y1, y2⟩ := Y4.cells
      clear X4 Y4
      go_wp2_with fail
      refine wp_region_still_tail 15 (by kernel_rfl) (by kernel_rfl) ?_
      simp only [List.take_succ_cons, List.take_zero, List.drop_succ_cons, List.drop_zero]
      have BD : Hid (Below w.heap.size w { w4 with drawn := w4.drawn + 1 }) := hid (B4.out.drew)
      have k0 : World.cell? { w4 with drawn := w4.drawn + 1 } ⟨w.heap.size, 0, none⟩ = some (.int .i64 K) := x0
      have k1 : World.cell? { w4 with drawn := w4.drawn + 1 } ⟨w.heap.size, 1, none⟩ = some (.int .i64 N) := x1
      have k2 : World.cell? { w4 with drawn := w4.drawn + 1 } ⟨w.heap.size, 2, none⟩ = some (.string S) := x2
      have l0 : World.cell? { w4 with drawn := w4.drawn + 1 } ⟨w.heap.size + 1, 0, none⟩ = some (.int .i64 K') := y0
      have l1 : World.cell? { w4 with drawn := w4.drawn + 1 } ⟨w.heap.size + 1, 1, none⟩ = some (.int .i64 N') := y1
      have l2 : World.cell? { w4 with drawn := w4.drawn + 1 } ⟨w.heap.size + 1, 2, none⟩ = some (.string S') := y2
      generalize ({ w4 with drawn := w4.drawn + 1 } : World) = w5 at *
      clear x0 x1 x2 y0 y1 y2
      still_step
      still_step
      still_step
      still_step
      still_call (C1.out _)
      still_step
      still_step
      still_step
      still_step
      still_call (C2.out _)
      still_step
      still_step
      still_step
      still_step
      still_call (C3.out _)
      refine wpStill_nil ?_
      clear k0 k1 k2 l0 l1 l2
      go_wp2_with fail
      refine (or_any ck cn cs w5.heap.size _ (heap_alloc_new _ _)).mono ?_
      rintro e w6 ⟨rfl, rfl⟩
      go_wp2
      go_ret
      exact ⟨rfl, BD.out.alloc BD.out.size _⟩
/-! ### The reference's -/
theorem cmpB_drop {a b : ByteArray} {k : Nat} (ha : k < a.size) (hb : k < b.size) :
    cmpB ((bl a).drop k) ((bl b).drop k) = if a[k] < b[k] then -1 else if b[k] < a[k] then 1 else cmpB ((bl a).drop (k + 1)) ((bl b).drop (k + 1)) := by
  have e1 : (bl a).drop k = a[k] :: (bl a).drop (k + 1) := by
    rw [List.drop_eq_getElem_cons (by simpa [bl] using ha)]; rfl
  have e2 : (bl b).drop k = b[k] :: (bl b).drop (k + 1) := by
    rw [List.drop_eq_getElem_cons (by simpa [bl] using hb)]; rfl
  rw [e1, e2]
  rfl
theorem cmpB_end {a b : ByteArray} {k : Nat} (h : k = a.size ∨ k = b.size) (ha : k ≤ a.size) (hb : k ≤ b.size) :
    cmpB ((bl a).drop k) ((bl b).drop k) = cmpI a.size b.size := by
  unfold cmpI
  have la : ((bl a).drop k).length = a.size - k := by rw [List.length_drop, bl_len]
  have lb : ((bl b).drop k).length = b.size - k := by rw [List.length_drop, bl_len]
  generalize (bl a).drop k = x at la ⊢
  generalize (bl b).drop k = y at lb ⊢
  match x, y with
  | [], [] =>
    simp at la lb
    rw [if_neg (by omega), if_neg (by omega)]; rfl
  | [], _ :: _ =>
    simp at la lb
    rw [if_pos (by omega)]; rfl
  | _ :: _, [] =>
    simp at la lb
    rw [if_neg (by omega), if_pos (by omega)]; rfl
  | _ :: _, _ :: _ =>
    simp at la lb
    omega
set_option maxHeartbeats 1000000 in
theorem rbytes_any (a b : ByteArray) (w : World) (hsa : a.size ≤ maxLen) :
    Calls Tryz.prog 118 #[.string a, .string b] w fun e w' => e = .returned (.int .i64 (cmpB (bl a) (bl b))) ∧ Below w.heap.size w w' := by
  unfold maxLen at hsa
  have H0 : Hid (cmpB (bl a) (bl b) = cmpB ((bl a).drop 0) ((bl b).drop 0)) := hid rfl
  have HD := hid (fun k ha hb => cmpB_drop (a := a) (b := b) (k := k) ha hb)
  have HE := hid (fun k h ha hb => cmpB_end (a := a) (b := b) (k := k) h ha hb)
  generalize cmpB (bl a) (bl b) = r at H0 ⊢
  go_enter Tryz.func118, Tryz.ntmps118
  go_wp2
  go_loopw [5] (fun i wr => ∃ k : Nat, k ≤ a.size ∧ k ≤ b.size ∧ i = .int .i64 k ∧ Hid (r = cmpB ((bl a).drop k) ((bl b).drop k)) ∧ Below w.heap.size w wr) (fun i _ => a.size - (intOf i).toNat)
  case atStart => exact ⟨0, Nat.zero_le _, Nat.zero_le _, rfl, H0, Below.refl _ _⟩
  case round =>
    obtain ⟨k, hka, hkb, rfl, HK, hb⟩ := hrel
    have HB := hid hb
    clear hb
    by_cases hlt : k < a.size ∧ k < b.size
    · obtain ⟨la, lb⟩ := hlt
      have hd := HD.out k la lb
      simp only [UInt8.lt_iff_toNat_lt] at hd
      rcases Nat.lt_trichotomy a[k].toNat b[k].toNat with h | h | h
      · have hr := HK.out
        rw [hd, if_pos h] at hr
        subst hr
        have h1 : (a[k].toNat : Int) < (b[k].toNat : Int) := by omega
        clear hd h
        go_wp2
        go_region
        go_wp2
        go_ret
        exact ⟨rfl, HB.out.drew⟩
      · have hr := HK.out
        rw [hd, if_neg (by omega), if_neg (by omega)] at hr
        have HK' := hid hr
        have h1 : ¬ (a[k].toNat : Int) < (b[k].toNat : Int) := by omega
        have h2 : ¬ (b[k].toNat : Int) < (a[k].toNat : Int) := by omega
        clear hd h hr
        go_wp2
        go_region
        go_wp2
        go_region
        go_wp2
        go_roundw
        case rel => exact ⟨k + 1, by omega, by omega, by go_num, HK', HB.out.drew.drew⟩
        case measure => simp [intOf]; omega
      · have hr := HK.out
        rw [hd, if_neg (by omega), if_pos h] at hr
        subst hr
        have h1 : ¬ (a[k].toNat : Int) < (b[k].toNat : Int) := by omega
        have h2 : (b[k].toNat : Int) < (a[k].toNat : Int) := by omega
        clear hd h
        go_wp2
        go_region
        go_wp2
        go_region
        go_wp2
        go_ret
        exact ⟨rfl, HB.out.drew.drew⟩
    · have he := HE.out k (by omega) hka hkb
      have hr := HK.out
      rw [he] at hr
      clear he
      have hf : decide ((k : Int) < (a.size : Int)) = false ∨ (decide ((k : Int) < (a.size : Int)) = true ∧ decide ((k : Int) < (b.size : Int)) = false) := by
        by_cases h : k < a.size
        · exact Or.inr ⟨by simpa using h, by simp; omega⟩
        · exact Or.inl (by simp; omega)
      have hf' : (¬ (k : Int) < (a.size : Int)) ∨ ((k : Int) < (a.size : Int) ∧ ¬ (k : Int) < (b.size : Int)) := by omega
      clear hf
      rcases Nat.lt_trichotomy a.size b.size with h | h | h
      · rw [show cmpI a.size b.size = -1 from if_pos (by omega)] at hr
        subst hr
        have h1 : (a.size : Int) < (b.size : Int) := by omega
        rcases hf' with h3 | ⟨h3, h4⟩
        all_goals (
          go_wp2
          go_ret
          exact ⟨rfl, HB.out⟩)
      · rw [show cmpI a.size b.size = 0 by unfold cmpI; rw [if_neg (by omega), if_neg (by omega)]] at hr
        subst hr
        have h1 : ¬ (a.size : Int) < (b.size : Int) := by omega
        have h2 : ¬ (b.size : Int) < (a.size : Int) := by omega
        have HQ := hid h
        clear h
        rcases hf' with h3 | ⟨h3, h4⟩
        all_goals (
          go_wp2
          go_ret
          exact ⟨rfl, HB.out⟩)
      · rw [show cmpI a.size b.size = 1 by unfold cmpI; rw [if_neg (by omega), if_pos (by omega)]] at hr
        subst hr
        have h1 : ¬ (a.size : Int) < (b.size : Int) := by omega
        have h2 : (b.size : Int) < (a.size : Int) := by omega
        rcases hf' with h3 | ⟨h3, h4⟩
        all_goals (
          go_wp2
          go_ret
          exact ⟨rfl, HB.out⟩)
theorem good_size {K N : Int} {S : ByteArray} (h : goodB K N S = true) : S.size ≤ 2000 := by
  have g : Good K N (bl S) := by unfold goodB at h; simpa using h
  rw [← bl_len]
  rcases g with ⟨_, _, h⟩ | ⟨_, h⟩ | ⟨_, _, h⟩
  · rw [h]; simp
  · rw [h]; simp
  · exact h
set_option maxRecDepth 100000 in
set_option maxHeartbeats 2000000 in
theorem rcompare_any (K N : Int) (S : ByteArray) (K' N' : Int) (S' : ByteArray) (w : World) :
    Calls Tryz.prog 71 #[.agg #[.int .i64 K, .int .i64 N, .string S], .agg #[.int .i64 K', .int .i64 N', .string S']] w fun e w' => e = .returned (.int .i64 (cmpS K N S K' N' S')) ∧ Below w.heap.size w w' := by
  have B2 : Hid (Below w.heap.size w ((w.alloc (.cells #[.int .i64 K, .int .i64 N, .string S] 78)).alloc (.cells #[.int .i64 K', .int .i64 N', .string S'] 78))) := hid (((Below.refl _ _).alloc (Nat.le_refl _) _).alloc (by simp) _)
  have X2 : Hid (Bx w.heap.size K N S ((w.alloc (.cells #[.int .i64 K, .int .i64 N, .string S] 78)).alloc (.cells #[.int .i64 K', .int .i64 N', .string S'] 78))) := hid ((Bx.new K N S w).on ((Below.refl _ _).alloc (Nat.le_refl _) _))
  have Y2 : Hid (Bx (w.heap.size + 1) K' N' S' ((w.alloc (.cells #[.int .i64 K, .int .i64 N, .string S] 78)).alloc (.cells #[.int .i64 K', .int .i64 N', .string S'] 78))) := hid (by
    have h := Bx.new K' N' S' (w.alloc (.cells #[.int .i64 K, .int .i64 N, .string S] 78))
    have e : (w.alloc (.cells #[.int .i64 K, .int .i64 N, .string S] 78)).heap.size = w.heap.size + 1 := by simp
    rw [e] at h
    exact h)
  cases hg : goodB K N S with
  | false =>
    rw [cmp_no (Or.inl hg)]
    have G := rgood_any K N S
    rw [hg] at G
    have HG := hid G
    clear G hg
    go_enter Tryz.func71, Tryz.ntmps71
    go_wp2_with fail
    refine (HG.out _).mono ?_
    rintro e w3 ⟨rfl, hb3⟩
    have B3 := hid (B2.out.trans (hb3.mono B2.out.size))
    clear hb3
    go_wp2
    go_ret
    exact ⟨rfl, B3.out⟩
  | true =>
    have G := rgood_any K N S
    rw [hg] at G
    have HG := hid G
    clear G
    cases hg' : goodB K' N' S' with
    | false =>
      rw [cmp_no (Or.inr hg')]
      have G' := rgood_any K' N' S'
      rw [hg'] at G'
      have HG' := hid G'
      clear G' hg hg'
      go_enter Tryz.func71, Tryz.ntmps71
      go_wp2_with fail
      refine (HG.out _).mono ?_
      rintro e w3 ⟨rfl, hb3⟩
      obtain ⟨y0, y1, y2⟩ := (Y2.out.on hb3).cells
      have B3 := hid (B2.out.trans (hb3.mono B2.out.size))
      clear hb3
      go_wp2_with fail
      refine (HG'.out _).mono ?_
      rintro e w4 ⟨rfl, hb4⟩
      have B4 := hid (B3.out.trans (hb4.mono B3.out.size))
      clear hb4
      go_wp2
      go_ret
      exact ⟨rfl, B4.out⟩
    | true =>
      have HZ := hid (good_size hg)
      rw [cmp_yes hg hg']
      have G' := rgood_any K' N' S'
      rw [hg'] at G'
      have HG' := hid G'
      clear G' hg hg'
      have C3 := hid (fun w => (rbytes_any S S' w (by unfold maxLen; have := HZ.out; omega)))
      generalize hs : cmpB (bl S) (bl S') = cs at C3 ⊢
      clear hs
      have ways : ∀ a b : Int, (((a != b) = true ∧ a < b ∧ cmpI a b = -1) ∨ ((a != b) = true ∧ ¬ a < b ∧ b < a ∧ cmpI a b = 1) ∨ a = b) := by
        intro a b
        unfold cmpI
        rcases Int.lt_trichotomy a b with h | h | h
        · exact Or.inl ⟨by simp; omega, h, if_pos h⟩
        · exact Or.inr (Or.inr h)
        · exact Or.inr (Or.inl ⟨by simp; omega, by omega, h, by rw [if_neg (by omega), if_pos h]⟩)
      have wN := hid (ways N N')
      have wK := ways K K'
      clear ways
      rcases wK with ⟨d1, d2, d3⟩ | ⟨d1, d2, d3, d4⟩ | rfl
      · rw [d3, show orI (-1) (orI (cmpI N N') cs) = -1 from rfl]
        clear d3
        go_enter Tryz.func71, Tryz.ntmps71
        go_wp2_with fail
        refine (HG.out _).mono ?_
        rintro e w3 ⟨rfl, hb3⟩
        obtain ⟨y0, y1, y2⟩ := (Y2.out.on hb3).cells
        have X3 := hid (X2.out.on hb3)
        have Y3 := hid (Y2.out.on hb3)
        have B3 := hid (B2.out.trans (hb3.mono B2.out.size))
        clear hb3
        go_wp2_with fail
        refine (HG'.out _).mono ?_
        rintro e w4 ⟨rfl, hb4⟩
        have B4 := hid (B3.out.trans (hb4.mono B3.out.size))
        clear y0 y1 y2
        obtain ⟨x0, x1, x2⟩ := (X3.out.on hb4).cells
        obtain ⟨y0, y1, y2⟩ := (Y3.out.on hb4).cells
        clear hb4
        go_wp2
        go_ret
        exact ⟨rfl, B4.out⟩
      · rw [d4, show orI 1 (orI (cmpI N N') cs) = 1 from rfl]
        clear d4
        go_enter Tryz.func71, Tryz.ntmps71
        go_wp2_with fail
        refine (HG.out _).mono ?_
        rintro e w3 ⟨rfl, hb3⟩
        obtain ⟨y0, y1, y2⟩ := (Y2.out.on hb3).cells
        have X3 := hid (X2.out.on hb3)
        have Y3 := hid (Y2.out.on hb3)
        have B3 := hid (B2.out.trans (hb3.mono B2.out.size))
        clear hb3
        go_wp2_with fail
        refine (HG'.out _).mono ?_
        rintro e w4 ⟨rfl, hb4⟩
        have B4 := hid (B3.out.trans (hb4.mono B3.out.size))
        clear y0 y1 y2
        obtain ⟨x0, x1, x2⟩ := (X3.out.on hb4).cells
        obtain ⟨y0, y1, y2⟩ := (Y3.out.on hb4).cells
        clear hb4
        go_wp2
        go_ret
        exact ⟨rfl, B4.out⟩
      · rw [cmpI_self, show orI 0 (orI (cmpI N N') cs) = orI (cmpI N N') cs from rfl]
        rcases wN.out with ⟨d1, d2, d3⟩ | ⟨d1, d2, d3, d4⟩ | rfl
        · rw [d3, show orI (-1) cs = -1 from rfl]
          clear d3 d1
          go_enter Tryz.func71, Tryz.ntmps71
          go_wp2_with fail
          refine (HG.out _).mono ?_
          rintro e w3 ⟨rfl, hb3⟩
          obtain ⟨y0, y1, y2⟩ := (Y2.out.on hb3).cells
          have X3 := hid (X2.out.on hb3)
          have Y3 := hid (Y2.out.on hb3)
          have B3 := hid (B2.out.trans (hb3.mono B2.out.size))
          clear hb3
          go_wp2_with fail
          refine (HG'.out _).mono ?_
          rintro e w4 ⟨rfl, hb4⟩
          have B4 := hid (B3.out.trans (hb4.mono B3.out.size))
          clear y0 y1 y2
          obtain ⟨x0, x1, x2⟩ := (X3.out.on hb4).cells
          obtain ⟨y0, y1, y2⟩ := (Y3.out.on hb4).cells
          clear hb4
          go_wp2
          go_ret
          exact ⟨rfl, B4.out⟩
        · rw [d4, show orI 1 cs = 1 from rfl]
          clear d4 d1
          go_enter Tryz.func71, Tryz.ntmps71
          go_wp2_with fail
          refine (HG.out _).mono ?_
          rintro e w3 ⟨rfl, hb3⟩
          obtain ⟨y0, y1, y2⟩ := (Y2.out.on hb3).cells
          have X3 := hid (X2.out.on hb3)
          have Y3 := hid (Y2.out.on hb3)
          have B3 := hid (B2.out.trans (hb3.mono B2.out.size))
          clear hb3
          go_wp2_with fail
          refine (HG'.out _).mono ?_
          rintro e w4 ⟨rfl, hb4⟩
          have B4 := hid (B3.out.trans (hb4.mono B3.out.size))
          clear y0 y1 y2
          obtain ⟨x0, x1, x2⟩ := (X3.out.on hb4).cells
          obtain ⟨y0, y1, y2⟩ := (Y3.out.on hb4).cells
          clear hb4
          go_wp2
          go_ret
          exact ⟨rfl, B4.out⟩
        · rw [cmpI_self, show orI 0 cs = cs from rfl]
          go_enter Tryz.func71, Tryz.ntmps71
          go_wp2_with fail
          refine (HG.out _).mono ?_
          rintro e w3 ⟨rfl, hb3⟩
          obtain ⟨y0, y1, y2⟩ := (Y2.out.on hb3).cells
          have X3 := hid (X2.out.on hb3)
          have Y3 := hid (Y2.out.on hb3)
          have B3 := hid (B2.out.trans (hb3.mono B2.out.size))
          clear hb3
          go_wp2_with fail
          refine (HG'.out _).mono ?_
          rintro e w4 ⟨rfl, hb4⟩
          have B4 := hid (B3.out.trans (hb4.mono B3.out.size))
          clear y0 y1 y2
          obtain ⟨x0, x1, x2⟩ := (X3.out.on hb4).cells
          obtain ⟨y0, y1, y2⟩ := (Y3.out.on hb4).cells
          clear hb4
          go_wp2_with fail
          refine (C3.out _).mono ?_
          rintro e w5 ⟨rfl, hb5⟩
          have B5 := hid (B4.out.trans (hb5.mono B4.out.size))
          clear hb5
          go_wp2
          go_ret
          exact ⟨rfl, B5.out⟩
end Va
end Go.Proofs.YtiellodbkanciaaGreatDoor

/-
  Contract of the project's Key; what the calls read of the library's variables.
-/
namespace Go.Proofs.YtiellodbkanciaaGreatDoor
open Go.RowKit
namespace Va
open Num (hid fixF)
def bs (l : Bs) : ByteArray := ⟨l.toArray⟩
theorem bl_bs (l : Bs) : bl (bs l) = l := rfl
theorem bs_bl (S : ByteArray) : bs (bl S) = S := rfl
theorem bs_append (a b : Bs) : bs a ++ bs b = bs (a ++ b) := by
  apply ByteArray.ext
  rw [ByteArray.data_append]
  apply Array.ext'
  simp [bs]
theorem bs_size (l : Bs) : (bs l).size = l.length := by show l.toArray.size = _; simp
/-- What the calls read of the library's variables. -/
structure Glob (w : World) : Prop where
  ml : ∃ m, w.cell? ⟨0, 0, none⟩ = some (.int .i64 m)
  pow : Lib.TabIs Tryz.prog w "internal/strconv.uint64pow10" .u64 Lib.pow10Tab
  syn : ∃ te pe, w.cell? ⟨4, 0, none⟩ = some (.iface te pe)
  rng : ∃ te pe, w.cell? ⟨5, 0, none⟩ = some (.iface te pe)
theorem powNamed : Tryz.prog.globalNamed "internal/strconv.uint64pow10" = some 3 := by kernel_rfl
theorem Glob.on {w w' : World} (g : Glob w) (hb : Below w.heap.size w w') : Glob w' := by
  obtain ⟨⟨m, hm⟩, hp, ⟨t1, p1, h1⟩, ⟨t2, p2, h2⟩⟩ := g
  refine ⟨⟨m, (hb.cell (p := ⟨0, 0, none⟩) (World.block_lt_of_cell? _ _ hm)).trans hm⟩, ?_, ⟨t1, p1, (hb.cell (p := ⟨4, 0, none⟩) (World.block_lt_of_cell? _ _ h1)).trans h1⟩, ⟨t2, p2, (hb.cell (p := ⟨5, 0, none⟩) (World.block_lt_of_cell? _ _ h2)).trans h2⟩⟩
  unfold Lib.TabIs World.var? at hp ⊢
  rw [powNamed] at hp ⊢
  simp only [Option.bind_some] at hp ⊢
  have hlt : 3 < w.heap.size := by
    apply Classical.byContradiction
    intro hn
    rw [Array.getElem?_eq_none (by omega)] at hp
    cases hp
  rw [hb.block 3 hlt]
  exact hp
theorem Glob.drew {w : World} (g : Glob w) : Glob w.drew := g.on (Below.refl _ _).drew
theorem repl_any (S : ByteArray) (hS : S.size ≤ 2000) (w : World) (g : Glob w) :
    Calls Tryz.prog 119 #[.string S, .string ⟨#[0]⟩, .string ⟨#[0, 255]⟩] w fun e w' => e = .returned (.string (bs (stuff (bl S)))) ∧ Below w.heap.size w w' := by
  obtain ⟨m, hm⟩ := g.ml
  have X : Builder.Extra Tryz.prog Tryz.replL_ren := {
    sizeBuilder := by kernel_rfl
    liesBuilder := by kernel_rfl
    t5 := Tryz.replL.t5
    a5 := Tryz.replL.a5
    z5 := Tryz.replL.z5
    v5 := Tryz.replL.v5
    infoByte := by kernel_rfl
    cellsByte := by kernel_rfl
    sizeByte := by kernel_rfl
    neB5 := by decide }
  have hc : Lib.countB S ⟨#[0]⟩ ≤ 2000 := by
    show Lib.count S.data.toList [0] ≤ 2000
    rw [Lib.count_one]
    have := List.count_le_length (a := (0 : UInt8)) (l := S.data.toList)
    have e : S.data.toList.length = S.size := bl_len S
    omega
  have e2 : (⟨#[0, 255]⟩ : ByteArray).size = 2 := rfl
  refine (Any.strings_ReplaceAll Tryz.replL X S ⟨#[0]⟩ ⟨#[0, 255]⟩ m w (by omega) hm (by decide) (by rw [e2]; omega)).mono ?_
  rintro e w' ⟨rfl, hb⟩
  refine ⟨?_, hb⟩
  rw [← replaceAll_stuff]
  rfl
theorem cell_at {w : World} {b : Nat} {cs : Array Value} {t : TypeId} {f : Nat × Nat} (h : w.heap[b]? = some (.cells cs t f)) (j : Nat) : w.cell? ⟨b, j, none⟩ = cs[j]? := by simp [World.cell?, h]
/-- A row of one byte, made anew, as a text. -/
theorem conv_one (x : UInt8) (w : World) : (convert 80 9 (.slice (some ⟨w.heap.size, 0, none⟩) 1 1)).run Tryz.prog (w.alloc (.cells #[.int .u8 (x.toNat : Int)] 5)) = .ok (.string ⟨#[x]⟩) (w.alloc (.cells #[.int .u8 (x.toNat : Int)] 5)) :=
  run_convert_bytes_back (P := Tryz.prog) _ 80 9 5 ⟨w.heap.size, 0, none⟩ 1 [x] Tryz.underlying80 Tryz.underlying5 Tryz.underlying9 (fun j hj => by
    have h := heap_alloc_new w (.cells #[.int .u8 (x.toNat : Int)] 5)
    match j, hj with
    | 0, _ => rw [Addr.add_lit, cell_at h]; rfl)
/-- A value's key. -/
def keyS (K N : Int) (S : ByteArray) : ByteArray := bs (keyL K N (bl S))
theorem off_wrap {N : Int} (h : InI N) : IntKind.u64.wrap (IntKind.u64.wrap N + 9223372036854775808) = ((off N : Nat) : Int) := by
  unfold InI at h
  unfold off
  rw [Num.wrap_u, Num.wrap_u]
  omega
theorem fix8_off (N : Int) (hN : InI N) (w : World) :
    Calls Tryz.prog 86 #[.int .u64 (off N), .int .i64 8] w fun e w' => e = .returned (.string (bs (fixF 8 (off N)))) ∧ Below w.heap.size w w' :=
  (Num.fixed_any (off N) (off_lt hN) 8 w).mono fun _ _ h => h
theorem key_bad {K N : Int} {S : ByteArray} (h : goodB K N S = false) : keyS K N S = ⟨#[]⟩ := by
  unfold keyS keyL
  unfold goodB at h
  rw [if_neg (by simpa using h)]
  rfl
theorem good_of {K N : Int} {S : ByteArray} (h : goodB K N S = true) : Good K N (bl S) := by unfold goodB at h; simpa using h
set_option maxRecDepth 100000 in
set_option maxHeartbeats 1000000 in
theorem key_any (K N : Int) (S : ByteArray) (hN : InI N) (w : World) (g : Glob w) :
    Calls Tryz.prog 72 #[.agg #[.int .i64 K, .int .i64 N, .string S]] w fun e w' => e = .returned (.string (keyS K N S)) ∧ Below w.heap.size w w' := by
  have B1 : Hid (Below w.heap.size w (w.alloc (.cells #[.int .i64 K, .int .i64 N, .string S] 78))) := hid ((Below.refl _ _).alloc (Nat.le_refl _) _)
  have X1 : Hid (Bx w.heap.size K N S (w.alloc (.cells #[.int .i64 K, .int .i64 N, .string S] 78))) := hid (Bx.new K N S w)
  have G := good_any K N S
  cases hg : goodB K N S with
  | false =>
    rw [key_bad hg]
    rw [hg] at G
    have HG := hid G
    clear G hg
    go_enter Tryz.func72, Tryz.ntmps72
    go_wp2_with fail
    refine (HG.out _).mono ?_
    rintro e w3 ⟨rfl, hb3⟩
    have B3 := hid (B1.out.trans (hb3.mono B1.out.size))
    clear hb3
    go_wp2
    go_ret
    exact ⟨rfl, B3.out⟩
  | true =>
    rw [hg] at G
    have HG := hid G
    clear G
    have gg := good_of hg
    have hz := hid (good_size hg)
    have HN := hid hN
    have Hg := hid g
    rcases gg with ⟨rfl, rfl, hS⟩ | ⟨rfl, hS⟩ | ⟨hK, rfl, hS⟩
    · have e : keyS 0 0 S = ⟨#[0]⟩ := by
        unfold keyS keyL
        rw [hS, if_pos good_null, if_pos rfl]
        rfl
      rw [e]
      clear e hS hg hN g
      go_enter Tryz.func72, Tryz.ntmps72
      go_wp2_with fail
      refine (HG.out _).mono ?_
      rintro e w3 ⟨rfl, hb3⟩
      have B3 := hid (B1.out.trans (hb3.mono B1.out.size))
      obtain ⟨k0, k1, k2⟩ := (X1.out.on hb3).cells
      have hlt3 := lt_of_block (X1.out.on hb3)
      clear hb3
      have hcv : (convert 80 9 (.slice (some ⟨w3.heap.size, 0, none⟩) 1 1)).run Tryz.prog (w3.alloc (.cells #[.int .u8 0] 5)) = .ok (.string ⟨#[0]⟩) (w3.alloc (.cells #[.int .u8 0] 5)) := conv_one 0 w3
      go_wp2
      go_ret
      exact ⟨rfl, B3.out.alloc B3.out.size _⟩
    · have e : keyS 1 N S = ⟨#[1]⟩ ++ bs (fixF 8 (off N)) := by
        unfold keyS keyL
        rw [hS, if_pos (good_int N), if_neg (by decide), if_pos rfl, show (⟨#[1]⟩ : ByteArray) = bs [1] from rfl, bs_append]
        rfl
      rw [e]
      have hw := off_wrap hN
      clear e hS hg hN g
      have h8 : ¬ 9223372036854775807 < (⟨#[1]⟩ : ByteArray).size + (bs (fixF 8 (off N))).size := by
        rw [bs_size, Num.fixF_length]; decide
      go_enter Tryz.func72, Tryz.ntmps72
      go_wp2_with fail
      refine (HG.out _).mono ?_
      rintro e w3 ⟨rfl, hb3⟩
      have B3 := hid (B1.out.trans (hb3.mono B1.out.size))
      obtain ⟨k0, k1, k2⟩ := (X1.out.on hb3).cells
      have hlt3 := lt_of_block (X1.out.on hb3)
      clear hb3
      have hcv : (convert 80 9 (.slice (some ⟨w3.heap.size, 0, none⟩) 1 1)).run Tryz.prog (w3.alloc (.cells #[.int .u8 1] 5)) = .ok (.string ⟨#[1]⟩) (w3.alloc (.cells #[.int .u8 1] 5)) := conv_one 1 w3
      go_wp2_with fail
      refine (fix8_off N HN.out _).mono ?_
      rintro e w4 ⟨rfl, hb4⟩
      have B4 := hid ((B3.out.alloc B3.out.size (.cells #[.int .u8 1] 5)).trans (hb4.mono (by have := B3.out.size; simp; omega)))
      clear hb4
      go_wp2
      go_ret
      exact ⟨rfl, B4.out⟩
    · have e : keyS K 0 S = bs [UInt8.ofNat K.toNat] ++ bs (stuff (bl S)) ++ ⟨#[0, 1]⟩ := by
        have gK : Good K 0 (bl S) := Or.inr (Or.inr ⟨hK, rfl, hS⟩)
        unfold keyS keyL
        rw [if_pos gK, if_neg (by omega), if_neg (by omega), show (⟨#[0, 1]⟩ : ByteArray) = bs [0, 1] from rfl, bs_append, bs_append]
        simp
      rw [e]
      have hsl := stuff_length (bl S)
      have hz2 : S.size ≤ 2000 := hz.out
      have h8 : ¬ 9223372036854775807 < (bs [UInt8.ofNat K.toNat]).size + (bs (stuff (bl S))).size := by
        rw [bs_size, bs_size]; simp; omega
      have h9 : ¬ 9223372036854775807 < 1 + (bs (stuff (bl S))).size + 2 := by
        rw [bs_size, bl_len] at *; omega
      clear e hS hg hN g hsl hz2
      rcases hK with rfl | rfl
      · have e8 : bs [UInt8.ofNat (2 : Int).toNat] = ⟨#[2]⟩ := rfl
        rw [e8] at h8 ⊢
        go_enter Tryz.func72, Tryz.ntmps72
        go_wp2_with fail
        refine (HG.out _).mono ?_
        rintro e w3 ⟨rfl, hb3⟩
        have B3 := hid (B1.out.trans (hb3.mono B1.out.size))
        obtain ⟨k0, k1, k2⟩ := (X1.out.on hb3).cells
        have hlt3 := lt_of_block (X1.out.on hb3)
        clear hb3
        have hcv : (convert 80 9 (.slice (some ⟨w3.heap.size, 0, none⟩) 1 1)).run Tryz.prog (w3.alloc (.cells #[.int .u8 2] 5)) = .ok (.string ⟨#[2]⟩) (w3.alloc (.cells #[.int .u8 2] 5)) := conv_one 2 w3
        go_wp2_with fail
        refine (repl_any S hz.out _ ((Hg.out.on B3.out).on ((Below.refl _ _).alloc (Nat.le_refl _) _))).mono ?_
        rintro e w4 ⟨rfl, hb4⟩
        have B4 := hid ((B3.out.alloc B3.out.size (.cells #[.int .u8 2] 5)).trans (hb4.mono (by have := B3.out.size; simp; omega)))
        clear hb4
        go_wp2
        go_ret
        exact ⟨rfl, B4.out⟩
      · have e8 : bs [UInt8.ofNat (3 : Int).toNat] = ⟨#[3]⟩ := rfl
        rw [e8] at h8 ⊢
        go_enter Tryz.func72, Tryz.ntmps72
        go_wp2_with fail
        refine (HG.out _).mono ?_
        rintro e w3 ⟨rfl, hb3⟩
        have B3 := hid (B1.out.trans (hb3.mono B1.out.size))
        obtain ⟨k0, k1, k2⟩ := (X1.out.on hb3).cells
        have hlt3 := lt_of_block (X1.out.on hb3)
        clear hb3
        have hcv : (convert 80 9 (.slice (some ⟨w3.heap.size, 0, none⟩) 1 1)).run Tryz.prog (w3.alloc (.cells #[.int .u8 3] 5)) = .ok (.string ⟨#[3]⟩) (w3.alloc (.cells #[.int .u8 3] 5)) := conv_one 3 w3
        go_wp2_with fail
        refine (repl_any S hz.out _ ((Hg.out.on B3.out).on ((Below.refl _ _).alloc (Nat.le_refl _) _))).mono ?_
        rintro e w4 ⟨rfl, hb4⟩
        have B4 := hid ((B3.out.alloc B3.out.size (.cells #[.int .u8 3] 5)).trans (hb4.mono (by have := B3.out.size; simp; omega)))
        clear hb4
        go_wp2
        go_ret
        exact ⟨rfl, B4.out⟩
end Va
end Go.Proofs.YtiellodbkanciaaGreatDoor

/-
  Small laws on a []byte that a call makes: some bytes appended to it, a row of one byte, string(b); regions that draw their order and make memory alone.
-/
namespace Go.Proofs.YtiellodbkanciaaGreatDoor
open Go.RowKit
namespace Va
open Num (hid bcells bcells_len)
theorem bcells_append (l m : Bs) : bcells (l ++ m) = bcells l ++ bcells m := by simp [bcells]
/-- A region that draws its order and whose operations are quiet in the class C: one walk of the text's order. -/
theorem wp_quiet_in {P : Program} {id : Nat} {Q : Exit → Act → World → Prop} {a : Act} {w : World} {l : List Oper} (C : World → Prop) (hm : P.follows .mixedOrders = true) (hB : Region.lexB .any l.toArray = true) (hC : C w.drew)
    (h : wpQuiet P l.toArray C (fun a' => ∀ w', C w' → Q .normal a' w') l a) : (Code.region id l.toArray true).wp P Q a w :=
  wp_region_quiet (C := C) hm hB hC (by simpa using h)
theorem take_snoc {S : ByteArray} {k : Nat} (h : k < S.size) : (bl S).take (k + 1) = (bl S).take k ++ [S[k]] := by
  rw [List.take_succ_eq_append_getElem (by rw [bl_len]; exact h)]; rfl
/-- A row of the call's own that holds bytes. -/
abbrev OwnB (w : World) (base : Nat) (v : Value) (l : Bs) : Prop := w.ownsRow base 5 1 v l.length (bcells l)
theorem own_one (w : World) (base : Nat) (hb : base ≤ w.heap.size) (x : UInt8) : OwnB (w.alloc (.cells #[.int .u8 (x.toNat : Int)] 5)) base (.slice (some ⟨w.heap.size, 0, none⟩) 1 1) [x] :=
  ⟨by simp [bcells], .inr ⟨w.heap.size, 1, _, rfl, hb, heap_alloc_new w _, Nat.le_refl _, by decide, rfl, by simp [bcells]⟩⟩
theorem own_none (w : World) (base : Nat) : OwnB w base (.slice none 0 0) [] := ⟨by simp [bcells], .inl ⟨rfl, rfl⟩⟩
theorem own_on {w w' : World} {base : Nat} {v : Value} {l : Bs} (h : OwnB w base v l) (hb : Below w.heap.size w w') : OwnB w' base v l := by
  obtain ⟨h1, h2⟩ := h
  refine ⟨h1, ?_⟩
  rcases h2 with h2 | ⟨g, cap, cur, e1, e2, e3, e4⟩
  · exact Or.inl h2
  · exact Or.inr ⟨g, cap, cur, e1, e2, (hb.block _ (lt_of_block e3)).trans e3, e4⟩
theorem conv_b {w : World} {base : Nat} {v : Value} {l : Bs} (hpos : 1 ≤ l.length) (h : OwnB w base v l) : (convert 80 9 v).run Tryz.prog w = .ok (.string (bs l)) w :=
  Num.conv_own (P := Tryz.prog) (l := l) (n := l.length) 80 9 5 Tryz.underlying80 Tryz.underlying5 Tryz.underlying9 rfl hpos h
theorem conv_all {w : World} {base : Nat} {v : Value} {l : Bs} (h : OwnB w base v l) : (convert 80 9 v).run Tryz.prog w = .ok (.string (bs l)) w := by
  rcases h.2 with ⟨rfl, h0⟩ | ⟨g, cap, cur, rfl, _⟩
  · have e : l = [] := List.length_eq_zero_iff.1 h0
    subst e
    exact Lib.run_convert_nil_bytes w _ _ _ 0 Tryz.underlying80 Tryz.underlying5 Tryz.underlying9
  · refine run_convert_bytes_back (P := Tryz.prog) w 80 9 5 ⟨g, 0, none⟩ cap l Tryz.underlying80 Tryz.underlying5 Tryz.underlying9 fun j hj => ?_
    exact h.cells (g := g) rfl j (.int .u8 (l[j].toNat : Int)) (by simp [bcells, hj])
/-- len of such a row. -/
theorem own_ways {w : World} {base : Nat} {v : Value} {l : Bs} (h : OwnB w base v l) : (v = .slice none 0 0 ∧ l = []) ∨ ∃ g cap, v = .slice (some ⟨g, 0, none⟩) l.length cap := by
  rcases h.2 with ⟨rfl, h0⟩ | ⟨g, cap, cur, rfl, _⟩
  · exact Or.inl ⟨rfl, List.length_eq_zero_iff.1 h0⟩
  · exact Or.inr ⟨g, cap, rfl⟩
/-- 'b = append(b, x, y, ..)' on a []byte of the call's own: b owns the bytes more; the old memory stays. -/
theorem wpList_append_bytes {w w0 : World} {ops : Array Oper} {rest : List Oper} {o : Oper} {a : Act} {Q : Exit → Act → World → Prop} (hgd : o.guard = none) (s x : Operand)
    (ho : o.op = .call { callee := .builtin .append, args := #[s, x], argTypes := #[80, 80] })
    (base : Nat) (v : Value) (l : Bs) (hs : a.eval s = v) (hown : OwnB w base v l) (hbel : Below base w0 w) (hbase : base ≤ w.heap.size)
    (g : Nat) (l2 : Bs) (hx : a.eval x = .slice (some ⟨g, 0, none⟩) l2.length l2.length) (hcell : ∀ j (hj : j < l2.length), w.cell? ⟨g, j, none⟩ = some (.int .u8 (l2[j].toNat : Int))) (hlen : l.length + l2.length ≤ 140737488355327)
    (h : ∀ v' w', OwnB w' base v' (l ++ l2) → Below base w0 w' → wpList Tryz.prog ops Q rest (a.put o.dst v') w') : wpList Tryz.prog ops Q (o :: rest) a w := by
  obtain ⟨i, hi, h0, h1, h2⟩ := info_parts Num.Tryz.info5
  refine wpList_append_own w hgd s x 80 ho base 5 i (.int .u8 0) 1 1 Tryz.underlying80 hi h0 h1 h2 rfl (by decide) v l.length (bcells l) hs hown ⟨g, 0, none⟩ l2.length l2.length (bcells l2) hx (by rw [bcells_len]; omega) ?_ ?_ ?_ ?_ hbase ?_
  · intro j u hj
    have hlt : j < l2.length := by
      have := (List.getElem?_eq_some_iff.1 hj).1
      rwa [bcells_len] at this
    have hc := hcell j hlt
    have e : u = .int .u8 (l2[j].toNat : Int) := by
      have := (List.getElem?_eq_some_iff.1 hj).2
      rw [← this]
      simp [bcells]
    rw [e]
    rw [Addr.add_lit]
    simpa using hc
  · intro u hu
    simp only [bcells, List.mem_map] at hu
    obtain ⟨b, _, rfl⟩ := hu
    rfl
  · unfold maxLen; omega
  · omega
  · intro v' w' ho' hg' _
    refine h v' w' ?_ (hbel.grown hg' hbase (fun k hk => (hown.lt k hk).1))
    unfold OwnB
    rw [bcells_append, List.length_append]
    exact ho'
theorem new_one (w : World) (x : UInt8) : ∀ j (hj : j < [x].length), (w.alloc (.cells #[.int .u8 (x.toNat : Int)] 5)).cell? ⟨w.heap.size, j, none⟩ = some (.int .u8 ([x][j].toNat : Int)) := by
  intro j hj
  have h := heap_alloc_new w (.cells #[.int .u8 (x.toNat : Int)] 5)
  match j, hj with
  | 0, _ => rw [cell_at h]; rfl
theorem new_two (w : World) (x y : UInt8) : ∀ j (hj : j < [x, y].length), (w.alloc (.cells #[.int .u8 (x.toNat : Int), .int .u8 (y.toNat : Int)] 5)).cell? ⟨w.heap.size, j, none⟩ = some (.int .u8 ([x, y][j].toNat : Int)) := by
  intro j hj
  have h := heap_alloc_new w (.cells #[.int .u8 (x.toNat : Int), .int .u8 (y.toNat : Int)] 5)
  match j, hj with
  | 0, _ => rw [cell_at h]; rfl
  | 1, _ => rw [cell_at h]; rfl
theorem new_three (w : World) (x y z : UInt8) : ∀ j (hj : j < [x, y, z].length), (w.alloc (.cells #[.int .u8 (x.toNat : Int), .int .u8 (y.toNat : Int), .int .u8 (z.toNat : Int)] 5)).cell? ⟨w.heap.size, j, none⟩ = some (.int .u8 ([x, y, z][j].toNat : Int)) := by
  intro j hj
  have h := heap_alloc_new w (.cells #[.int .u8 (x.toNat : Int), .int .u8 (y.toNat : Int), .int .u8 (z.toNat : Int)] 5)
  match j, hj with
  | 0, _ => rw [cell_at h]; rfl
  | 1, _ => rw [cell_at h]; rfl
  | 2, _ => rw [cell_at h]; rfl
end Va
end Go.Proofs.YtiellodbkanciaaGreatDoor

/-
  Small laws that Unkey, Parse and what goes over bytes share: prefixes, the rest of a text, a boxed value, what is answered.
-/
namespace Go.Proofs.YtiellodbkanciaaGreatDoor
open Go.RowKit
namespace Va
open Num (hid)
theorem hp_any (s p : ByteArray) (w : World) : Calls Tryz.prog 90 #[.string s, .string p] w fun e w' => e = .returned (.bool (Lib.hasPrefix (bl s) (bl p))) ∧ w = w' :=
  (Any.strings_HasPrefix Tryz.prefL s p w).mono fun _ _ h => ⟨h.1, h.2.symm⟩
theorem hp_c (s p : ByteArray) (q : Bool) (h : (bl p).isPrefixOf (bl s) = q) (w : World) : Calls Tryz.prog 90 #[.string s, .string p] w fun e w' => e = .returned (.bool q) ∧ w = w' := by
  have := hp_any s p w
  rw [show Lib.hasPrefix (bl s) (bl p) = q from h] at this
  exact this
theorem rest_list (s : ByteArray) (k : Nat) : (s.extract k s.size).data.toList = (bl s).drop k := by
  rw [ByteArray.data_extract]
  simp only [Array.toList_extract, List.extract_eq_take_drop]
  exact List.take_of_length_le (by simp)
theorem rest_cons {s : ByteArray} {k : Nat} (h : k < s.size) : (bl s).drop k = s[k] :: (bl s).drop (k + 1) := by
  rw [List.drop_eq_getElem_cons (by rw [bl_len]; exact h)]; rfl
def uV (u : Un) : Value := .tuple #[.agg #[.int .i64 u.K, .int .i64 u.N, .string (bs u.S)], .int .i64 u.n, .int .i64 u.e]
theorem uV_eq {K N n e : Int} {S : ByteArray} {u : Un} (h1 : K = u.K) (h2 : N = u.N) (h3 : S = bs u.S) (h4 : n = u.n) (h5 : e = u.e) : Value.tuple #[.agg #[.int .i64 K, .int .i64 N, .string S], .int .i64 n, .int .i64 e] = uV u := by
  subst h1 h2 h3 h4 h5; rfl
theorem Bx.free {b : Nat} {K N : Int} {S : ByteArray} {w : World} (h : Bx b K N S w) : w.frozen? ⟨b, 0, none⟩ = false ∧ w.frozen? ⟨b, 1, none⟩ = false ∧ w.frozen? ⟨b, 2, none⟩ = false := by
  unfold Bx at h
  simp [World.frozen?, h]
theorem Bx.second {w : World} (K N K' N' : Int) (S S' : ByteArray) : Bx (w.heap.size + 1) K' N' S' ((w.alloc (.cells #[.int .i64 K, .int .i64 N, .string S] 78)).alloc (.cells #[.int .i64 K', .int .i64 N', .string S'] 78)) := by
  have h := Bx.new K' N' S' (w.alloc (.cells #[.int .i64 K, .int .i64 N, .string S] 78))
  have e : (w.alloc (.cells #[.int .i64 K, .int .i64 N, .string S] 78)).heap.size = w.heap.size + 1 := by simp
  rw [e] at h
  exact h
theorem Bx.first {w : World} (K N K' N' : Int) (S S' : ByteArray) : Bx w.heap.size K N S ((w.alloc (.cells #[.int .i64 K, .int .i64 N, .string S] 78)).alloc (.cells #[.int .i64 K', .int .i64 N', .string S'] 78)) :=
  (Bx.new K N S w).on ((Below.refl _ _).alloc (Nat.le_refl _) _)
theorem Bx.below {w : World} (K N K' N' : Int) (S S' : ByteArray) : Below w.heap.size w ((w.alloc (.cells #[.int .i64 K, .int .i64 N, .string S] 78)).alloc (.cells #[.int .i64 K', .int .i64 N', .string S'] 78)) :=
  ((Below.refl _ _).alloc (Nat.le_refl _) _).alloc (by simp) _
theorem own_slice {w : World} {base : Nat} {v : Value} {l : Bs} (h : OwnB w base v l) (hl : l ≠ []) : ∃ g cap L, v = .slice (some ⟨g, 0, none⟩) L cap ∧ L = l.length := by
  rcases own_ways h with ⟨_, h0⟩ | ⟨g, cap, rfl⟩
  · exact absurd h0 hl
  · exact ⟨g, cap, _, rfl, rfl⟩
theorem own_empty (w : World) (base : Nat) (hb : base ≤ w.heap.size) : OwnB (w.alloc (.cells #[] 5)) base (.slice (some ⟨w.heap.size, 0, none⟩) 0 0) [] :=
  World.ownsRow_made w #[] 0 hb (by decide) rfl
end Va
end Go.Proofs.YtiellodbkanciaaGreatDoor
