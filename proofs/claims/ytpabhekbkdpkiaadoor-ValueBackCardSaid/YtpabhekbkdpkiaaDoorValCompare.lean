/-
  Contracts of Compare, the project's and the reference's.
-/
import Derived.Test.YtpabhekbkdpkiaaDoorValSmall
import Derived.StillTailTactics
import Derived.Deep.QuietTactic
namespace Go.Proofs.YtpabhekbkdpkiaaDoor
open Go.RowKit
namespace Va
open Num (hid)

theorem cmps_any (a b : ByteArray) (w : World) : Calls Tryd.prog 24 #[.string a, .string b] w fun e w' => e = .returned (.int .i64 (cmpB (bl a) (bl b))) ∧ w' = w :=
  Any.strings_Compare Tryd.cmpL a b w
theorem cmpi_any (a b : Int) (w : World) : Calls Tryd.prog 23 #[.int .i64 a, .int .i64 b] w fun e w' => e = .returned (.int .i64 (cmpI a b)) ∧ w' = w :=
  Any.cmp_Compare_int Tryd.cmpIL a b w
set_option maxHeartbeats 1000000 in
theorem or_1 (x y z : Int) (b : Nat) (w : World) (hx : (x != 0) = true) (hb : w.heap[b]? = some (.cells #[.int .i64 x, .int .i64 y, .int .i64 z] 3 (0, 0))) :
    Calls Tryd.prog 22 #[.slice (some ⟨b, 0, none⟩) 3 3] w fun e w' => e = .returned (.int .i64 x) ∧ w = w' := by
  have c0 : w.cell? ⟨b, 0, none⟩ = some (.int .i64 x) := by simp [World.cell?, hb]
  have c1 : w.cell? ⟨b, 1, none⟩ = some (.int .i64 y) := by simp [World.cell?, hb]
  have c2 : w.cell? ⟨b, 2, none⟩ = some (.int .i64 z) := by simp [World.cell?, hb]
  clear hb
  go_enter Tryd.func22, Tryd.ntmps22
  go_wp2
  go_loop [8] (fun i => i = .int .i64 0) (fun i => 3 - (intOf i).toNat)
  case atStart => exact rfl
  case round =>
    rcases hrel with rfl
    · go_wp2
      go_ret
      exact ⟨rfl, rfl⟩
set_option maxHeartbeats 1000000 in
theorem or_2 (y z : Int) (b : Nat) (w : World) (hx : (y != 0) = true) (hb : w.heap[b]? = some (.cells #[.int .i64 0, .int .i64 y, .int .i64 z] 3 (0, 0))) :
    Calls Tryd.prog 22 #[.slice (some ⟨b, 0, none⟩) 3 3] w fun e w' => e = .returned (.int .i64 y) ∧ w = w' := by
  have c0 : w.cell? ⟨b, 0, none⟩ = some (.int .i64 0) := by simp [World.cell?, hb]
  have c1 : w.cell? ⟨b, 1, none⟩ = some (.int .i64 y) := by simp [World.cell?, hb]
  have c2 : w.cell? ⟨b, 2, none⟩ = some (.int .i64 z) := by simp [World.cell?, hb]
  clear hb
  go_enter Tryd.func22, Tryd.ntmps22
  go_wp2
  go_loop [8] (fun i => i = .int .i64 0 ∨ i = .int .i64 1) (fun i => 3 - (intOf i).toNat)
  case atStart => exact Or.inl rfl
  case round =>
    rcases hrel with rfl | rfl
    · go_wp2
      go_round
      case rel => exact Or.inr (rfl)
      case measure => simp [intOf]
    · go_wp2
      go_ret
      exact ⟨rfl, rfl⟩
set_option maxHeartbeats 1000000 in
theorem or_3 (z : Int) (b : Nat) (w : World) (hx : (z != 0) = true) (hb : w.heap[b]? = some (.cells #[.int .i64 0, .int .i64 0, .int .i64 z] 3 (0, 0))) :
    Calls Tryd.prog 22 #[.slice (some ⟨b, 0, none⟩) 3 3] w fun e w' => e = .returned (.int .i64 z) ∧ w = w' := by
  have c0 : w.cell? ⟨b, 0, none⟩ = some (.int .i64 0) := by simp [World.cell?, hb]
  have c1 : w.cell? ⟨b, 1, none⟩ = some (.int .i64 0) := by simp [World.cell?, hb]
  have c2 : w.cell? ⟨b, 2, none⟩ = some (.int .i64 z) := by simp [World.cell?, hb]
  clear hb
  go_enter Tryd.func22, Tryd.ntmps22
  go_wp2
  go_loop [8] (fun i => i = .int .i64 0 ∨ i = .int .i64 1 ∨ i = .int .i64 2) (fun i => 3 - (intOf i).toNat)
  case atStart => exact Or.inl rfl
  case round =>
    rcases hrel with rfl | rfl | rfl
    · go_wp2
      go_round
      case rel => exact Or.inr (Or.inl rfl)
      case measure => simp [intOf]
    · go_wp2
      go_round
      case rel => exact Or.inr (Or.inr (rfl))
      case measure => simp [intOf]
    · go_wp2
      go_ret
      exact ⟨rfl, rfl⟩
set_option maxHeartbeats 1000000 in
theorem or_4 (b : Nat) (w : World) (hb : w.heap[b]? = some (.cells #[.int .i64 0, .int .i64 0, .int .i64 0] 3 (0, 0))) :
    Calls Tryd.prog 22 #[.slice (some ⟨b, 0, none⟩) 3 3] w fun e w' => e = .returned (.int .i64 0) ∧ w = w' := by
  have c0 : w.cell? ⟨b, 0, none⟩ = some (.int .i64 0) := by simp [World.cell?, hb]
  have c1 : w.cell? ⟨b, 1, none⟩ = some (.int .i64 0) := by simp [World.cell?, hb]
  have c2 : w.cell? ⟨b, 2, none⟩ = some (.int .i64 0) := by simp [World.cell?, hb]
  clear hb
  go_enter Tryd.func22, Tryd.ntmps22
  go_wp2
  go_loop [8] (fun i => i = .int .i64 0 ∨ i = .int .i64 1 ∨ i = .int .i64 2 ∨ i = .int .i64 3) (fun i => 3 - (intOf i).toNat)
  case atStart => exact Or.inl rfl
  case round =>
    rcases hrel with rfl | rfl | rfl | rfl
    · go_wp2
      go_round
      case rel => exact Or.inr (Or.inl rfl)
      case measure => simp [intOf]
    · go_wp2
      go_round
      case rel => exact Or.inr (Or.inr (Or.inl rfl))
      case measure => simp [intOf]
    · go_wp2
      go_round
      case rel => exact Or.inr (Or.inr (Or.inr (rfl)))
      case measure => simp [intOf]
    · go_wp2
      go_ret
      exact ⟨rfl, rfl⟩
theorem or_any (x y z : Int) (b : Nat) (w : World) (hb : w.heap[b]? = some (.cells #[.int .i64 x, .int .i64 y, .int .i64 z] 3 (0, 0))) :
    Calls Tryd.prog 22 #[.slice (some ⟨b, 0, none⟩) 3 3] w fun e w' => e = .returned (.int .i64 (orI x (orI y z))) ∧ w = w' := by
  by_cases hx : x = 0
  · subst hx
    by_cases hy : y = 0
    · subst hy
      by_cases hz : z = 0
      · subst hz
        exact or_4 b w hb
      · exact or_3 z b w (by simpa using hz) hb
    · rw [show orI 0 (orI y z) = y from (if_pos rfl).trans (if_neg hy)]
      exact or_2 y z b w (by simpa using hy) hb
  · rw [show orI x (orI y z) = x from if_neg hx]
    exact or_1 x y z b w (by simpa using hx) hb
/-- What Compare answers. -/
def cmpS (K N : Int) (S : ByteArray) (K' N' : Int) (S' : ByteArray) : Int := compareL K N (bl S) K' N' (bl S')
theorem cmp_no {K N : Int} {S : ByteArray} {K' N' : Int} {S' : ByteArray} (h : goodB K N S = false ∨ goodB K' N' S' = false) : cmpS K N S K' N' S' = 0 := by
  unfold cmpS compareL
  rw [if_neg]
  rintro ⟨h1, h2⟩
  rcases h with h | h <;> unfold goodB at h <;> simp_all
theorem cmp_yes {K N : Int} {S : ByteArray} {K' N' : Int} {S' : ByteArray} (h : goodB K N S = true) (h' : goodB K' N' S' = true) : cmpS K N S K' N' S' = orI (cmpI K K') (orI (cmpI N N') (cmpB (bl S) (bl S'))) := by
  unfold cmpS compareL
  unfold goodB at h h'
  rw [if_pos ⟨by simpa using h, by simpa using h'⟩]
  rfl
/-- A boxed value. -/
def Bx (b : Nat) (K N : Int) (S : ByteArray) (w : World) : Prop := w.heap[b]? = some (.cells #[.int .i64 K, .int .i64 N, .string S] 23 (0, 0))
theorem Bx.on {b : Nat} {K N : Int} {S : ByteArray} {w w' : World} (h : Bx b K N S w) (hb : Below w.heap.size w w') : Bx b K N S w' := (hb.block _ (lt_of_block h)).trans h
theorem Bx.cells {b : Nat} {K N : Int} {S : ByteArray} {w : World} (h : Bx b K N S w) : w.cell? ⟨b, 0, none⟩ = some (.int .i64 K) ∧ w.cell? ⟨b, 1, none⟩ = some (.int .i64 N) ∧ w.cell? ⟨b, 2, none⟩ = some (.string S) := by
  unfold Bx at h
  simp [World.cell?, h]
theorem Bx.new (K N : Int) (S : ByteArray) (w : World) : Bx w.heap.size K N S (w.alloc (.cells #[.int .i64 K, .int .i64 N, .string S] 23)) := heap_alloc_new _ _
set_option maxRecDepth 100000 in
set_option maxHeartbeats 1000000 in
theorem compare_any (K N : Int) (S : ByteArray) (K' N' : Int) (S' : ByteArray) (w : World) :
    Calls Tryd.prog 12 #[.agg #[.int .i64 K, .int .i64 N, .string S], .agg #[.int .i64 K', .int .i64 N', .string S']] w fun e w' => e = .returned (.int .i64 (cmpS K N S K' N' S')) ∧ Below w.heap.size w w' := by
  have B2 : Hid (Below w.heap.size w ((w.alloc (.cells #[.int .i64 K, .int .i64 N, .string S] 23)).alloc (.cells #[.int .i64 K', .int .i64 N', .string S'] 23))) := hid (((Below.refl _ _).alloc (Nat.le_refl _) _).alloc (by simp) _)
  have X2 : Hid (Bx w.heap.size K N S ((w.alloc (.cells #[.int .i64 K, .int .i64 N, .string S] 23)).alloc (.cells #[.int .i64 K', .int .i64 N', .string S'] 23))) := hid ((Bx.new K N S w).on ((Below.refl _ _).alloc (Nat.le_refl _) _))
  have Y2 : Hid (Bx (w.heap.size + 1) K' N' S' ((w.alloc (.cells #[.int .i64 K, .int .i64 N, .string S] 23)).alloc (.cells #[.int .i64 K', .int .i64 N', .string S'] 23))) := hid (by
    have h := Bx.new K' N' S' (w.alloc (.cells #[.int .i64 K, .int .i64 N, .string S] 23))
    have e : (w.alloc (.cells #[.int .i64 K, .int .i64 N, .string S] 23)).heap.size = w.heap.size + 1 := by simp
    rw [e] at h
    exact h)
  cases hg : goodB K N S with
  | false =>
    rw [cmp_no (Or.inl hg)]
    have G := good_any K N S
    rw [hg] at G
    have HG := hid G
    clear G hg
    go_enter Tryd.func12, Tryd.ntmps12
    go_wp2_with fail
    refine (HG.out _).mono ?_
    rintro e w3 ⟨rfl, hb3⟩
    have B3 := hid (B2.out.trans (hb3.mono B2.out.size))
    clear hb3
    go_wp2
    go_ret
    exact ⟨rfl, B3.out⟩
  | true =>
    have G := good_any K N S
    rw [hg] at G
    have HG := hid G
    clear G
    cases hg' : goodB K' N' S' with
    | false =>
      rw [cmp_no (Or.inr hg')]
      have G' := good_any K' N' S'
      rw [hg'] at G'
      have HG' := hid G'
      clear G' hg hg'
      go_enter Tryd.func12, Tryd.ntmps12
      go_wp2_with fail
      refine (HG.out _).mono ?_
      rintro e w3 ⟨rfl, hb3⟩
      obtain ⟨y0, y1, y2⟩ := (Y2.out.on hb3).cells
      have B3 := hid (B2.out.trans (hb3.mono B2.out.size))
      clear hb3
      go_wp2_with fail
      refine (HG'.out _).mono ?_
      rintro e w4 ⟨rfl, hb4⟩
      have B4 := hid (B3.out.trans (hb4.mono B3.out.size))
      clear hb4
      go_wp2
      go_ret
      exact ⟨rfl, B4.out⟩
    | true =>
      rw [cmp_yes hg hg']
      have G' := good_any K' N' S'
      rw [hg'] at G'
      have HG' := hid G'
      clear G' hg hg'
      generalize hk : cmpI K K' = ck
      generalize hn : cmpI N N' = cn
      generalize hs : cmpB (bl S) (bl S') = cs
      have C1 := hid (fun w => (cmpi_any K K' w))
      have C2 := hid (fun w => (cmpi_any N N' w))
      have C3 := hid (fun w => (cmps_any S S' w))
      rw [hk] at C1
      rw [hn] at C2
      rw [hs] at C3
      clear hk hn hs
      go_enter Tryd.func12, Tryd.ntmps12
      go_wp2_with fail
      refine (HG.out _).mono ?_
      rintro e w3 ⟨rfl, hb3⟩
      obtain ⟨y0, y1, y2⟩ := (Y2.out.on hb3).cells
      have X3 := hid (X2.out.on hb3)
      have Y3 := hid (Y2.out.on hb3)
      have B3 := hid (B2.out.trans (hb3.mono B2.out.size))
      clear hb3
      go_wp2_with fail
      refine (HG'.out _).mono ?_
      rintro e w4 ⟨rfl, hb4⟩
      have X4 := X3.out.on hb4
      have Y4 := Y3.out.on hb4
      have B4 := hid (B3.out.trans (hb4.mono B3.out.size))
      clear hb4 y0 y1 y2 X2 X3 Y2 Y3 B2 B3
      obtain ⟨x0, x1, x2⟩ := X4.cells
      obtain ⟨y0, y1, y2⟩ := Y4.cells
      clear X4 Y4
      go_wp2_with fail
      refine wp_region_still_tail 15 (by kernel_rfl) (by kernel_rfl) ?_
      simp only [List.take_succ_cons, List.take_zero, List.drop_succ_cons, List.drop_zero]
      have BD : Hid (Below w.heap.size w { w4 with drawn := w4.drawn + 1 }) := hid (B4.out.drew)
      have k0 : World.cell? { w4 with drawn := w4.drawn + 1 } ⟨w.heap.size, 0, none⟩ = some (.int .i64 K) := x0
      have k1 : World.cell? { w4 with drawn := w4.drawn + 1 } ⟨w.heap.size, 1, none⟩ = some (.int .i64 N) := x1
      have k2 : World.cell? { w4 with drawn := w4.drawn + 1 } ⟨w.heap.size, 2, none⟩ = some (.string S) := x2
      have l0 : World.cell? { w4 with drawn := w4.drawn + 1 } ⟨w.heap.size + 1, 0, none⟩ = some (.int .i64 K') := y0
      have l1 : World.cell? { w4 with drawn := w4.drawn + 1 } ⟨w.heap.size + 1, 1, none⟩ = some (.int .i64 N') := y1
      have l2 : World.cell? { w4 with drawn := w4.drawn + 1 } ⟨w.heap.size + 1, 2, none⟩ = some (.string S') := y2
      generalize ({ w4 with drawn := w4.drawn + 1 } : World) = w5 at *
      clear x0 x1 x2 y0 y1 y2
      still_step
      still_step
      still_step
      still_step
      still_call (C1.out _)
      still_step
      still_step
      still_step
      still_step
      still_call (C2.out _)
      still_step
      still_step
      still_step
      still_step
      still_call (C3.out _)
      refine wpStill_nil ?_
      clear k0 k1 k2 l0 l1 l2
      go_wp2_with fail
      refine (or_any ck cn cs w5.heap.size _ (heap_alloc_new _ _)).mono ?_
      rintro e w6 ⟨rfl, rfl⟩
      go_wp2
      go_ret
      exact ⟨rfl, BD.out.alloc BD.out.size _⟩
/-! ### The reference's -/
theorem cmpB_drop {a b : ByteArray} {k : Nat} (ha : k < a.size) (hb : k < b.size) :
    cmpB ((bl a).drop k) ((bl b).drop k) = if a[k] < b[k] then -1 else if b[k] < a[k] then 1 else cmpB ((bl a).drop (k + 1)) ((bl b).drop (k + 1)) := by
  have e1 : (bl a).drop k = a[k] :: (bl a).drop (k + 1) := by
    rw [List.drop_eq_getElem_cons (by simpa [bl] using ha)]; rfl
  have e2 : (bl b).drop k = b[k] :: (bl b).drop (k + 1) := by
    rw [List.drop_eq_getElem_cons (by simpa [bl] using hb)]; rfl
  rw [e1, e2]
  rfl
theorem cmpB_end {a b : ByteArray} {k : Nat} (h : k = a.size ∨ k = b.size) (ha : k ≤ a.size) (hb : k ≤ b.size) :
    cmpB ((bl a).drop k) ((bl b).drop k) = cmpI a.size b.size := by
  unfold cmpI
  have la : ((bl a).drop k).length = a.size - k := by rw [List.length_drop, bl_len]
  have lb : ((bl b).drop k).length = b.size - k := by rw [List.length_drop, bl_len]
  generalize (bl a).drop k = x at la ⊢
  generalize (bl b).drop k = y at lb ⊢
  match x, y with
  | [], [] =>
    simp at la lb
    rw [if_neg (by omega), if_neg (by omega)]; rfl
  | [], _ :: _ =>
    simp at la lb
    rw [if_pos (by omega)]; rfl
  | _ :: _, [] =>
    simp at la lb
    rw [if_neg (by omega), if_pos (by omega)]; rfl
  | _ :: _, _ :: _ =>
    simp at la lb
    omega
set_option maxHeartbeats 1000000 in
theorem rbytes_any (a b : ByteArray) (w : World) (hsa : a.size ≤ maxLen) :
    Calls Tryd.prog 25 #[.string a, .string b] w fun e w' => e = .returned (.int .i64 (cmpB (bl a) (bl b))) ∧ Below w.heap.size w w' := by
  unfold maxLen at hsa
  have H0 : Hid (cmpB (bl a) (bl b) = cmpB ((bl a).drop 0) ((bl b).drop 0)) := hid rfl
  have HD := hid (fun k ha hb => cmpB_drop (a := a) (b := b) (k := k) ha hb)
  have HE := hid (fun k h ha hb => cmpB_end (a := a) (b := b) (k := k) h ha hb)
  generalize cmpB (bl a) (bl b) = r at H0 ⊢
  go_enter Tryd.func25, Tryd.ntmps25
  go_wp2
  go_loopw [5] (fun i wr => ∃ k : Nat, k ≤ a.size ∧ k ≤ b.size ∧ i = .int .i64 k ∧ Hid (r = cmpB ((bl a).drop k) ((bl b).drop k)) ∧ Below w.heap.size w wr) (fun i _ => a.size - (intOf i).toNat)
  case atStart => exact ⟨0, Nat.zero_le _, Nat.zero_le _, rfl, H0, Below.refl _ _⟩
  case round =>
    obtain ⟨k, hka, hkb, rfl, HK, hb⟩ := hrel
    have HB := hid hb
    clear hb
    by_cases hlt : k < a.size ∧ k < b.size
    · obtain ⟨la, lb⟩ := hlt
      have hd := HD.out k la lb
      simp only [UInt8.lt_iff_toNat_lt] at hd
      rcases Nat.lt_trichotomy a[k].toNat b[k].toNat with h | h | h
      · have hr := HK.out
        rw [hd, if_pos h] at hr
        subst hr
        have h1 : (a[k].toNat : Int) < (b[k].toNat : Int) := by omega
        clear hd h
        go_wp2
        go_region
        go_wp2
        go_ret
        exact ⟨rfl, HB.out.drew⟩
      · have hr := HK.out
        rw [hd, if_neg (by omega), if_neg (by omega)] at hr
        have HK' := hid hr
        have h1 : ¬ (a[k].toNat : Int) < (b[k].toNat : Int) := by omega
        have h2 : ¬ (b[k].toNat : Int) < (a[k].toNat : Int) := by omega
        clear hd h hr
        go_wp2
        go_region
        go_wp2
        go_region
        go_wp2
        go_roundw
        case rel => exact ⟨k + 1, by omega, by omega, by go_num, HK', HB.out.drew.drew⟩
        case measure => simp [intOf]; omega
      · have hr := HK.out
        rw [hd, if_neg (by omega), if_pos h] at hr
        subst hr
        have h1 : ¬ (a[k].toNat : Int) < (b[k].toNat : Int) := by omega
        have h2 : (b[k].toNat : Int) < (a[k].toNat : Int) := by omega
        clear hd h
        go_wp2
        go_region
        go_wp2
        go_region
        go_wp2
        go_ret
        exact ⟨rfl, HB.out.drew.drew⟩
    · have he := HE.out k (by omega) hka hkb
      have hr := HK.out
      rw [he] at hr
      clear he
      have hf : decide ((k : Int) < (a.size : Int)) = false ∨ (decide ((k : Int) < (a.size : Int)) = true ∧ decide ((k : Int) < (b.size : Int)) = false) := by
        by_cases h : k < a.size
        · exact Or.inr ⟨by simpa using h, by simp; omega⟩
        · exact Or.inl (by simp; omega)
      have hf' : (¬ (k : Int) < (a.size : Int)) ∨ ((k : Int) < (a.size : Int) ∧ ¬ (k : Int) < (b.size : Int)) := by omega
      clear hf
      rcases Nat.lt_trichotomy a.size b.size with h | h | h
      · rw [show cmpI a.size b.size = -1 from if_pos (by omega)] at hr
        subst hr
        have h1 : (a.size : Int) < (b.size : Int) := by omega
        rcases hf' with h3 | ⟨h3, h4⟩
        all_goals (
          go_wp2
          go_ret
          exact ⟨rfl, HB.out⟩)
      · rw [show cmpI a.size b.size = 0 by unfold cmpI; rw [if_neg (by omega), if_neg (by omega)]] at hr
        subst hr
        have h1 : ¬ (a.size : Int) < (b.size : Int) := by omega
        have h2 : ¬ (b.size : Int) < (a.size : Int) := by omega
        have HQ := hid h
        clear h
        rcases hf' with h3 | ⟨h3, h4⟩
        all_goals (
          go_wp2
          go_ret
          exact ⟨rfl, HB.out⟩)
      · rw [show cmpI a.size b.size = 1 by unfold cmpI; rw [if_neg (by omega), if_pos (by omega)]] at hr
        subst hr
        have h1 : ¬ (a.size : Int) < (b.size : Int) := by omega
        have h2 : (b.size : Int) < (a.size : Int) := by omega
        rcases hf' with h3 | ⟨h3, h4⟩
        all_goals (
          go_wp2
          go_ret
          exact ⟨rfl, HB.out⟩)
theorem good_size {K N : Int} {S : ByteArray} (h : goodB K N S = true) : S.size ≤ 2000 := by
  have g : Good K N (bl S) := by unfold goodB at h; simpa using h
  rw [← bl_len]
  rcases g with ⟨_, _, h⟩ | ⟨_, h⟩ | ⟨_, _, h⟩
  · rw [h]; simp
  · rw [h]; simp
  · exact h
set_option maxRecDepth 100000 in
set_option maxHeartbeats 2000000 in
theorem rcompare_any (K N : Int) (S : ByteArray) (K' N' : Int) (S' : ByteArray) (w : World) :
    Calls Tryd.prog 13 #[.agg #[.int .i64 K, .int .i64 N, .string S], .agg #[.int .i64 K', .int .i64 N', .string S']] w fun e w' => e = .returned (.int .i64 (cmpS K N S K' N' S')) ∧ Below w.heap.size w w' := by
  have B2 : Hid (Below w.heap.size w ((w.alloc (.cells #[.int .i64 K, .int .i64 N, .string S] 23)).alloc (.cells #[.int .i64 K', .int .i64 N', .string S'] 23))) := hid (((Below.refl _ _).alloc (Nat.le_refl _) _).alloc (by simp) _)
  have X2 : Hid (Bx w.heap.size K N S ((w.alloc (.cells #[.int .i64 K, .int .i64 N, .string S] 23)).alloc (.cells #[.int .i64 K', .int .i64 N', .string S'] 23))) := hid ((Bx.new K N S w).on ((Below.refl _ _).alloc (Nat.le_refl _) _))
  have Y2 : Hid (Bx (w.heap.size + 1) K' N' S' ((w.alloc (.cells #[.int .i64 K, .int .i64 N, .string S] 23)).alloc (.cells #[.int .i64 K', .int .i64 N', .string S'] 23))) := hid (by
    have h := Bx.new K' N' S' (w.alloc (.cells #[.int .i64 K, .int .i64 N, .string S] 23))
    have e : (w.alloc (.cells #[.int .i64 K, .int .i64 N, .string S] 23)).heap.size = w.heap.size + 1 := by simp
    rw [e] at h
    exact h)
  cases hg : goodB K N S with
  | false =>
    rw [cmp_no (Or.inl hg)]
    have G := rgood_any K N S
    rw [hg] at G
    have HG := hid G
    clear G hg
    go_enter Tryd.func13, Tryd.ntmps13
    go_wp2_with fail
    refine (HG.out _).mono ?_
    rintro e w3 ⟨rfl, hb3⟩
    have B3 := hid (B2.out.trans (hb3.mono B2.out.size))
    clear hb3
    go_wp2
    go_ret
    exact ⟨rfl, B3.out⟩
  | true =>
    have G := rgood_any K N S
    rw [hg] at G
    have HG := hid G
    clear G
    cases hg' : goodB K' N' S' with
    | false =>
      rw [cmp_no (Or.inr hg')]
      have G' := rgood_any K' N' S'
      rw [hg'] at G'
      have HG' := hid G'
      clear G' hg hg'
      go_enter Tryd.func13, Tryd.ntmps13
      go_wp2_with fail
      refine (HG.out _).mono ?_
      rintro e w3 ⟨rfl, hb3⟩
      obtain ⟨y0, y1, y2⟩ := (Y2.out.on hb3).cells
      have B3 := hid (B2.out.trans (hb3.mono B2.out.size))
      clear hb3
      go_wp2_with fail
      refine (HG'.out _).mono ?_
      rintro e w4 ⟨rfl, hb4⟩
      have B4 := hid (B3.out.trans (hb4.mono B3.out.size))
      clear hb4
      go_wp2
      go_ret
      exact ⟨rfl, B4.out⟩
    | true =>
      have HZ := hid (good_size hg)
      rw [cmp_yes hg hg']
      have G' := rgood_any K' N' S'
      rw [hg'] at G'
      have HG' := hid G'
      clear G' hg hg'
      have C3 := hid (fun w => (rbytes_any S S' w (by unfold maxLen; have := HZ.out; omega)))
      generalize hs : cmpB (bl S) (bl S') = cs at C3 ⊢
      clear hs
      have ways : ∀ a b : Int, (((a != b) = true ∧ a < b ∧ cmpI a b = -1) ∨ ((a != b) = true ∧ ¬ a < b ∧ b < a ∧ cmpI a b = 1) ∨ a = b) := by
        intro a b
        unfold cmpI
        rcases Int.lt_trichotomy a b with h | h | h
        · exact Or.inl ⟨by simp; omega, h, if_pos h⟩
        · exact Or.inr (Or.inr h)
        · exact Or.inr (Or.inl ⟨by simp; omega, by omega, h, by rw [if_neg (by omega), if_pos h]⟩)
      have wN := hid (ways N N')
      have wK := ways K K'
      clear ways
      rcases wK with ⟨d1, d2, d3⟩ | ⟨d1, d2, d3, d4⟩ | rfl
      · rw [d3, show orI (-1) (orI (cmpI N N') cs) = -1 from rfl]
        clear d3
        go_enter Tryd.func13, Tryd.ntmps13
        go_wp2_with fail
        refine (HG.out _).mono ?_
        rintro e w3 ⟨rfl, hb3⟩
        obtain ⟨y0, y1, y2⟩ := (Y2.out.on hb3).cells
        have X3 := hid (X2.out.on hb3)
        have Y3 := hid (Y2.out.on hb3)
        have B3 := hid (B2.out.trans (hb3.mono B2.out.size))
        clear hb3
        go_wp2_with fail
        refine (HG'.out _).mono ?_
        rintro e w4 ⟨rfl, hb4⟩
        have B4 := hid (B3.out.trans (hb4.mono B3.out.size))
        clear y0 y1 y2
        obtain ⟨x0, x1, x2⟩ := (X3.out.on hb4).cells
        obtain ⟨y0, y1, y2⟩ := (Y3.out.on hb4).cells
        clear hb4
        go_wp2
        go_ret
        exact ⟨rfl, B4.out⟩
      · rw [d4, show orI 1 (orI (cmpI N N') cs) = 1 from rfl]
        clear d4
        go_enter Tryd.func13, Tryd.ntmps13
        go_wp2_with fail
        refine (HG.out _).mono ?_
        rintro e w3 ⟨rfl, hb3⟩
        obtain ⟨y0, y1, y2⟩ := (Y2.out.on hb3).cells
        have X3 := hid (X2.out.on hb3)
        have Y3 := hid (Y2.out.on hb3)
        have B3 := hid (B2.out.trans (hb3.mono B2.out.size))
        clear hb3
        go_wp2_with fail
        refine (HG'.out _).mono ?_
        rintro e w4 ⟨rfl, hb4⟩
        have B4 := hid (B3.out.trans (hb4.mono B3.out.size))
        clear y0 y1 y2
        obtain ⟨x0, x1, x2⟩ := (X3.out.on hb4).cells
        obtain ⟨y0, y1, y2⟩ := (Y3.out.on hb4).cells
        clear hb4
        go_wp2
        go_ret
        exact ⟨rfl, B4.out⟩
      · rw [cmpI_self, show orI 0 (orI (cmpI N N') cs) = orI (cmpI N N') cs from rfl]
        rcases wN.out with ⟨d1, d2, d3⟩ | ⟨d1, d2, d3, d4⟩ | rfl
        · rw [d3, show orI (-1) cs = -1 from rfl]
          clear d3 d1
          go_enter Tryd.func13, Tryd.ntmps13
          go_wp2_with fail
          refine (HG.out _).mono ?_
          rintro e w3 ⟨rfl, hb3⟩
          obtain ⟨y0, y1, y2⟩ := (Y2.out.on hb3).cells
          have X3 := hid (X2.out.on hb3)
          have Y3 := hid (Y2.out.on hb3)
          have B3 := hid (B2.out.trans (hb3.mono B2.out.size))
          clear hb3
          go_wp2_with fail
          refine (HG'.out _).mono ?_
          rintro e w4 ⟨rfl, hb4⟩
          have B4 := hid (B3.out.trans (hb4.mono B3.out.size))
          clear y0 y1 y2
          obtain ⟨x0, x1, x2⟩ := (X3.out.on hb4).cells
          obtain ⟨y0, y1, y2⟩ := (Y3.out.on hb4).cells
          clear hb4
          go_wp2
          go_ret
          exact ⟨rfl, B4.out⟩
        · rw [d4, show orI 1 cs = 1 from rfl]
          clear d4 d1
          go_enter Tryd.func13, Tryd.ntmps13
          go_wp2_with fail
          refine (HG.out _).mono ?_
          rintro e w3 ⟨rfl, hb3⟩
          obtain ⟨y0, y1, y2⟩ := (Y2.out.on hb3).cells
          have X3 := hid (X2.out.on hb3)
          have Y3 := hid (Y2.out.on hb3)
          have B3 := hid (B2.out.trans (hb3.mono B2.out.size))
          clear hb3
          go_wp2_with fail
          refine (HG'.out _).mono ?_
          rintro e w4 ⟨rfl, hb4⟩
          have B4 := hid (B3.out.trans (hb4.mono B3.out.size))
          clear y0 y1 y2
          obtain ⟨x0, x1, x2⟩ := (X3.out.on hb4).cells
          obtain ⟨y0, y1, y2⟩ := (Y3.out.on hb4).cells
          clear hb4
          go_wp2
          go_ret
          exact ⟨rfl, B4.out⟩
        · rw [cmpI_self, show orI 0 cs = cs from rfl]
          go_enter Tryd.func13, Tryd.ntmps13
          go_wp2_with fail
          refine (HG.out _).mono ?_
          rintro e w3 ⟨rfl, hb3⟩
          obtain ⟨y0, y1, y2⟩ := (Y2.out.on hb3).cells
          have X3 := hid (X2.out.on hb3)
          have Y3 := hid (Y2.out.on hb3)
          have B3 := hid (B2.out.trans (hb3.mono B2.out.size))
          clear hb3
          go_wp2_with fail
          refine (HG'.out _).mono ?_
          rintro e w4 ⟨rfl, hb4⟩
          have B4 := hid (B3.out.trans (hb4.mono B3.out.size))
          clear y0 y1 y2
          obtain ⟨x0, x1, x2⟩ := (X3.out.on hb4).cells
          obtain ⟨y0, y1, y2⟩ := (Y3.out.on hb4).cells
          clear hb4
          go_wp2_with fail
          refine (C3.out _).mono ?_
          rintro e w5 ⟨rfl, hb5⟩
          have B5 := hid (B4.out.trans (hb5.mono B4.out.size))
          clear hb5
          go_wp2
          go_ret
          exact ⟨rfl, B5.out⟩
end Va
end Go.Proofs.YtpabhekbkdpkiaaDoor
