/-
  Contracts of Encode, the project's and the reference's: what each call returns; the old memory stays.
-/
import Derived.Test.YtpfolialjajafaaHeadCode
import Derived.Test.YtpfolialjajafaaHeadShelf
namespace Go.Proofs.Ytpfolialjajafaa
open Go.RowKit
namespace Head
open Num (hid fixF unfF)
open Part (fx fx_size zerosS zerosS_size zerosL fixed4 fixed8 rfixed4 rfixed8 cell_at full full_any)

theorem extra : Builder.Extra Try.prog Try.repeatH_ren where
  sizeBuilder := by kernel_rfl
  liesBuilder := by kernel_rfl
  t5 := Try.repeatH.t5
  a5 := Try.repeatH.a5
  z5 := Try.repeatH.z5
  v5 := Try.repeatH.v5
  infoByte := by kernel_rfl
  cellsByte := by kernel_rfl
  sizeByte := by kernel_rfl
  neB5 := by decide
theorem repeat_is : Try.repeatH_ren.f 105 = 36 := by kernel_rfl
theorem repeat_any (k : Nat) (hk : k ≤ 1000) (w : World) :
    Calls Try.prog 36 #[.string ⟨#[0]⟩, .int .i64 k] w fun e w' => e = .returned (.string (zerosS k)) ∧ Below w.heap.size w w' := by
  have h := Any.strings_Repeat Try.repeatH extra ⟨#[0]⟩ k w (by omega) (by show 1 * k ≤ _; omega)
  rw [repeat_is] at h
  have e : Lib.repeatL (⟨#[0]⟩ : ByteArray).data.toList k = zerosL k := by
    have := Lib.repeatL_replicate 0 1 k
    rw [Nat.mul_one] at this
    exact this
  rw [e] at h
  exact h
theorem repeat_196 (w : World) : Calls Try.prog 36 #[.string ⟨#[0]⟩, .int .i64 196] w fun e w' => e = .returned (.string (zerosS 196)) ∧ Below w.heap.size w w' := repeat_any 196 (by decide) w

/-- The mark and the first k fields. -/
def pre (M P T S R : Nat) : Nat → ByteArray
  | 0 => markS
  | 1 => markS ++ fx 4 M
  | 2 => markS ++ fx 4 M ++ fx 4 P
  | 3 => markS ++ fx 4 M ++ fx 4 P ++ fx 4 T
  | 4 => markS ++ fx 4 M ++ fx 4 P ++ fx 4 T ++ fx 4 S
  | _ => markS ++ fx 4 M ++ fx 4 P ++ fx 4 T ++ fx 4 S ++ fx 4 R
theorem mark_size : markS.size = 8 := rfl
theorem pre_size (M P T S R k : Nat) (h : k ≤ 5) : (pre M P T S R k).size = 8 + 4 * k := by
  have ways : k = 0 ∨ k = 1 ∨ k = 2 ∨ k = 3 ∨ k = 4 ∨ k = 5 := by omega
  rcases ways with rfl | rfl | rfl | rfl | rfl | rfl <;> simp only [pre, ByteArray.size_append, fx_size, mark_size] <;> rfl
theorem pre_room (M P T S R k n m : Nat) (h : k ≤ 5) (hm : m ≤ 8) : ¬ 9223372036854775807 < (pre M P T S R k).size + (fx m n).size := by
  rw [pre_size _ _ _ _ _ _ h, fx_size]; omega

/-- Six cells of a block: a head. -/
def Six (b : Nat) (M P T S R : Int) (C : Int) (wx : World) : Prop := wx.heap[b]? = some (.cells #[.int .i64 M, .int .i64 P, .int .i64 T, .int .i64 S, .int .i64 R, .int .u64 C] 24 (0, 0))
theorem Six.on {b : Nat} {M P T S R C : Int} {w1 w2 : World} (h : Six b M P T S R C w1) (hb : Below w1.heap.size w1 w2) : Six b M P T S R C w2 := (hb.block _ (lt_of_block h)).trans h
theorem Six.cells {b : Nat} {M P T S R C : Int} {wx : World} (h : Six b M P T S R C wx) : wx.cell? ⟨b, 0, none⟩ = some (.int .i64 M) ∧ wx.cell? ⟨b, 1, none⟩ = some (.int .i64 P) ∧ wx.cell? ⟨b, 2, none⟩ = some (.int .i64 T) ∧ wx.cell? ⟨b, 3, none⟩ = some (.int .i64 S) ∧ wx.cell? ⟨b, 4, none⟩ = some (.int .i64 R) ∧ wx.cell? ⟨b, 5, none⟩ = some (.int .u64 C) :=
  ⟨cell_at h 0, cell_at h 1, cell_at h 2, cell_at h 3, cell_at h 4, cell_at h 5⟩

/-- The pointers at their places. -/
theorem ptrs_at (b : Nat) : (∀ w, (Instr.index 53 (.agg (ptrs b)) (.int .i64 0)).run Try.prog w = .ok (.pointer (some ⟨b, 0, none⟩)) w) ∧ (∀ w, (Instr.index 53 (.agg (ptrs b)) (.int .i64 1)).run Try.prog w = .ok (.pointer (some ⟨b, 1, none⟩)) w) ∧
    (∀ w, (Instr.index 53 (.agg (ptrs b)) (.int .i64 2)).run Try.prog w = .ok (.pointer (some ⟨b, 2, none⟩)) w) ∧ (∀ w, (Instr.index 53 (.agg (ptrs b)) (.int .i64 3)).run Try.prog w = .ok (.pointer (some ⟨b, 3, none⟩)) w) ∧
    (∀ w, (Instr.index 53 (.agg (ptrs b)) (.int .i64 4)).run Try.prog w = .ok (.pointer (some ⟨b, 4, none⟩)) w) := ⟨fun _ => by kernel_rfl, fun _ => by kernel_rfl, fun _ => by kernel_rfl, fun _ => by kernel_rfl, fun _ => by kernel_rfl⟩

set_option maxRecDepth 100000 in
set_option maxHeartbeats 4000000 in
theorem enc_yes (M P T S R C : Nat) (h : Fit M P T S R) (hC : C < 18446744073709551616) (w : World) :
    Calls Try.prog 9 #[.agg #[.int .i64 M, .int .i64 P, .int .i64 T, .int .i64 S, .int .i64 R, .int .u64 C]] w fun e w' => e = .returned (.tuple #[.string (headS M P T S R C), .int .i64 0]) ∧ Below w.heap.size w w' := by
  obtain ⟨s1, s2, s3, s4, s5⟩ := fit_small h
  have q1 : (M : Int) ≤ 4294967295 := by omega
  have q2 : (P : Int) ≤ 4294967295 := by omega
  have q3 : (T : Int) ≤ 4294967295 := by omega
  have q4 : (S : Int) ≤ 4294967295 := by omega
  have q5 : (R : Int) ≤ 4294967295 := by omega
  have Q1 := hid s1
  have Q2 := hid s2
  have Q3 := hid s3
  have Q4 := hid s4
  have Q5 := hid s5
  have HC := hid hC
  have HF := hid h
  have F0 : Six w.heap.size M P T S R C (w.alloc (.cells #[.int .i64 M, .int .i64 P, .int .i64 T, .int .i64 S, .int .i64 R, .int .u64 C] 24)) := heap_alloc_new _ _
  have B0 : Below w.heap.size w (w.alloc (.cells #[.int .i64 M, .int .i64 P, .int .i64 T, .int .i64 S, .int .i64 R, .int .u64 C] 24)) := (Below.refl _ _).alloc (Nat.le_refl _) _
  have H0 := hid F0
  have HB0 := hid B0
  clear h hC s1 s2 s3 s4 s5 F0 B0
  go_enter Try.func9, Try.ntmps9
  go_wp2_with fail
  refine (fit_yes _ _ _ _ _ _ HF.out _).mono ?_
  rintro e w1 ⟨rfl, hb1⟩
  have H1 := hid (H0.out.on hb1)
  have HB1 := hid (HB0.out.trans (hb1.mono HB0.out.size))
  clear hb1 H0 HB0
  go_wp2_with fail
  refine (words_any w.heap.size _).mono ?_
  rintro e w2 ⟨rfl, hb2⟩
  have H2 := hid (H1.out.on hb2)
  have HB2 := hid (HB1.out.trans (hb2.mono HB1.out.size))
  clear hb2 H1 HB1
  obtain ⟨i0, i1, i2, i3, i4⟩ := ptrs_at w.heap.size
  generalize hps : ptrs w.heap.size = ps at *
  clear hps
  go_wp2
  go_loopw [4, 11] (fun s i wr => ∃ k : Nat, k ≤ 5 ∧ i = .int .i64 k ∧ s = .string (pre M P T S R k) ∧ Six w.heap.size M P T S R C wr ∧ Below w.heap.size w wr) (fun _ i _ => 5 - (intOf i).toNat)
  case atStart => exact ⟨0, by omega, rfl, rfl, H2.out, HB2.out⟩
  case round =>
    obtain ⟨k, hk, rfl, rfl, F, B⟩ := hrel
    have HF3 := hid F
    have HB3 := hid B
    obtain ⟨k0, k1, k2, k3, k4, k5⟩ := F.cells
    clear F B
    have ways : k = 0 ∨ k = 1 ∨ k = 2 ∨ k = 3 ∨ k = 4 ∨ k = 5 := by omega
    clear hk
    rcases ways with rfl | rfl | rfl | rfl | rfl | rfl
    · have z := pre_room M P T S R 0 M 4 (by decide) (by decide)
      go_wp2_with fail
      refine (fixed4 M (by have := Q1.out; omega) _).mono ?_
      rintro e w3 ⟨rfl, hb3⟩
      have H4 := hid (HF3.out.on hb3)
      have HB4 := hid (HB3.out.trans (hb3.mono HB3.out.size))
      clear hb3
      go_wp2
      go_roundw
      case rel => exact ⟨1, by decide, rfl, rfl, H4.out, HB4.out⟩
      case measure => simp [intOf]
    · have z := pre_room M P T S R 1 P 4 (by decide) (by decide)
      go_wp2_with fail
      refine (fixed4 P (by have := Q2.out; omega) _).mono ?_
      rintro e w3 ⟨rfl, hb3⟩
      have H4 := hid (HF3.out.on hb3)
      have HB4 := hid (HB3.out.trans (hb3.mono HB3.out.size))
      clear hb3
      go_wp2
      go_roundw
      case rel => exact ⟨2, by decide, rfl, rfl, H4.out, HB4.out⟩
      case measure => simp [intOf]
    · have z := pre_room M P T S R 2 T 4 (by decide) (by decide)
      go_wp2_with fail
      refine (fixed4 T (by have := Q3.out; omega) _).mono ?_
      rintro e w3 ⟨rfl, hb3⟩
      have H4 := hid (HF3.out.on hb3)
      have HB4 := hid (HB3.out.trans (hb3.mono HB3.out.size))
      clear hb3
      go_wp2
      go_roundw
      case rel => exact ⟨3, by decide, rfl, rfl, H4.out, HB4.out⟩
      case measure => simp [intOf]
    · have z := pre_room M P T S R 3 S 4 (by decide) (by decide)
      go_wp2_with fail
      refine (fixed4 S (by have := Q4.out; omega) _).mono ?_
      rintro e w3 ⟨rfl, hb3⟩
      have H4 := hid (HF3.out.on hb3)
      have HB4 := hid (HB3.out.trans (hb3.mono HB3.out.size))
      clear hb3
      go_wp2
      go_roundw
      case rel => exact ⟨4, by decide, rfl, rfl, H4.out, HB4.out⟩
      case measure => simp [intOf]
    · have z := pre_room M P T S R 4 R 4 (by decide) (by decide)
      go_wp2_with fail
      refine (fixed4 R (by have := Q5.out; omega) _).mono ?_
      rintro e w3 ⟨rfl, hb3⟩
      have H4 := hid (HF3.out.on hb3)
      have HB4 := hid (HB3.out.trans (hb3.mono HB3.out.size))
      clear hb3
      go_wp2
      go_roundw
      case rel => exact ⟨5, by decide, rfl, rfl, H4.out, HB4.out⟩
      case measure => simp [intOf]
    · have z := pre_room M P T S R 5 C 8 (by decide) (by decide)
      have e1 : pre M P T S R 5 ++ fx 8 C = fieldsS M P T S R C := rfl
      have hsz := fields_size M P T S R C
      go_wp2_with fail
      refine (fixed8 C HC.out _).mono ?_
      rintro e w3 ⟨rfl, hb3⟩
      have HB4 := hid (HB3.out.trans (hb3.mono HB3.out.size))
      clear hb3
      have z2 : ¬ 9223372036854775807 < (fieldsS M P T S R C).size + (zerosS 196).size := by rw [fields_size, zerosS_size]; decide
      go_wp2_with fail
      refine (repeat_196 _).mono ?_
      rintro e w4 ⟨rfl, hb4⟩
      go_wp2
      go_ret2
      exact ⟨rfl, HB4.out.trans (hb4.mono HB4.out.size)⟩

set_option maxRecDepth 100000 in
set_option maxHeartbeats 1000000 in
theorem enc_no (M P T S R : Int) (C : Nat) (h : ¬ Fit M P T S R) (w : World) :
    Calls Try.prog 9 #[.agg #[.int .i64 M, .int .i64 P, .int .i64 T, .int .i64 S, .int .i64 R, .int .u64 C]] w fun e w' => e = .returned (.tuple #[.string ⟨#[]⟩, .int .i64 1]) ∧ Below w.heap.size w w' := by
  have HF := hid h
  clear h
  go_enter Try.func9, Try.ntmps9
  go_wp2_with fail
  refine (fit_no _ _ _ _ _ _ HF.out _).mono ?_
  rintro e w1 ⟨rfl, hb1⟩
  go_wp2
  go_ret2
  exact ⟨rfl, ((Below.refl _ _).alloc (Nat.le_refl _) _).trans (hb1.mono (by simp))⟩

theorem full_fields (M P T S R C : Nat) : full (fieldsS M P T S R C) = headS M P T S R C := by
  unfold full
  rw [if_neg (by rw [fields_size]; decide), fields_size]
  rfl
theorem full_head (M P T S R C : Nat) (w : World) :
    Calls Try.prog 39 #[.string (fieldsS M P T S R C)] w fun e w' => e = .returned (.string (headS M P T S R C)) ∧ Below w.heap.size w w' := by
  have h := full_any (fieldsS M P T S R C) w
  rw [full_fields] at h
  exact h

/-- Five numbers in a block. -/
def Five (b : Nat) (M P T S R : Int) (wx : World) : Prop := wx.heap[b]? = some (.cells #[.int .i64 M, .int .i64 P, .int .i64 T, .int .i64 S, .int .i64 R] 3 (0, 0))
theorem Five.on {b : Nat} {M P T S R : Int} {w1 w2 : World} (h : Five b M P T S R w1) (hb : Below w1.heap.size w1 w2) : Five b M P T S R w2 := (hb.block _ (lt_of_block h)).trans h
theorem Five.cells {b : Nat} {M P T S R : Int} {wx : World} (h : Five b M P T S R wx) : wx.cell? ⟨b, 0, none⟩ = some (.int .i64 M) ∧ wx.cell? ⟨b, 1, none⟩ = some (.int .i64 P) ∧ wx.cell? ⟨b, 2, none⟩ = some (.int .i64 T) ∧ wx.cell? ⟨b, 3, none⟩ = some (.int .i64 S) ∧ wx.cell? ⟨b, 4, none⟩ = some (.int .i64 R) :=
  ⟨cell_at h 0, cell_at h 1, cell_at h 2, cell_at h 3, cell_at h 4⟩

set_option maxRecDepth 100000 in
set_option maxHeartbeats 4000000 in
theorem renc_yes (M P T S R C : Nat) (h : Fit M P T S R) (hC : C < 18446744073709551616) (w : World) :
    Calls Try.prog 10 #[.agg #[.int .i64 M, .int .i64 P, .int .i64 T, .int .i64 S, .int .i64 R, .int .u64 C]] w fun e w' => e = .returned (.tuple #[.string (headS M P T S R C), .int .i64 0]) ∧ Below w.heap.size w w' := by
  obtain ⟨s1, s2, s3, s4, s5⟩ := fit_small h
  have q1 : (M : Int) ≤ 4294967295 := by omega
  have q2 : (P : Int) ≤ 4294967295 := by omega
  have q3 : (T : Int) ≤ 4294967295 := by omega
  have q4 : (S : Int) ≤ 4294967295 := by omega
  have q5 : (R : Int) ≤ 4294967295 := by omega
  have Q1 := hid s1
  have Q2 := hid s2
  have Q3 := hid s3
  have Q4 := hid s4
  have Q5 := hid s5
  have HC := hid hC
  have hfit := rfit_any M P T S R C
  have hb : fitB M P T S R = true := decide_eq_true h
  rw [hb] at hfit
  have HFIT := hid hfit
  have F0 : Six w.heap.size M P T S R C (w.alloc (.cells #[.int .i64 M, .int .i64 P, .int .i64 T, .int .i64 S, .int .i64 R, .int .u64 C] 24)) := heap_alloc_new _ _
  have B0 : Below w.heap.size w (w.alloc (.cells #[.int .i64 M, .int .i64 P, .int .i64 T, .int .i64 S, .int .i64 R, .int .u64 C] 24)) := (Below.refl _ _).alloc (Nat.le_refl _) _
  have H0 := hid F0
  have HB0 := hid B0
  clear h hC s1 s2 s3 s4 s5 F0 B0 hfit hb
  go_enter Try.func10, Try.ntmps10
  go_wp2_with fail
  refine (HFIT.out _).mono ?_
  rintro e w1 ⟨rfl, hb1⟩
  have F1 := H0.out.on hb1
  have H1 := hid F1
  have HB1 := hid (HB0.out.trans (hb1.mono HB0.out.size))
  obtain ⟨k0, k1, k2, k3, k4, k5⟩ := F1.cells
  clear hb1 H0 HB0 F1 HFIT
  have X2 : Hid (Five w1.heap.size M P T S R (w1.alloc (.cells #[.int .i64 M, .int .i64 P, .int .i64 T, .int .i64 S, .int .i64 R] 3))) := hid (heap_alloc_new _ _)
  have H2 := hid (H1.out.on ((Below.refl _ _).alloc (Nat.le_refl _) (.cells #[.int .i64 M, .int .i64 P, .int .i64 T, .int .i64 S, .int .i64 R] 3)))
  have HB2 := hid (HB1.out.alloc HB1.out.size (.cells #[.int .i64 M, .int .i64 P, .int .i64 T, .int .i64 S, .int .i64 R] 3))
  go_wp2
  go_loopw [5, 6] (fun s i wr => ∃ k : Nat, k ≤ 5 ∧ i = .int .i64 k ∧ s = .string (pre M P T S R k) ∧ Six w.heap.size M P T S R C wr ∧ Below w.heap.size w wr ∧ Five w1.heap.size M P T S R wr) (fun _ i _ => 5 - (intOf i).toNat)
  case atStart => exact ⟨0, by omega, rfl, rfl, H2.out, HB2.out, X2.out⟩
  case round =>
    clear k0 k1 k2 k3 k4 k5
    obtain ⟨k, hk, rfl, rfl, F, B, X⟩ := hrel
    have HF3 := hid F
    have HB3 := hid B
    have HX3 := hid X
    obtain ⟨k0, k1, k2, k3, k4⟩ := X.cells
    have k5 := F.cells.2.2.2.2.2
    clear F B X
    have ways : k = 0 ∨ k = 1 ∨ k = 2 ∨ k = 3 ∨ k = 4 ∨ k = 5 := by omega
    clear hk
    rcases ways with rfl | rfl | rfl | rfl | rfl | rfl
    · have z := pre_room M P T S R 0 M 4 (by decide) (by decide)
      go_wp2_with fail
      refine (rfixed4 M (by have := Q1.out; omega) _).mono ?_
      rintro e w3 ⟨rfl, hb3⟩
      have H4 := hid (HF3.out.on hb3)
      have HX4 := hid (HX3.out.on hb3)
      have HB4 := hid (HB3.out.trans (hb3.mono HB3.out.size))
      clear hb3
      go_wp2
      go_roundw
      case rel => exact ⟨1, by decide, rfl, rfl, H4.out, HB4.out, HX4.out⟩
      case measure => simp [intOf]
    · have z := pre_room M P T S R 1 P 4 (by decide) (by decide)
      go_wp2_with fail
      refine (rfixed4 P (by have := Q2.out; omega) _).mono ?_
      rintro e w3 ⟨rfl, hb3⟩
      have H4 := hid (HF3.out.on hb3)
      have HX4 := hid (HX3.out.on hb3)
      have HB4 := hid (HB3.out.trans (hb3.mono HB3.out.size))
      clear hb3
      go_wp2
      go_roundw
      case rel => exact ⟨2, by decide, rfl, rfl, H4.out, HB4.out, HX4.out⟩
      case measure => simp [intOf]
    · have z := pre_room M P T S R 2 T 4 (by decide) (by decide)
      go_wp2_with fail
      refine (rfixed4 T (by have := Q3.out; omega) _).mono ?_
      rintro e w3 ⟨rfl, hb3⟩
      have H4 := hid (HF3.out.on hb3)
      have HX4 := hid (HX3.out.on hb3)
      have HB4 := hid (HB3.out.trans (hb3.mono HB3.out.size))
      clear hb3
      go_wp2
      go_roundw
      case rel => exact ⟨3, by decide, rfl, rfl, H4.out, HB4.out, HX4.out⟩
      case measure => simp [intOf]
    · have z := pre_room M P T S R 3 S 4 (by decide) (by decide)
      go_wp2_with fail
      refine (rfixed4 S (by have := Q4.out; omega) _).mono ?_
      rintro e w3 ⟨rfl, hb3⟩
      have H4 := hid (HF3.out.on hb3)
      have HX4 := hid (HX3.out.on hb3)
      have HB4 := hid (HB3.out.trans (hb3.mono HB3.out.size))
      clear hb3
      go_wp2
      go_roundw
      case rel => exact ⟨4, by decide, rfl, rfl, H4.out, HB4.out, HX4.out⟩
      case measure => simp [intOf]
    · have z := pre_room M P T S R 4 R 4 (by decide) (by decide)
      go_wp2_with fail
      refine (rfixed4 R (by have := Q5.out; omega) _).mono ?_
      rintro e w3 ⟨rfl, hb3⟩
      have H4 := hid (HF3.out.on hb3)
      have HX4 := hid (HX3.out.on hb3)
      have HB4 := hid (HB3.out.trans (hb3.mono HB3.out.size))
      clear hb3
      go_wp2
      go_roundw
      case rel => exact ⟨5, by decide, rfl, rfl, H4.out, HB4.out, HX4.out⟩
      case measure => simp [intOf]
    · have z := pre_room M P T S R 5 C 8 (by decide) (by decide)
      have e1 : pre M P T S R 5 ++ fx 8 C = fieldsS M P T S R C := rfl
      go_wp2_with fail
      refine (rfixed8 C HC.out _).mono ?_
      rintro e w3 ⟨rfl, hb3⟩
      have HB4 := hid (HB3.out.trans (hb3.mono HB3.out.size))
      clear hb3
      go_wp2_with fail
      refine (full_head M P T S R C _).mono ?_
      rintro e w4 ⟨rfl, hb4⟩
      go_wp2
      go_ret2
      exact ⟨rfl, HB4.out.trans (hb4.mono HB4.out.size)⟩

set_option maxRecDepth 100000 in
set_option maxHeartbeats 1000000 in
theorem renc_no (M P T S R : Int) (C : Nat) (h : ¬ Fit M P T S R) (w : World) :
    Calls Try.prog 10 #[.agg #[.int .i64 M, .int .i64 P, .int .i64 T, .int .i64 S, .int .i64 R, .int .u64 C]] w fun e w' => e = .returned (.tuple #[.string ⟨#[]⟩, .int .i64 1]) ∧ Below w.heap.size w w' := by
  have hfit := rfit_any M P T S R C
  have hb : fitB M P T S R = false := decide_eq_false h
  rw [hb] at hfit
  have HFIT := hid hfit
  clear h hfit hb
  go_enter Try.func10, Try.ntmps10
  go_wp2_with fail
  refine (HFIT.out _).mono ?_
  rintro e w1 ⟨rfl, hb1⟩
  go_wp2
  go_ret2
  exact ⟨rfl, ((Below.refl _ _).alloc (Nat.le_refl _) _).trans (hb1.mono (by simp))⟩

/-- What Encode answers. -/
def encS (M P T S R : Int) (C : Nat) : ByteArray := if Fit M P T S R then headS M.toNat P.toNat T.toNat S.toNat R.toNat C else ⟨#[]⟩
def encE (M P T S R : Int) : Int := if Fit M P T S R then 0 else 1
theorem enc_any (M P T S R : Int) (C : Nat) (hC : C < 18446744073709551616) (w : World) :
    Calls Try.prog 9 #[.agg #[.int .i64 M, .int .i64 P, .int .i64 T, .int .i64 S, .int .i64 R, .int .u64 C]] w fun e w' => e = .returned (.tuple #[.string (encS M P T S R C), .int .i64 (encE M P T S R)]) ∧ Below w.heap.size w w' := by
  unfold encS encE
  by_cases h : Fit M P T S R
  · rw [if_pos h, if_pos h]
    have h0 := h
    unfold Fit at h0
    obtain ⟨m, rfl⟩ := Int.eq_ofNat_of_zero_le (show 0 ≤ M by omega)
    obtain ⟨p, rfl⟩ := Int.eq_ofNat_of_zero_le (show 0 ≤ P by omega)
    obtain ⟨t, rfl⟩ := Int.eq_ofNat_of_zero_le (show 0 ≤ T by omega)
    obtain ⟨s, rfl⟩ := Int.eq_ofNat_of_zero_le (show 0 ≤ S by omega)
    obtain ⟨r, rfl⟩ := Int.eq_ofNat_of_zero_le (show 0 ≤ R by omega)
    exact enc_yes m p t s r C h hC w
  · rw [if_neg h, if_neg h]
    exact enc_no M P T S R C h w
theorem renc_any (M P T S R : Int) (C : Nat) (hC : C < 18446744073709551616) (w : World) :
    Calls Try.prog 10 #[.agg #[.int .i64 M, .int .i64 P, .int .i64 T, .int .i64 S, .int .i64 R, .int .u64 C]] w fun e w' => e = .returned (.tuple #[.string (encS M P T S R C), .int .i64 (encE M P T S R)]) ∧ Below w.heap.size w w' := by
  unfold encS encE
  by_cases h : Fit M P T S R
  · rw [if_pos h, if_pos h]
    have h0 := h
    unfold Fit at h0
    obtain ⟨m, rfl⟩ := Int.eq_ofNat_of_zero_le (show 0 ≤ M by omega)
    obtain ⟨p, rfl⟩ := Int.eq_ofNat_of_zero_le (show 0 ≤ P by omega)
    obtain ⟨t, rfl⟩ := Int.eq_ofNat_of_zero_le (show 0 ≤ T by omega)
    obtain ⟨s, rfl⟩ := Int.eq_ofNat_of_zero_le (show 0 ≤ S by omega)
    obtain ⟨r, rfl⟩ := Int.eq_ofNat_of_zero_le (show 0 ≤ R by omega)
    exact renc_yes m p t s r C h hC w
  · rw [if_neg h, if_neg h]
    exact renc_no M P T S R C h w
end Head
end Go.Proofs.Ytpfolialjajafaa
