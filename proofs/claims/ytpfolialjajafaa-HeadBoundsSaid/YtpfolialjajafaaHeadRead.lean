/-
  Contracts of Decode, the project's and the reference's, and of Fresh: what each call returns; the old memory stays.
-/
import Derived.Test.YtpfolialjajafaaHeadWrite
import Derived.Laws.Strings
namespace Go.Proofs.Ytpfolialjajafaa
open Go.RowKit
namespace Head
open Num (hid fixF unfF)
open Part (piece piece_lt runfixed_at cell_at)

theorem blk_free {w : World} {b : Nat} {c : Array Value} {t : TypeId} (h : w.heap[b]? = some (.cells c t (0, 0))) (i : Nat) : w.frozen? ⟨b, i, none⟩ = false := by simp [World.frozen?, h]
theorem Six.free {b : Nat} {M P T S R C : Int} {wx : World} (h : Six b M P T S R C wx) : wx.frozen? ⟨b, 0, none⟩ = false ∧ wx.frozen? ⟨b, 1, none⟩ = false ∧ wx.frozen? ⟨b, 2, none⟩ = false ∧ wx.frozen? ⟨b, 3, none⟩ = false ∧ wx.frozen? ⟨b, 4, none⟩ = false ∧ wx.frozen? ⟨b, 5, none⟩ = false :=
  ⟨blk_free h 0, blk_free h 1, blk_free h 2, blk_free h 3, blk_free h 4, blk_free h 5⟩
theorem Six.other {b b' i : Nat} {M P T S R C : Int} {wx : World} (h : Six b M P T S R C wx) (hb : b ≠ b') (v : Value) : Six b M P T S R C (wx.setCell ⟨b', i, none⟩ v) := (Below.heap_setCell wx ⟨b', i, none⟩ v b hb).trans h
theorem Six.st0 {b : Nat} {M P T S R C : Int} {wx : World} (h : Six b M P T S R C wx) (v : Int) : Six b v P T S R C (wx.setCell ⟨b, 0, none⟩ (.int .i64 v)) := by
  unfold Six at *; simp [World.setCell, Array.getElem?_modify, h]
theorem Six.st1 {b : Nat} {M P T S R C : Int} {wx : World} (h : Six b M P T S R C wx) (v : Int) : Six b M v T S R C (wx.setCell ⟨b, 1, none⟩ (.int .i64 v)) := by
  unfold Six at *; simp [World.setCell, Array.getElem?_modify, h]
theorem Six.st2 {b : Nat} {M P T S R C : Int} {wx : World} (h : Six b M P T S R C wx) (v : Int) : Six b M P v S R C (wx.setCell ⟨b, 2, none⟩ (.int .i64 v)) := by
  unfold Six at *; simp [World.setCell, Array.getElem?_modify, h]
theorem Six.st3 {b : Nat} {M P T S R C : Int} {wx : World} (h : Six b M P T S R C wx) (v : Int) : Six b M P T v R C (wx.setCell ⟨b, 3, none⟩ (.int .i64 v)) := by
  unfold Six at *; simp [World.setCell, Array.getElem?_modify, h]
theorem Six.st4 {b : Nat} {M P T S R C : Int} {wx : World} (h : Six b M P T S R C wx) (v : Int) : Six b M P T S v C (wx.setCell ⟨b, 4, none⟩ (.int .i64 v)) := by
  unfold Six at *; simp [World.setCell, Array.getElem?_modify, h]
theorem Six.st5 {b : Nat} {M P T S R C : Int} {wx : World} (h : Six b M P T S R C wx) (v : Int) : Six b M P T S R v (wx.setCell ⟨b, 5, none⟩ (.int .u64 v)) := by
  unfold Six at *; simp [World.setCell, Array.getElem?_modify, h]

/-- What Decode answers. -/
def hd (M P T S R C : Int) : Value := .agg #[.int .i64 M, .int .i64 P, .int .i64 T, .int .i64 S, .int .i64 R, .int .u64 C]
def zeroV : Value := hd 0 0 0 0 0 0
def saysV (s : ByteArray) : Value := hd (piece s 8 12 : Nat) (piece s 12 16 : Nat) (piece s 16 20 : Nat) (piece s 20 24 : Nat) (piece s 24 28 : Nat) (piece s 28 36 : Nat)
def decV (s : ByteArray) : Value := if s.size = 232 ∧ Right s then saysV s else zeroV
def decE (s : ByteArray) : Int := if s.size = 232 then (if Right s then 0 else 4) else 1
/-- What Encode answers of what the bytes say. -/
def againS (s : ByteArray) : ByteArray := encS (piece s 8 12 : Nat) (piece s 12 16 : Nat) (piece s 16 20 : Nat) (piece s 20 24 : Nat) (piece s 24 28 : Nat) (piece s 28 36)
def againE (s : ByteArray) : Int := encE (piece s 8 12 : Nat) (piece s 12 16 : Nat) (piece s 16 20 : Nat) (piece s 20 24 : Nat) (piece s 24 28 : Nat)
theorem enc_again (s : ByteArray) (w : World) :
    Calls Try.prog 9 #[.agg #[.int .i64 (piece s 8 12 : Nat), .int .i64 (piece s 12 16 : Nat), .int .i64 (piece s 16 20 : Nat), .int .i64 (piece s 20 24 : Nat), .int .i64 (piece s 24 28 : Nat), .int .u64 (piece s 28 36 : Nat)]] w fun e w' => e = .returned (.tuple #[.string (againS s), .int .i64 (againE s)]) ∧ Below w.heap.size w w' :=
  enc_any _ _ _ _ _ _ (piece_lt s 28 36) w
theorem renc_again (s : ByteArray) (w : World) :
    Calls Try.prog 10 #[.agg #[.int .i64 (piece s 8 12 : Nat), .int .i64 (piece s 12 16 : Nat), .int .i64 (piece s 16 20 : Nat), .int .i64 (piece s 20 24 : Nat), .int .i64 (piece s 24 28 : Nat), .int .u64 (piece s 28 36 : Nat)]] w fun e w' => e = .returned (.tuple #[.string (againS s), .int .i64 (againE s)]) ∧ Below w.heap.size w w' :=
  renc_any _ _ _ _ _ _ (piece_lt s 28 36) w
theorem again_fit {s : ByteArray} (h : FitS s) : againS s = again s ∧ againE s = 0 := by
  unfold againS againE encS encE
  unfold FitS at h
  rw [if_pos h, if_pos h]
  exact ⟨rfl, rfl⟩
theorem again_not {s : ByteArray} (h : ¬ FitS s) : againE s = 1 := by
  unfold againE encE
  unfold FitS at h
  rw [if_neg h]

/-- What has been read of a head behind k fields. -/
def got (b : Nat) (s : ByteArray) (wx : World) : Nat → Prop
  | 0 => Six b 0 0 0 0 0 0 wx
  | 1 => Six b (piece s 8 12 : Nat) 0 0 0 0 0 wx
  | 2 => Six b (piece s 8 12 : Nat) (piece s 12 16 : Nat) 0 0 0 0 wx
  | 3 => Six b (piece s 8 12 : Nat) (piece s 12 16 : Nat) (piece s 16 20 : Nat) 0 0 0 wx
  | 4 => Six b (piece s 8 12 : Nat) (piece s 12 16 : Nat) (piece s 16 20 : Nat) (piece s 20 24 : Nat) 0 0 wx
  | _ => Six b (piece s 8 12 : Nat) (piece s 12 16 : Nat) (piece s 16 20 : Nat) (piece s 20 24 : Nat) (piece s 24 28 : Nat) 0 wx

set_option maxRecDepth 100000 in
set_option maxHeartbeats 1000000 in
theorem dec_no (s : ByteArray) (h : ¬ s.size = 232) (w : World) :
    Calls Try.prog 13 #[.string s] w fun e w' => e = .returned (.tuple #[zeroV, .int .i64 1]) ∧ Below w.heap.size w w' := by
  have ht : ((s.size : Int) != 232) = true := by simp; omega
  clear h
  go_enter Try.func13, Try.ntmps13
  go_wp2
  exact bodyPost_ret (v := .tuple #[zeroV, .int .i64 1]) (by simp [results, zeroV, hd, go_sem]) rfl ⟨rfl, (Below.refl _ _).alloc (Nat.le_refl _) _⟩

set_option maxRecDepth 100000 in
set_option maxHeartbeats 1000000 in
theorem rdec_no (s : ByteArray) (h : ¬ s.size = 232) (w : World) :
    Calls Try.prog 14 #[.string s] w fun e w' => e = .returned (.tuple #[zeroV, .int .i64 1]) ∧ Below w.heap.size w w' := by
  have ht : ((s.size : Int) != 232) = true := by simp; omega
  clear h
  go_enter Try.func14, Try.ntmps14
  go_wp2
  exact bodyPost_ret (v := .tuple #[zeroV, .int .i64 1]) (by simp [results, zeroV, hd, go_sem]) rfl ⟨rfl, (Below.refl _ _).alloc (Nat.le_refl _) _⟩

set_option maxRecDepth 100000 in
set_option maxHeartbeats 4000000 in
theorem dec_yes (s : ByteArray) (h : s.size = 232) (V : Value) (E : Int) (hgood : Hid (Right s → V = saysV s ∧ E = 0)) (hbad : Hid (¬ Right s → V = zeroV ∧ E = 4)) (w : World) :
    Calls Try.prog 13 #[.string s] w fun e w' => e = .returned (.tuple #[V, .int .i64 E]) ∧ Below w.heap.size w w' := by
  have ht : ((s.size : Int) != 232) = false := by simp; omega
  have hs : (36 : Int) ≤ (s.size : Int) := by omega
  have h36 : 36 ≤ s.size := by omega
  have b1 := piece_lt s 8 12
  have b2 := piece_lt s 12 16
  have b3 := piece_lt s 16 20
  have b4 := piece_lt s 20 24
  have b5 := piece_lt s 24 28
  have c1 : ((piece s 8 12 : Nat) : Int) ≤ 4294967295 := by omega
  have c2 : ((piece s 12 16 : Nat) : Int) ≤ 4294967295 := by omega
  have c3 : ((piece s 16 20 : Nat) : Int) ≤ 4294967295 := by omega
  have c4 : ((piece s 20 24 : Nat) : Int) ≤ 4294967295 := by omega
  have c5 : ((piece s 24 28 : Nat) : Int) ≤ 4294967295 := by omega
  clear h b1 b2 b3 b4 b5
  have Z0 : Hid (Six w.heap.size 0 0 0 0 0 0 (w.alloc (.cells #[.int .i64 0, .int .i64 0, .int .i64 0, .int .i64 0, .int .i64 0, .int .u64 0] 24))) := hid (heap_alloc_new _ _)
  have Z1 : Hid (Six w.heap.size 0 0 0 0 0 0 ((w.alloc (.cells #[.int .i64 0, .int .i64 0, .int .i64 0, .int .i64 0, .int .i64 0, .int .u64 0] 24)).alloc (.cells #[.int .i64 0, .int .i64 0, .int .i64 0, .int .i64 0, .int .i64 0, .int .u64 0] 24))) := hid (Z0.out.on ((Below.refl _ _).alloc (Nat.le_refl _) _))
  have G1 : Hid (Six (w.heap.size + 1) 0 0 0 0 0 0 ((w.alloc (.cells #[.int .i64 0, .int .i64 0, .int .i64 0, .int .i64 0, .int .i64 0, .int .u64 0] 24)).alloc (.cells #[.int .i64 0, .int .i64 0, .int .i64 0, .int .i64 0, .int .i64 0, .int .u64 0] 24))) := hid (by
    have h := heap_alloc_new (w.alloc (.cells #[.int .i64 0, .int .i64 0, .int .i64 0, .int .i64 0, .int .i64 0, .int .u64 0] 24)) (.cells #[.int .i64 0, .int .i64 0, .int .i64 0, .int .i64 0, .int .i64 0, .int .u64 0] 24)
    have e : (w.alloc (.cells #[.int .i64 0, .int .i64 0, .int .i64 0, .int .i64 0, .int .i64 0, .int .u64 0] 24)).heap.size = w.heap.size + 1 := by simp
    rw [e] at h
    exact h)
  have B1 : Hid (Below w.heap.size w ((w.alloc (.cells #[.int .i64 0, .int .i64 0, .int .i64 0, .int .i64 0, .int .i64 0, .int .u64 0] 24)).alloc (.cells #[.int .i64 0, .int .i64 0, .int .i64 0, .int .i64 0, .int .i64 0, .int .u64 0] 24))) := hid (((Below.refl _ _).alloc (Nat.le_refl _) _).alloc (by simp) _)
  clear Z0
  go_enter Try.func13, Try.ntmps13
  go_wp2_with fail
  refine (words_any (w.heap.size + 1) _).mono ?_
  rintro e w2 ⟨rfl, hb2⟩
  have Z2 := hid (Z1.out.on hb2)
  have G2 := hid (G1.out.on hb2)
  have B2 := hid (B1.out.trans (hb2.mono B1.out.size))
  clear hb2 Z1 G1 B1
  obtain ⟨i0, i1, i2, i3, i4⟩ := ptrs_at (w.heap.size + 1)
  generalize hps : ptrs (w.heap.size + 1) = ps at *
  clear hps
  go_wp2
  go_loopw [5, 15] (fun t i wr => ∃ k : Nat, k ≤ 5 ∧ i = .int .i64 k ∧ t = .int .i64 ((8 + 4 * k : Nat) : Int) ∧ got (w.heap.size + 1) s wr k ∧ Six w.heap.size 0 0 0 0 0 0 wr ∧ Below w.heap.size w wr) (fun _ i _ => 5 - (intOf i).toNat)
  case atStart => exact ⟨0, by omega, rfl, rfl, G2.out, Z2.out, B2.out⟩
  case round =>
    obtain ⟨k, hk, rfl, rfl, G, Z, B⟩ := hrel
    have HZ := hid Z
    have HB := hid B
    clear Z B Z2 G2 B2
    have ways : k = 0 ∨ k = 1 ∨ k = 2 ∨ k = 3 ∨ k = 4 ∨ k = 5 := by omega
    clear hk
    rcases ways with rfl | rfl | rfl | rfl | rfl | rfl
    · have G' : Six (w.heap.size + 1) 0 0 0 0 0 0 wr := G
      obtain ⟨k0, k1, k2, k3, k4, k5⟩ := G'.cells
      obtain ⟨z0, z1, z2, z3, z4, z5⟩ := G'.free
      have HG := hid (G'.st0 (piece s 8 12 : Nat))
      have HZ1 := hid (HZ.out.other (b' := w.heap.size + 1) (i := 0) (by omega) (.int .i64 (piece s 8 12 : Nat)))
      have HB1 := hid (HB.out.setCell (p := ⟨w.heap.size + 1, 0, none⟩) (by simp) (.int .i64 (piece s 8 12 : Nat)))
      clear G G'
      go_wp2_with fail
      refine (number_at s 8 12 (by decide) (by decide) (by omega) _).mono ?_
      rintro e w' ⟨rfl, rfl⟩
      go_wp2
      go_roundw
      case rel => exact ⟨1, by decide, rfl, rfl, HG.out, HZ1.out, HB1.out⟩
      case measure => simp [intOf]
    · have G' : Six (w.heap.size + 1) (piece s 8 12 : Nat) 0 0 0 0 0 wr := G
      obtain ⟨k0, k1, k2, k3, k4, k5⟩ := G'.cells
      obtain ⟨z0, z1, z2, z3, z4, z5⟩ := G'.free
      have HG := hid (G'.st1 (piece s 12 16 : Nat))
      have HZ1 := hid (HZ.out.other (b' := w.heap.size + 1) (i := 1) (by omega) (.int .i64 (piece s 12 16 : Nat)))
      have HB1 := hid (HB.out.setCell (p := ⟨w.heap.size + 1, 1, none⟩) (by simp) (.int .i64 (piece s 12 16 : Nat)))
      clear G G'
      go_wp2_with fail
      refine (number_at s 12 16 (by decide) (by decide) (by omega) _).mono ?_
      rintro e w' ⟨rfl, rfl⟩
      go_wp2
      go_roundw
      case rel => exact ⟨2, by decide, rfl, rfl, HG.out, HZ1.out, HB1.out⟩
      case measure => simp [intOf]
    · have G' : Six (w.heap.size + 1) (piece s 8 12 : Nat) (piece s 12 16 : Nat) 0 0 0 0 wr := G
      obtain ⟨k0, k1, k2, k3, k4, k5⟩ := G'.cells
      obtain ⟨z0, z1, z2, z3, z4, z5⟩ := G'.free
      have HG := hid (G'.st2 (piece s 16 20 : Nat))
      have HZ1 := hid (HZ.out.other (b' := w.heap.size + 1) (i := 2) (by omega) (.int .i64 (piece s 16 20 : Nat)))
      have HB1 := hid (HB.out.setCell (p := ⟨w.heap.size + 1, 2, none⟩) (by simp) (.int .i64 (piece s 16 20 : Nat)))
      clear G G'
      go_wp2_with fail
      refine (number_at s 16 20 (by decide) (by decide) (by omega) _).mono ?_
      rintro e w' ⟨rfl, rfl⟩
      go_wp2
      go_roundw
      case rel => exact ⟨3, by decide, rfl, rfl, HG.out, HZ1.out, HB1.out⟩
      case measure => simp [intOf]
    · have G' : Six (w.heap.size + 1) (piece s 8 12 : Nat) (piece s 12 16 : Nat) (piece s 16 20 : Nat) 0 0 0 wr := G
      obtain ⟨k0, k1, k2, k3, k4, k5⟩ := G'.cells
      obtain ⟨z0, z1, z2, z3, z4, z5⟩ := G'.free
      have HG := hid (G'.st3 (piece s 20 24 : Nat))
      have HZ1 := hid (HZ.out.other (b' := w.heap.size + 1) (i := 3) (by omega) (.int .i64 (piece s 20 24 : Nat)))
      have HB1 := hid (HB.out.setCell (p := ⟨w.heap.size + 1, 3, none⟩) (by simp) (.int .i64 (piece s 20 24 : Nat)))
      clear G G'
      go_wp2_with fail
      refine (number_at s 20 24 (by decide) (by decide) (by omega) _).mono ?_
      rintro e w' ⟨rfl, rfl⟩
      go_wp2
      go_roundw
      case rel => exact ⟨4, by decide, rfl, rfl, HG.out, HZ1.out, HB1.out⟩
      case measure => simp [intOf]
    · have G' : Six (w.heap.size + 1) (piece s 8 12 : Nat) (piece s 12 16 : Nat) (piece s 16 20 : Nat) (piece s 20 24 : Nat) 0 0 wr := G
      obtain ⟨k0, k1, k2, k3, k4, k5⟩ := G'.cells
      obtain ⟨z0, z1, z2, z3, z4, z5⟩ := G'.free
      have HG := hid (G'.st4 (piece s 24 28 : Nat))
      have HZ1 := hid (HZ.out.other (b' := w.heap.size + 1) (i := 4) (by omega) (.int .i64 (piece s 24 28 : Nat)))
      have HB1 := hid (HB.out.setCell (p := ⟨w.heap.size + 1, 4, none⟩) (by simp) (.int .i64 (piece s 24 28 : Nat)))
      clear G G'
      go_wp2_with fail
      refine (number_at s 24 28 (by decide) (by decide) (by omega) _).mono ?_
      rintro e w' ⟨rfl, rfl⟩
      go_wp2
      go_roundw
      case rel => exact ⟨5, by decide, rfl, rfl, HG.out, HZ1.out, HB1.out⟩
      case measure => simp [intOf]
    · have G' : Six (w.heap.size + 1) (piece s 8 12 : Nat) (piece s 12 16 : Nat) (piece s 16 20 : Nat) (piece s 20 24 : Nat) (piece s 24 28 : Nat) 0 wr := G
      obtain ⟨k0, k1, k2, k3, k4, k5⟩ := G'.cells
      obtain ⟨z0, z1, z2, z3, z4, z5⟩ := G'.free
      have HG := hid (G'.st5 (piece s 28 36 : Nat))
      have HZ1 := hid (HZ.out.other (b' := w.heap.size + 1) (i := 5) (by omega) (.int .u64 (piece s 28 36 : Nat)))
      have HB1 := hid (HB.out.setCell (p := ⟨w.heap.size + 1, 5, none⟩) (by simp) (.int .u64 (piece s 28 36 : Nat)))
      clear G G'
      go_wp2_with fail
      refine (number_at s 28 36 (by decide) (by decide) (by omega) _).mono ?_
      rintro e w' ⟨rfl, rfl⟩
      clear i0 i1 i2 i3 i4
      go_wp2_with fail
      refine (enc_again s _).mono ?_
      rintro e w3 ⟨rfl, hb3⟩
      have HG4 := HG.out.on hb3
      have HZ4 := HZ1.out.on hb3
      have HB4 := HB1.out.trans (hb3.mono HB1.out.size)
      clear k0 k1 k2 k3 k4 k5 z0 z1 z2 z3 z4 z5 hb3 HG HZ1 HB1
      obtain ⟨k0, k1, k2, k3, k4, k5⟩ := HG4.cells
      obtain ⟨z0, z1, z2, z3, z4, z5⟩ := HZ4.free
      obtain ⟨m0, m1, m2, m3, m4, m5⟩ := HZ4.cells
      have hlt := lt_of_block HZ4
      clear HG4 HZ4
      by_cases hf : FitS s
      · obtain ⟨e1, e2⟩ := again_fit hf
        rw [e1, e2]
        by_cases hr : again s = s
        · have hR : Right s := ⟨hf, hr⟩
          obtain ⟨v1, v2⟩ := hgood.out hR
          rw [hr]
          have HV1 := hid v1
          have HV2 := hid v2
          clear v1 v2 hgood hbad
          clear hf hr hR e1 e2
          go_wp2
          exact bodyPost_ret (v := .tuple #[saysV s, .int .i64 0]) (by simp [results, saysV, hd, go_sem, m0, m1, m2, m3, m4, m5]) rfl ⟨by rw [HV1.out, HV2.out], (((((HB4.setCell (Nat.le_refl _) _).setCell (Nat.le_refl _) _).setCell (Nat.le_refl _) _).setCell (Nat.le_refl _) _).setCell (Nat.le_refl _) _).setCell (Nat.le_refl _) _⟩
        · have hR : ¬ Right s := fun h => hr h.2
          have hq : ((again s).toList == s.toList) = false := by
            rw [beq_eq_false_iff_ne, ByteArray.toList_eq, ByteArray.toList_eq]
            exact fun h => hr (ByteArray.ext (Array.ext' h))
          obtain ⟨v1, v2⟩ := hbad.out hR
          have HV1 := hid v1
          have HV2 := hid v2
          clear v1 v2 hgood hbad
          generalize again s = t at hq ⊢
          clear hf hr hR e1 e2
          go_wp2
          exact bodyPost_ret (v := .tuple #[zeroV, .int .i64 4]) (by simp [results, zeroV, hd, go_sem, m0, m1, m2, m3, m4, m5]) rfl ⟨by rw [HV1.out, HV2.out], (((((HB4.setCell (Nat.le_refl _) _).setCell (Nat.le_refl _) _).setCell (Nat.le_refl _) _).setCell (Nat.le_refl _) _).setCell (Nat.le_refl _) _).setCell (Nat.le_refl _) _⟩
      · have hR : ¬ Right s := fun h => hf h.1
        rw [again_not hf]
        obtain ⟨v1, v2⟩ := hbad.out hR
        have HV1 := hid v1
        have HV2 := hid v2
        clear v1 v2 hgood hbad
        clear hf hR
        go_wp2
        exact bodyPost_ret (v := .tuple #[zeroV, .int .i64 4]) (by simp [results, zeroV, hd, go_sem, m0, m1, m2, m3, m4, m5]) rfl ⟨by rw [HV1.out, HV2.out], (((((HB4.setCell (Nat.le_refl _) _).setCell (Nat.le_refl _) _).setCell (Nat.le_refl _) _).setCell (Nat.le_refl _) _).setCell (Nat.le_refl _) _).setCell (Nat.le_refl _) _⟩

theorem dec_any (s : ByteArray) (w : World) :
    Calls Try.prog 13 #[.string s] w fun e w' => e = .returned (.tuple #[decV s, .int .i64 (decE s)]) ∧ Below w.heap.size w w' := by
  by_cases h : s.size = 232
  · refine dec_yes s h _ _ (hid fun hr => ?_) (hid fun hr => ?_) w
    · unfold decV decE; rw [if_pos ⟨h, hr⟩, if_pos h, if_pos hr]; exact ⟨rfl, rfl⟩
    · unfold decV decE; rw [if_neg (fun hh => hr hh.2), if_pos h, if_neg hr]; exact ⟨rfl, rfl⟩
  · have e1 : decV s = zeroV := if_neg (fun hh => h hh.1)
    have e2 : decE s = 1 := if_neg h
    rw [e1, e2]
    exact dec_no s h w

set_option maxHeartbeats 400000 in
theorem fresh_any (w : World) : Calls Try.prog 11 #[] w fun e w' => e = .returned (hd 1 1 0 0 0 0) ∧ Below w.heap.size w w' := by
  go_enter Try.func11, Try.ntmps11
  go_wp2
  exact bodyPost_ret (v := hd 1 1 0 0 0 0) (by simp [results, hd, go_sem]) rfl ⟨rfl, (Below.refl _ _).alloc (Nat.le_refl _) _⟩
set_option maxHeartbeats 400000 in
theorem rfresh_any (w : World) : Calls Try.prog 12 #[] w fun e w' => e = .returned (hd 1 1 0 0 0 0) ∧ Below w.heap.size w w' := by
  go_enter Try.func12, Try.ntmps12
  go_wp2
  exact bodyPost_ret (v := hd 1 1 0 0 0 0) (by simp [results, hd, go_sem]) rfl ⟨rfl, (Below.refl _ _).alloc (Nat.le_refl _) _⟩
end Head
end Go.Proofs.Ytpfolialjajafaa
