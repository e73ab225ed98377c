/-
  Contract of the statements' own awake: it answers true; the old memory stays.
-/
import Derived.Test.YtfgaoopgnpigjaaSealFull
namespace Go.Proofs.Ytfgaoopgnpigjaa
open Go.RowKit
namespace Seal
open Num (hid fixF unfF bcells)
open Mix (su sumN)

/-- What a sealed sector says. -/
theorem part_sealS (K N S : Nat) (d : ByteArray) (hK : K < 4294967296) (hN : N < 4294967296) (hS : S < 18446744073709551616) (hd : d.size = 232) :
    part (sealS K N S d) 232 236 = K ∧ part (sealS K N S d) 236 240 = N ∧ part (sealS K N S d) 240 248 = S ∧ (sealS K N S d).extract 0 232 = d ∧ right (sealS K N S d).data.toList ∧ (sealS K N S d).size = 256 := by
  have hl : d.data.toList.length = 232 := by simpa using hd
  unfold part
  rw [sealS_list]
  refine ⟨seal_K K N S _ hl hK, seal_N K N S _ hl hN, seal_S K N S _ hl hS, ?_, seal_right K N S _ hl, by rw [sealS_size, hd]⟩
  apply ByteArray.ext
  apply Array.ext'
  have e : ((sealS K N S d).extract 0 232).data.toList = (sealS K N S d).data.toList.take 232 := by simp [ByteArray.data_extract]
  rw [e, sealS_list, seal_take K N S _ hl]
theorem open_sealed (K N S : Nat) (d : ByteArray) (hK : K < 4294967296) (hN : N < 4294967296) (hS : S < 18446744073709551616) (hd : d.size = 232) (w : World) :
    Calls Try.prog 18 #[.string (sealS K N S d)] w fun e w' => e = .returned (.tuple #[.agg #[.int .i64 K, .int .i64 N, .int .u64 S, .string d], .int .i64 0]) ∧ Below w.heap.size w w' := by
  obtain ⟨h1, h2, h3, h4, h5, h6⟩ := part_sealS K N S d hK hN hS hd
  have h := open_good (sealS K N S d) h6 h5 w
  unfold saysV at h
  rw [h1, h2, h3, h4] at h
  exact h

theorem at_of_list {s : ByteArray} {i : Nat} {b : UInt8} (hi : i < s.size) (h : s.data.toList[i]? = some b) : s[i] = b := by
  have e : s.data.toList[i]? = some (s.data.toList[i]'(by simpa using hi)) := List.getElem?_eq_getElem _
  rw [e] at h
  have h2 := Option.some.inj h
  rw [← h2]
  rfl
theorem at_235 (d : ByteArray) (hd : d.size = 232) (h : 235 < (sealS 1 7 9 d).size) : (sealS 1 7 9 d)[235] = 1 := by
  refine at_of_list h ?_
  have hl : d.data.toList.length = 232 := by simpa using hd
  rw [sealS_list]
  unfold sealL bodyL
  rw [List.append_assoc, List.append_assoc, List.append_assoc, List.getElem?_append_right (by omega), hl]
  rfl
theorem at_239 (d : ByteArray) (hd : d.size = 232) (h : 239 < (sealS 1 7 9 d).size) : (sealS 1 7 9 d)[239] = 7 := by
  refine at_of_list h ?_
  have hl : d.data.toList.length = 232 := by simpa using hd
  rw [sealS_list]
  unfold sealL bodyL
  rw [List.append_assoc, List.append_assoc, List.append_assoc, List.getElem?_append_right (by omega), hl]
  rfl
theorem zeros_wrong : ¬ right (zerosS 256).data.toList := by decide +kernel

/-- Four cells of a block of the call's own. -/
def Four (b : Nat) (K N : Int) (S : Int) (d : ByteArray) (wx : World) : Prop := wx.heap[b]? = some (.cells #[.int .i64 K, .int .i64 N, .int .u64 S, .string d] 24 (0, 0))
theorem Four.on {b : Nat} {K N S : Int} {d : ByteArray} {w1 w2 : World} (h : Four b K N S d w1) (hb : Below w1.heap.size w1 w2) : Four b K N S d w2 := (hb.block _ (lt_of_block h)).trans h
theorem Four.cells {b : Nat} {K N S : Int} {d : ByteArray} {wx : World} (h : Four b K N S d wx) : wx.cell? ⟨b, 0, none⟩ = some (.int .i64 K) ∧ wx.cell? ⟨b, 1, none⟩ = some (.int .i64 N) ∧ wx.cell? ⟨b, 2, none⟩ = some (.int .u64 S) ∧ wx.cell? ⟨b, 3, none⟩ = some (.string d) :=
  ⟨cell_at h 0, cell_at h 1, cell_at h 2, cell_at h 3⟩

theorem close_c (D : ByteArray) (hd : D.size = 232) (w : World) :
    Calls Try.prog 14 #[.agg #[.int .i64 1, .int .i64 7, .int .u64 9, .string D]] w fun e w' => e = .returned (.tuple #[.string (sealS 1 7 9 D), .int .i64 0]) ∧ Below w.heap.size w w' :=
  close_yes 1 7 9 (by decide) (by decide) (by decide) D hd w
theorem open_c (D : ByteArray) (hd : D.size = 232) (w : World) :
    Calls Try.prog 18 #[.string (sealS 1 7 9 D)] w fun e w' => e = .returned (.tuple #[.agg #[.int .i64 1, .int .i64 7, .int .u64 9, .string D], .int .i64 0]) ∧ Below w.heap.size w w' :=
  open_sealed 1 7 9 D (by decide) (by decide) (by decide) hd w
theorem open_z (w : World) :
    Calls Try.prog 18 #[.string (zerosS 256)] w fun e w' => e = .returned (.tuple #[.agg #[.int .i64 0, .int .i64 0, .int .u64 0, .string ⟨#[]⟩], .int .i64 20]) ∧ Below w.heap.size w w' :=
  open_bad (zerosS 256) (zerosS_size 256) zeros_wrong w
theorem close_z (w : World) :
    Calls Try.prog 14 #[.agg #[.int .i64 0, .int .i64 0, .int .u64 0, .string ⟨#[]⟩]] w fun e w' => e = .returned (.tuple #[.string ⟨#[]⟩, .int .i64 1]) ∧ Below w.heap.size w w' :=
  close_no 0 0 0 ⟨#[]⟩ (by decide) w
theorem sum_z (w : World) : Calls Try.prog 16 #[.string ⟨#[]⟩] w fun e w' => e = .returned (.int .u64 0) ∧ w = w' := by
  have h := sum_any ⟨#[]⟩ w
  rw [sumOf_no (by decide)] at h
  exact h

set_option maxRecDepth 100000 in
set_option maxHeartbeats 1000000 in
theorem awake_any (w : World) : Calls Try.prog 12 #[] w fun e w' => e = .returned (.bool true) ∧ Below w.heap.size w w' := by
  go_enter Try.func12, Try.ntmps12
  go_wp2_with fail
  refine (full_any _ _).mono ?_
  rintro e w1 ⟨rfl, hb1⟩
  obtain ⟨D, hD⟩ : ∃ D, D = full ⟨#[104, 105]⟩ := ⟨_, rfl⟩
  have hd : D.size = 232 := by rw [hD]; exact full_size _
  rw [← hD]
  clear hD
  have HD := hid hd
  clear hd
  go_wp2_with fail
  refine (close_c D HD.out _).mono ?_
  rintro e w2 ⟨rfl, hb2⟩
  have F1 : Four w1.heap.size 1 7 9 D w2 := Four.on (heap_alloc_new _ _) hb2
  have B2 : Below w.heap.size w w2 := ((hb1.alloc hb1.size _).trans (hb2.mono (by simp; have := hb1.size; omega)))
  have hA : (sealS 1 7 9 D).size = 256 := by rw [sealS_size, HD.out]
  have hA1 : 235 < (sealS 1 7 9 D).size := by omega
  have hA2 : 239 < (sealS 1 7 9 D).size := by omega
  have hA3 := hid (at_235 D HD.out hA1)
  have hA4 := hid (at_239 D HD.out hA2)
  have hA0 := hid hA
  clear hb1 hb2 hA
  go_wp2_with fail
  refine (open_c D HD.out _).mono ?_
  rintro e w3 ⟨rfl, hb3⟩
  have F2 := F1.on hb3
  have B3 := B2.trans (hb3.mono B2.size)
  clear F1 B2 hb3
  have F3 : Four w1.heap.size 1 7 9 D (w3.alloc (.cells #[.int .i64 1, .int .i64 7, .int .u64 9, .string D] 24)) := F2.on ((Below.refl _ _).alloc (Nat.le_refl _) _)
  have G3 : Four w3.heap.size 1 7 9 D (w3.alloc (.cells #[.int .i64 1, .int .i64 7, .int .u64 9, .string D] 24)) := heap_alloc_new _ _
  obtain ⟨w4, hmk, hcv, hb4⟩ := make_conv (w3.alloc (.cells #[.int .i64 1, .int .i64 7, .int .u64 9, .string D] 24)) 256 (by decide) (by decide)
  have F4 := F3.on hb4
  have G4 := G3.on hb4
  have B4 : Below w.heap.size w w4 := (B3.alloc B3.size _).trans (hb4.mono (by simp; have := B3.size; omega))
  have hmk2 : (Instr.makeSlice 38 (.int .i64 256) (.int .i64 256)).run Try.prog (w3.alloc (.cells #[.int .i64 1, .int .i64 7, .int .u64 9, .string D] 24)) = _ := hmk
  have e : (w3.alloc (.cells #[.int .i64 1, .int .i64 7, .int .u64 9, .string D] 24)).heap.size = w3.heap.size + 1 := by simp
  rw [e] at hmk2 hcv
  clear hb4 F3 G3 F2 B3 hmk e
  go_wp2_with fail
  refine (open_z _).mono ?_
  rintro e w5 ⟨rfl, hb5⟩
  have F5 := F4.on hb5
  have G5 := G4.on hb5
  have B5 := B4.trans (hb5.mono B4.size)
  clear F4 G4 B4 hb5 hmk2 hcv
  go_wp2_with fail
  refine (close_z _).mono ?_
  rintro e w6 ⟨rfl, hb6⟩
  have hb : Below w5.heap.size w5 w6 := ((Below.refl _ _).alloc (Nat.le_refl _) _).trans (hb6.mono (by simp))
  have F6 := F5.on hb
  have G6 := G5.on hb
  have B6 := B5.trans (hb.mono B5.size)
  clear F5 G5 B5 hb6 hb
  obtain ⟨f0, f1, f2, f3⟩ := F6.cells
  obtain ⟨g0, g1, g2, g3⟩ := G6.cells
  clear F6 G6
  have hA5 : (((sealS 1 7 9 D).size : Int) == 256) = true := by simp; have := hA0.out; omega
  have hA6 : (((sealS 1 7 9 D)[235].toNat : Int) == 1) = true := by rw [hA3.out]; rfl
  have hA7 : (((sealS 1 7 9 D)[239].toNat : Int) == 7) = true := by rw [hA4.out]; rfl
  go_wp2_with fail
  refine (sum_z _).mono ?_
  rintro e w' ⟨rfl, rfl⟩
  go_wp2
  go_ret
  exact ⟨rfl, B6⟩

end Seal
end Go.Proofs.Ytfgaoopgnpigjaa
