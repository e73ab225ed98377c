/-
  Put together: JouPg, JouLaid, JouWas.
-/
import Derived.Test.YtpdpjgeoclilhaaGreatGrpJC
import Derived.Test.YtpdpjgeoclilhaaGreatGrpJSea
import Derived.Test.YtpdpjgeoclilhaaGreatGrpJDke
import Derived.Test.YtpdpjgeoclilhaaGreatGrpJA
/-
  Contracts of the laws' own page and sector: a page of one byte; a page as the database keeps it.
-/
namespace Go.Proofs.YtpdpjgeoclilhaaGreat
open Go.RowKit Go.Shelf
namespace Jo
open Num (hid bcells)
open Disk (Mod Fil Sees Stays Filled fill fill_len fill_all fill_zero make_row conv_row)
open Mem (Bs bs)
open Seal (sealS sealS_list sealS_size)

def pgL (b : UInt8) : Bs := List.replicate 232 b
theorem pgL_len (b : UInt8) : (pgL b).length = 232 := List.length_replicate ..
theorem pgS_size (b : UInt8) : (bs (pgL b)).size = 232 := by show (pgL b).toArray.size = 232; rw [List.size_toArray, pgL_len]
set_option maxRecDepth 100000 in
theorem page13_any (b : UInt8) (w : World) :
    Calls Tryz.prog 63 #[.int .u8 (b.toNat : Int)] w fun e w' => e = .returned (.string (bs (pgL b))) ∧ Below w.heap.size w w' := by
  obtain ⟨w1, hmk, hrow, hb⟩ := make_row w 232 (by omega)
  have H0 : Hid (Filled w w.heap.size 232 b 0 w1) := hid ⟨by rw [fill_zero]; exact hrow, hb⟩
  have hmk2 : (Instr.makeSlice 65 (.int .i64 232) (.int .i64 232)).run Tryz.prog w = .ok (.slice (some ⟨w.heap.size, 0, none⟩) 232 232) w1 := hmk
  clear hrow hb hmk
  go_enter Tryz.func63, Tryz.ntmps63
  go_wp2
  go_loopw [4] (fun i wr => ∃ k : Nat, k ≤ 232 ∧ i = .int .i64 k ∧ Filled w w.heap.size 232 b k wr) (fun i _ => 232 - (intOf i).toNat)
  case atStart => exact ⟨0, Nat.zero_le _, rfl, H0.out⟩
  case round =>
    obtain ⟨k, hk, rfl, hf⟩ := hrel
    have HF := hid hf
    by_cases hlt : k < 232
    · obtain ⟨x, hc, hz⟩ := hf.cell hlt
      clear hf
      go_wp2
      go_roundw
      case rel => exact ⟨k + 1, by omega, by go_num, HF.out.step hlt⟩
      case measure => simp [intOf]; omega
    · obtain rfl : k = 232 := by omega
      have hcv := conv_row (l := fill b 232 232) (by rw [fill_len b 232 232 (Nat.le_refl _)]) hf.1
      clear hf
      go_wp2
      go_ret
      exact ⟨by rw [fill_all]; rfl, HF.out.2⟩
def secS (n : Nat) (b : UInt8) : ByteArray := sealS 1 n 0 (bs (pgL b))
theorem secS_list (n : Nat) (b : UInt8) : (secS n b).data.toList = Seal.sealL 1 n 0 (pgL b) := by unfold secS; rw [sealS_list]; rfl
theorem and_4095 {n : Nat} (h : n < 4096) : bits .and .i64 (n : Int) 4095 = (n : Int) := by
  have e1 : (BitVec.ofInt 64 (n : Int)).toNat = n := by
    rw [BitVec.ofInt_natCast, BitVec.toNat_ofNat]; exact Nat.mod_eq_of_lt (by omega)
  have e2 : (BitVec.ofInt 64 (4095 : Int)).toNat = 4095 := by decide +kernel
  show IntKind.i64.wrap ((BitVec.ofInt 64 (n : Int) &&& BitVec.ofInt 64 4095).toNat : Int) = _
  rw [BitVec.toNat_and, e1, e2]
  have := Nat.and_two_pow_sub_one_eq_mod n 12
  rw [show (2 : Nat) ^ 12 - 1 = 4095 by decide, show (2 : Nat) ^ 12 = 4096 by decide] at this
  rw [this, Nat.mod_eq_of_lt h]
  rw [IntKind.wrap_i64]
  omega
set_option maxRecDepth 100000 in
theorem sector13_any (n : Nat) (hn : n < 4096) (b : UInt8) (w : World) :
    Calls Tryz.prog 61 #[.int .i64 (n : Nat), .int .u8 (b.toNat : Int)] w fun e w' => e = .returned (.string (secS n b)) ∧ Below w.heap.size w w' := by
  have HC := fun wx => Seal.rclose_yes 1 n 0 (by decide) (by omega) (by decide) (bs (pgL b)) (pgS_size b) wx
  have HCH := hid HC
  clear HC
  go_enter Tryz.func61, Tryz.ntmps61
  go_wp2_with fail
  refine (page13_any b w).mono ?_
  rintro e w1 ⟨rfl, hb1⟩
  have HB := hid hb1
  clear hb1
  rw [and_4095 hn]
  go_wp2_with fail
  refine (HCH.out w1).mono ?_
  rintro e w2 ⟨rfl, hb2⟩
  have HB2 := hid (HB.out.trans (hb2.mono HB.out.size))
  clear hb2
  go_wp2
  go_ret
  exact ⟨rfl, HB2.out⟩
end Jo
end Go.Proofs.YtpdpjgeoclilhaaGreat

/-
  Contracts of the laws' own laid and was: a database as it was laid; whether it is so again.
-/
namespace Go.Proofs.YtpdpjgeoclilhaaGreat
open Go.RowKit Go.Shelf
namespace Jo
open Num (hid)
open Disk (Mod Fil Plc Sees Stays Ctl)
open Mem (Bs bs tS Chg ptr blk_cell blk_free blk_new blk_set blk_other blk_alloc row_kept row_shape row_type)
variable {d m : Nat} {M : Mod} {w w' : World}

/-- Whatever lies below N is the others'. -/
abbrev Bl (N : Nat) : Nat → Prop := fun k => k < N
theorem bl_below {N : Nat} {w w' : World} (h : Stays (Bl N) w w') (hN : N ≤ w.heap.size) : Below N w w' := Disk.Chg.below h hN (fun _ hk hx => hx hk)
theorem secS_size (n : Nat) (b : UInt8) : (secS n b).size = 256 := by unfold secS; rw [Seal.sealS_size, pgS_size]
theorem u8_nat {n : Nat} (h : n < 256) : ((UInt8.ofNat n).toNat : Int) = (n : Int) := by
  simp [Nat.mod_eq_of_lt h]
theorem secS_orig (n : Nat) : (secS n (UInt8.ofNat n)).data.toList = orig n := by rw [secS_list]; rfl
/-- A page as it was laid. -/
theorem sector_orig (n : Nat) (hn : n < 256) (w : World) :
    Calls Tryz.prog 61 #[.int .i64 (n : Nat), .int .u8 (n : Nat)] w fun e w' => e = .returned (.string (secS n (UInt8.ofNat n))) ∧ Below w.heap.size w w' := by
  have := sector13_any n (by omega) (UInt8.ofNat n) w
  rw [u8_nat hn] at this
  exact this
theorem write_sec {O : Nat → Prop} (h : Sees O d m M w) (n k : Nat) (b : UInt8) :
    Calls Tryz.prog 60 #[ptr d, .string dS, .int .i64 (n : Nat), .string (secS k b)] w fun e w' => e = .returned (.int .i64 (M.write dn n (Seal.sealL 1 k 0 (pgL b))).1) ∧ Sees O d m (M.write dn n (Seal.sealL 1 k 0 (pgL b))).2 w' ∧ Stays O w w' := by
  have := Disk.write_sees h dS (by decide) (n : Int) (secS k b) (by rw [secS_size]; decide)
  rw [secS_list, dS_list] at this
  exact this
theorem write_orig {O : Nat → Prop} (h : Sees O d m M w) (n : Nat) :
    Calls Tryz.prog 60 #[ptr d, .string dS, .int .i64 (n : Nat), .string (secS n (UInt8.ofNat n))] w fun e w' => e = .returned (.int .i64 (M.write dn n (orig n)).1) ∧ Sees O d m (M.write dn n (orig n)).2 w' ∧ Stays O w w' := write_sec h n n (UInt8.ofNat n)
def LaidPost (w : World) (P : Nat) (e : Ending) (w' : World) : Prop := ∃ d m M, e = .returned (ptr d) ∧ Sees (Bl w.heap.size) d m M w' ∧ Below w.heap.size w w' ∧ LaidM P M
theorem new_sees (w : World) : Calls Tryz.prog 10 #[.int .i64 16384] w fun e w' => ∃ d m, e = .returned (ptr d) ∧ Sees (Bl w.heap.size) d m (Mod.new 16384) w' ∧ Below w.heap.size w w' := by
  refine (Disk.new_has 16384 w).mono ?_
  rintro e w' ⟨rfl, h, hb⟩
  exact ⟨_, _, rfl, Disk.Sees.of_has h, hb⟩
set_option maxRecDepth 100000 in
set_option maxHeartbeats 1000000 in
theorem laid_any (P : Nat) (hP : P ≤ 100) (w : World) :
    Calls Tryz.prog 23 #[.int .i64 (P : Nat)] w (LaidPost w P) := by
  go_enter Tryz.func23, Tryz.ntmps23
  go_wp2_with fail
  refine (new_sees w).mono ?_
  rintro e w1 ⟨d, m, rfl, h1, hb1⟩
  have H1 := hid h1
  have HB1 := hid hb1
  have hw1 := hb1.size
  clear h1 hb1
  go_wp2_with fail
  go_loopw [4] (fun i wr => ∃ (k : Nat) (M : Mod), k ≤ P ∧ i = .int .i64 k ∧ Hid (Sees (Bl w.heap.size) d m M wr ∧ Below w.heap.size w wr ∧ LaidN k M)) (fun i _ => P - (intOf i).toNat)
  case atStart => exact ⟨0, _, Nat.zero_le _, rfl, hid ⟨H1.out, HB1.out, laid_new⟩⟩
  case round =>
    obtain ⟨k, M, hk, rfl, HI⟩ := hrel
    by_cases hlt : (k : Int) < (P : Int)
    · have hkP : k < P := by omega
      have hu : (k : Int) % 256 = (k : Int) := by omega
      go_wp2_with fail
      refine (sector_orig k (by omega) _).mono ?_
      rintro e w2 ⟨rfl, hb2⟩
      have H2 : Hid (Sees (Bl w.heap.size) d m M w2) := hid (HI.out.1.kept hb2)
      have HB2 : Hid (Below w.heap.size w w2) := hid (HI.out.2.1.trans (hb2.mono HI.out.2.1.size))
      clear hb2
      go_wp2_with fail
      refine (write_orig H2.out k).mono ?_
      rintro e w3 ⟨rfl, h3, hs3⟩
      have H3 := hid h3
      have HB3 : Hid (Below w.heap.size w w3) := hid (HB2.out.trans (bl_below hs3 HB2.out.size))
      have HL := hid (LaidN.write HI.out.2.2 (by omega)).2
      clear h3 hs3
      generalize M.write dn k (orig k) = X at *
      go_wp2
      go_roundw
      case rel => exact ⟨k + 1, X.2, by omega, by go_num, hid ⟨H3.out, HB3.out, HL.out⟩⟩
      case measure => simp [intOf]; omega
    · obtain rfl : k = P := by omega
      by_cases h0 : (k : Int) > 0
      · go_wp2_with fail
        refine (sync_dn HI.out.1).mono ?_
        rintro e w3 ⟨rfl, h3, hs3⟩
        have H3 := hid h3
        have HB3 : Hid (Below w.heap.size w w3) := hid (HI.out.2.1.trans (bl_below hs3 HI.out.2.1.size))
        have HL := hid (LaidN.sync HI.out.2.2 (by omega)).2
        clear h3 hs3
        generalize M.sync dn = X at *
        go_wp2
        go_ret
        exact ⟨d, m, X.2, rfl, H3.out, HB3.out, HL.out⟩
      · obtain rfl : k = 0 := by omega
        go_wp2
        go_ret
        exact ⟨d, m, M, rfl, HI.out.1, HI.out.2.1, HI.out.2.2.none⟩
end Jo
end Go.Proofs.YtpdpjgeoclilhaaGreat

/-
  Contract of the laws' own was: where a database is what it was, it says so.
-/
namespace Go.Proofs.YtpdpjgeoclilhaaGreat
open Go.RowKit Go.Shelf
namespace Jo
open Num (hid)
open Disk (Mod Fil Plc Sees Stays Ctl)
open Mem (Bs bs tS Chg ptr blk_cell blk_free blk_new blk_set blk_other blk_alloc row_kept row_shape row_type)
variable {O : Nat → Prop} {d m : Nat} {M : Mod} {w w' : World}

theorem orig_secS (n : Nat) : (⟨(orig n).toArray⟩ : ByteArray) = secS n (UInt8.ofNat n) := by
  rw [← secS_orig n]
theorem read_dn {O : Nat → Prop} (h : Sees O d m M w) (i : Nat) (hi : i ≤ 16384) : Calls Tryz.prog 46 #[ptr d, .string dS, .int .i64 (i : Nat)] w fun e w' => e = .returned (.tuple #[.string (bs (M.read dn i).1), .int .i64 (M.read dn i).2.1]) ∧ Sees O d m (M.read dn i).2.2 w' ∧ Stays O w w' :=
  Disk.read_sees h dS (by decide) (i : Int) (by omega)
/-- A page that is as it was. -/
theorem read_orig {O : Nat → Prop} {D J : Option Fil} (h : Sees O d m M w) (hfs : M.fs = dir2 D J) (hc : Calm M.c) {P : Nat} (hF : Fin P D) (i : Nat) (hi : i < P) (hP : P ≤ 100) :
    Calls Tryz.prog 46 #[ptr d, .string dS, .int .i64 (i : Nat)] w fun e w' => e = .returned (.tuple #[.string (secS i (UInt8.ofNat i)), .int .i64 0]) ∧ (∃ M', Sees O d m M' w' ∧ M'.fs = dir2 D J ∧ Calm M'.c) ∧ Stays O w w' := by
  cases D with
  | none => exact absurd (show P = 0 from hF) (by omega)
  | some F =>
    obtain ⟨p, h1, h2⟩ := (hF : F.ps.length = P ∧ ∀ n, n < P → ∃ p, F.ps[n]? = some p ∧ p.now = some (orig n)).2 i hi
    obtain ⟨r1, r2, r3, r4, _⟩ := read_d hfs hc rfl h1 h2
    refine (read_dn h i (by omega)).mono ?_
    rintro e w' ⟨rfl, hs, hst⟩
    rw [r1, r2]
    refine ⟨?_, ⟨_, hs, r3.trans hfs, r4⟩, hst⟩
    show Ending.returned (.tuple #[.string ⟨(orig i).toArray⟩, .int .i64 0]) = _
    rw [orig_secS]
def WasPost (O : Nat → Prop) (d m : Nat) (D J : Option Fil) (w : World) (e : Ending) (w' : World) : Prop := ∃ M, e = .returned (.bool true) ∧ Sees O d m M w' ∧ Stays O w w' ∧ M.fs = dir2 D J ∧ Calm M.c
set_option maxRecDepth 100000 in
set_option maxHeartbeats 1000000 in
theorem was_any {D J : Option Fil} (h : Sees O d m M w) (hfs : M.fs = dir2 D J) (hc : Calm M.c) {P : Nat} (hF : Fin P D) (hP : P ≤ 100) :
    Calls Tryz.prog 28 #[ptr d, .int .i64 (P : Nat)] w (WasPost O d m D J w) := by
  have hsz := size_d hfs
  have H := hid h
  have HFS := hid hfs
  have HC := hid hc
  have HFN := hid hF
  by_cases h0 : P = 0
  · subst h0
    have hle : (M.size dn) ≤ 0 := by
      rw [hsz]
      cases D with
      | none => decide
      | some F => have := (hF : F.ps.length = 0 ∧ _).1; show (F.ps.length : Int) ≤ 0; omega
    clear h hfs hc hF hsz
    go_enter Tryz.func28, Tryz.ntmps28
    go_wp2_with fail
    refine (size_dn H.out).mono ?_
    rintro e w1 ⟨rfl, rfl⟩
    generalize M.size dn = sz at *
    go_wp2
    go_ret
    exact ⟨M, rfl, H.out, Disk.Stays.refl _ _, HFS.out, HC.out⟩
  · have hsz2 : M.size dn = (P : Int) := by
      rw [hsz]
      cases D with
      | none => exact absurd (hF : P = 0) h0
      | some F => have := (hF : F.ps.length = P ∧ _).1; show (F.ps.length : Int) = _; omega
    have hp1 : ((P : Int) == 0) = false := by simp; omega
    clear h hfs hc hF hsz
    go_enter Tryz.func28, Tryz.ntmps28
    go_wp2_with fail
    refine (size_dn H.out).mono ?_
    rintro e w1 ⟨rfl, rfl⟩
    rw [hsz2]
    go_wp2_with fail
    go_loopw [5] (fun i wr => ∃ (k : Nat) (M : Mod), k ≤ P ∧ i = .int .i64 k ∧ Hid (Sees O d m M wr ∧ Stays O w wr ∧ M.fs = dir2 D J ∧ Calm M.c)) (fun i _ => P - (intOf i).toNat)
    case atStart => exact ⟨0, _, Nat.zero_le _, rfl, hid ⟨H.out, Disk.Stays.refl _ _, HFS.out, HC.out⟩⟩
    case round =>
      obtain ⟨k, M, hk, rfl, HI⟩ := hrel
      by_cases hlt : (k : Int) < (P : Int)
      · have hkP : k < P := by omega
        have hu : (k : Int) % 256 = (k : Int) := by omega
        go_wp2_with fail
        refine (read_orig HI.out.1 HI.out.2.2.1 HI.out.2.2.2 HFN.out k hkP hP).mono ?_
        rintro e w2 ⟨rfl, ⟨M2, h2, hf2, hc2⟩, hs2⟩
        have H2 := hid h2
        have HF2 := hid hf2
        have HC2 := hid hc2
        have HS2 : Hid (Stays O w w2) := hid (HI.out.2.1.trans hs2)
        clear h2 hf2 hc2 hs2
        go_wp2_with fail
        refine (sector_orig k (by omega) _).mono ?_
        rintro e w3 ⟨rfl, hb3⟩
        have H3 := hid (H2.out.kept hb3)
        have HS3 : Hid (Stays O w w3) := hid (HS2.out.trans (stays_of hb3))
        clear hb3
        go_wp2
        go_roundw
        case rel => exact ⟨k + 1, M2, by omega, by go_num, hid ⟨H3.out, HS3.out, HF2.out, HC2.out⟩⟩
        case measure => simp [intOf]; omega
      · obtain rfl : k = P := by omega
        go_wp2
        go_ret
        exact ⟨M, rfl, HI.out.1, HI.out.2.1, HI.out.2.2.1, HI.out.2.2.2⟩
end Jo
end Go.Proofs.YtpdpjgeoclilhaaGreat
