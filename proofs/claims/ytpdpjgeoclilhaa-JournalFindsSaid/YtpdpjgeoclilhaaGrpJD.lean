/-
  Put together: JouPg, JouLaid, JouWas.
-/
import Derived.Test.YtpdpjgeoclilhaaGrpJC
import Derived.Test.YtpdpjgeoclilhaaGrpFSea
import Derived.Test.YtpdpjgeoclilhaaGrpJDke
import Derived.Test.YtpdpjgeoclilhaaGrpFA
/-
  Contracts of the laws' own page and sector: a page of one byte; a page as the database keeps it.
-/
namespace Go.Proofs.Ytpdpjgeoclilhaa
open Go.RowKit Go.Shelf
namespace Jo
open Num (hid bcells)
open Disk (Mod Fil Sees Stays Filled fill fill_len fill_all fill_zero make_row conv_row)
open Mem (Bs bs)
open Seal (sealS sealS_list sealS_size)

def pgL (b : UInt8) : Bs := List.replicate 232 b
theorem pgL_len (b : UInt8) : (pgL b).length = 232 := List.length_replicate ..
theorem pgS_size (b : UInt8) : (bs (pgL b)).size = 232 := by show (pgL b).toArray.size = 232; rw [List.size_toArray, pgL_len]
set_option maxRecDepth 100000 in
theorem page13_any (b : UInt8) (w : World) :
    Calls Try.prog 9 #[.int .u8 (b.toNat : Int)] w fun e w' => e = .returned (.string (bs (pgL b))) ∧ Below w.heap.size w w' := by
  obtain ⟨w1, hmk, hrow, hb⟩ := make_row w 232 (by omega)
  have H0 : Hid (Filled w w.heap.size 232 b 0 w1) := hid ⟨by rw [fill_zero]; exact hrow, hb⟩
  have hmk2 : (Instr.makeSlice 62 (.int .i64 232) (.int .i64 232)).run Try.prog w = .ok (.slice (some ⟨w.heap.size, 0, none⟩) 232 232) w1 := hmk
  clear hrow hb hmk
  go_enter Try.func9, Try.ntmps9
  go_wp2
  go_loopw [4] (fun i wr => ∃ k : Nat, k ≤ 232 ∧ i = .int .i64 k ∧ Filled w w.heap.size 232 b k wr) (fun i _ => 232 - (intOf i).toNat)
  case atStart => exact ⟨0, Nat.zero_le _, rfl, H0.out⟩
  case round =>
    obtain ⟨k, hk, rfl, hf⟩ := hrel
    have HF := hid hf
    by_cases hlt : k < 232
    · obtain ⟨x, hc, hz⟩ := hf.cell hlt
      clear hf
      go_wp2
      go_roundw
      case rel => exact ⟨k + 1, by omega, by go_num, HF.out.step hlt⟩
      case measure => simp [intOf]; omega
    · obtain rfl : k = 232 := by omega
      have hcv := conv_row (l := fill b 232 232) (by rw [fill_len b 232 232 (Nat.le_refl _)]) hf.1
      clear hf
      go_wp2
      go_ret
      exact ⟨by rw [fill_all]; rfl, HF.out.2⟩
def secS (n : Nat) (b : UInt8) : ByteArray := sealS 1 n 0 (bs (pgL b))
theorem secS_list (n : Nat) (b : UInt8) : (secS n b).data.toList = Seal.sealL 1 n 0 (pgL b) := by unfold secS; rw [sealS_list]; rfl
theorem and_4095 {n : Nat} (h : n < 4096) : bits .and .i64 (n : Int) 4095 = (n : Int) := by
  have e1 : (BitVec.ofInt 64 (n : Int)).toNat = n := by
    rw [BitVec.ofInt_natCast, BitVec.toNat_ofNat]; exact Nat.mod_eq_of_lt (by omega)
  have e2 : (BitVec.ofInt 64 (4095 : Int)).toNat = 4095 := by decide +kernel
  show IntKind.i64.wrap ((BitVec.ofInt 64 (n : Int) &&& BitVec.ofInt 64 4095).toNat : Int) = _
  rw [BitVec.toNat_and, e1, e2]
  have := Nat.and_two_pow_sub_one_eq_mod n 12
  rw [show (2 : Nat) ^ 12 - 1 = 4095 by decide, show (2 : Nat) ^ 12 = 4096 by decide] at this
  rw [this, Nat.mod_eq_of_lt h]
  rw [IntKind.wrap_i64]
  omega
end Jo
end Go.Proofs.Ytpdpjgeoclilhaa

/-
  Contracts of the laws' own laid and was: a database as it was laid; whether it is so again.
-/
namespace Go.Proofs.Ytpdpjgeoclilhaa
open Go.RowKit Go.Shelf
namespace Jo
open Num (hid)
open Disk (Mod Fil Plc Sees Stays Ctl)
open Mem (Bs bs tS Chg ptr blk_cell blk_free blk_new blk_set blk_other blk_alloc row_kept row_shape row_type)
variable {d m : Nat} {M : Mod} {w w' : World}

/-- Whatever lies below N is the others'. -/
abbrev Bl (N : Nat) : Nat → Prop := fun k => k < N
theorem bl_below {N : Nat} {w w' : World} (h : Stays (Bl N) w w') (hN : N ≤ w.heap.size) : Below N w w' := Disk.Chg.below h hN (fun _ hk hx => hx hk)
theorem secS_size (n : Nat) (b : UInt8) : (secS n b).size = 256 := by unfold secS; rw [Seal.sealS_size, pgS_size]
theorem u8_nat {n : Nat} (h : n < 256) : ((UInt8.ofNat n).toNat : Int) = (n : Int) := by
  simp [Nat.mod_eq_of_lt h]
theorem secS_orig (n : Nat) : (secS n (UInt8.ofNat n)).data.toList = orig n := by rw [secS_list]; rfl
theorem write_sec {O : Nat → Prop} (h : Sees O d m M w) (n k : Nat) (b : UInt8) :
    Calls Try.prog 27 #[ptr d, .string dS, .int .i64 (n : Nat), .string (secS k b)] w fun e w' => e = .returned (.int .i64 (M.write dn n (Seal.sealL 1 k 0 (pgL b))).1) ∧ Sees O d m (M.write dn n (Seal.sealL 1 k 0 (pgL b))).2 w' ∧ Stays O w w' := by
  have := Disk.write_sees h dS (by decide) (n : Int) (secS k b) (by rw [secS_size]; decide)
  rw [secS_list, dS_list] at this
  exact this
theorem write_orig {O : Nat → Prop} (h : Sees O d m M w) (n : Nat) :
    Calls Try.prog 27 #[ptr d, .string dS, .int .i64 (n : Nat), .string (secS n (UInt8.ofNat n))] w fun e w' => e = .returned (.int .i64 (M.write dn n (orig n)).1) ∧ Sees O d m (M.write dn n (orig n)).2 w' ∧ Stays O w w' := write_sec h n n (UInt8.ofNat n)
def LaidPost (w : World) (P : Nat) (e : Ending) (w' : World) : Prop := ∃ d m M, e = .returned (ptr d) ∧ Sees (Bl w.heap.size) d m M w' ∧ Below w.heap.size w w' ∧ LaidM P M
theorem new_sees (w : World) : Calls Try.prog 5 #[.int .i64 16384] w fun e w' => ∃ d m, e = .returned (ptr d) ∧ Sees (Bl w.heap.size) d m (Mod.new 16384) w' ∧ Below w.heap.size w w' := by
  refine (Disk.new_has 16384 w).mono ?_
  rintro e w' ⟨rfl, h, hb⟩
  exact ⟨_, _, rfl, Disk.Sees.of_has h, hb⟩
end Jo
end Go.Proofs.Ytpdpjgeoclilhaa

/-
  Contract of the laws' own was: where a database is what it was, it says so.
-/
namespace Go.Proofs.Ytpdpjgeoclilhaa
open Go.RowKit Go.Shelf
namespace Jo
open Num (hid)
open Disk (Mod Fil Plc Sees Stays Ctl)
open Mem (Bs bs tS Chg ptr blk_cell blk_free blk_new blk_set blk_other blk_alloc row_kept row_shape row_type)
variable {O : Nat → Prop} {d m : Nat} {M : Mod} {w w' : World}

theorem orig_secS (n : Nat) : (⟨(orig n).toArray⟩ : ByteArray) = secS n (UInt8.ofNat n) := by
  rw [← secS_orig n]
theorem read_dn {O : Nat → Prop} (h : Sees O d m M w) (i : Nat) (hi : i ≤ 16384) : Calls Try.prog 23 #[ptr d, .string dS, .int .i64 (i : Nat)] w fun e w' => e = .returned (.tuple #[.string (bs (M.read dn i).1), .int .i64 (M.read dn i).2.1]) ∧ Sees O d m (M.read dn i).2.2 w' ∧ Stays O w w' :=
  Disk.read_sees h dS (by decide) (i : Int) (by omega)
/-- A page that is as it was. -/
theorem read_orig {O : Nat → Prop} {D J : Option Fil} (h : Sees O d m M w) (hfs : M.fs = dir2 D J) (hc : Calm M.c) {P : Nat} (hF : Fin P D) (i : Nat) (hi : i < P) (hP : P ≤ 100) :
    Calls Try.prog 23 #[ptr d, .string dS, .int .i64 (i : Nat)] w fun e w' => e = .returned (.tuple #[.string (secS i (UInt8.ofNat i)), .int .i64 0]) ∧ (∃ M', Sees O d m M' w' ∧ M'.fs = dir2 D J ∧ Calm M'.c) ∧ Stays O w w' := by
  cases D with
  | none => exact absurd (show P = 0 from hF) (by omega)
  | some F =>
    obtain ⟨p, h1, h2⟩ := (hF : F.ps.length = P ∧ ∀ n, n < P → ∃ p, F.ps[n]? = some p ∧ p.now = some (orig n)).2 i hi
    obtain ⟨r1, r2, r3, r4, _⟩ := read_d hfs hc rfl h1 h2
    refine (read_dn h i (by omega)).mono ?_
    rintro e w' ⟨rfl, hs, hst⟩
    rw [r1, r2]
    refine ⟨?_, ⟨_, hs, r3.trans hfs, r4⟩, hst⟩
    show Ending.returned (.tuple #[.string ⟨(orig i).toArray⟩, .int .i64 0]) = _
    rw [orig_secS]
def WasPost (O : Nat → Prop) (d m : Nat) (D J : Option Fil) (w : World) (e : Ending) (w' : World) : Prop := ∃ M, e = .returned (.bool true) ∧ Sees O d m M w' ∧ Stays O w w' ∧ M.fs = dir2 D J ∧ Calm M.c
end Jo
end Go.Proofs.Ytpdpjgeoclilhaa
