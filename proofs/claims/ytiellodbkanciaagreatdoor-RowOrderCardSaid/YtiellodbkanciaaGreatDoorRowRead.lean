/-
  The project's reader in memory, and the contracts of its small methods.
-/
import Derived.Test.YtiellodbkanciaaGreatDoorRowBld
import Derived.Test.YtiellodbkanciaaGreatDoorRowCompare
import Derived.Test.YtiellodbkanciaaGreatDoorGrpNum
namespace Go.Proofs.YtiellodbkanciaaGreatDoor
open Go.RowKit
namespace Ro
open Va
open Num (hid unvL)
abbrev tRd : TypeId := 99
abbrev ptr (b : Nat) : Value := .pointer (some ⟨b, 0, none⟩)
/-- Of what was there, block b alone may have turned. -/
structure One (b : Nat) (w w' : World) : Prop where
  os : w'.os = w.os
  tape : w'.tape = w.tape
  output : w'.output = w.output
  size : w.heap.size ≤ w'.heap.size
  block : ∀ k, k < w.heap.size → k ≠ b → w'.heap[k]? = w.heap[k]?
theorem One.refl (b : Nat) (w : World) : One b w w := ⟨rfl, rfl, rfl, Nat.le_refl _, fun _ _ _ => rfl⟩
theorem One.trans {b : Nat} {w1 w2 w3 : World} (h : One b w1 w2) (k : One b w2 w3) : One b w1 w3 :=
  ⟨k.os.trans h.os, k.tape.trans h.tape, k.output.trans h.output, Nat.le_trans h.size k.size, fun i hi hb => (k.block i (Nat.lt_of_lt_of_le hi h.size) hb).trans (h.block i hi hb)⟩
theorem One.of_below {b : Nat} {w w' : World} (h : Below w.heap.size w w') : One b w w' := ⟨h.os, h.tape, h.output, h.size, fun k hk _ => h.block k hk⟩
theorem One.set {b : Nat} {w1 w : World} (h : One b w1 w) (j : Nat) (u : Value) : One b w1 (w.setCell ⟨b, j, none⟩ u) :=
  h.trans ⟨rfl, rfl, rfl, by simp [World.setCell], fun k _ hb => Below.heap_setCell _ _ _ _ hb⟩
theorem One.below {b B : Nat} {w w' : World} (h : One b w w') (hB : B ≤ b) (hs : B ≤ w.heap.size) : Below B w w' := ⟨h.os, h.tape, h.output, h.size, fun k hk => h.block k (by omega) (by omega)⟩
def Rd (b : Nat) (S : Bs) (e : Int) (w : World) : Prop := w.heap[b]? = some (.cells #[.string (bs S), .int .i64 e] tRd (0, 0))
theorem Rd.lt {b : Nat} {S : Bs} {e : Int} {w : World} (h : Rd b S e w) : b < w.heap.size := lt_of_block h
theorem Rd.on {b : Nat} {S : Bs} {e : Int} {w w' : World} (h : Rd b S e w) (hb : Below w.heap.size w w') : Rd b S e w' := (hb.block _ (lt_of_block h)).trans h
theorem Rd.cells {b : Nat} {S : Bs} {e : Int} {w : World} (h : Rd b S e w) : w.cell? ⟨b, 0, none⟩ = some (.string (bs S)) ∧ w.cell? ⟨b, 1, none⟩ = some (.int .i64 e) := by
  unfold Rd at h
  simp [World.cell?, h]
theorem Rd.free {b : Nat} {S : Bs} {e : Int} {w : World} (h : Rd b S e w) : w.frozen? ⟨b, 0, none⟩ = false ∧ w.frozen? ⟨b, 1, none⟩ = false := by
  unfold Rd at h
  simp [World.frozen?, h]
theorem Rd.err {b : Nat} {S : Bs} {e : Int} {w : World} (h : Rd b S e w) (e' : Int) : Rd b S e' (w.setCell ⟨b, 1, none⟩ (.int .i64 e')) := by
  unfold Rd at h ⊢
  simp [World.setCell, Array.getElem?_modify, h]
theorem Rd.rest {b : Nat} {S : Bs} {e : Int} {w : World} (h : Rd b S e w) (S' : Bs) (x : ByteArray) (hx : x = bs S') : Rd b S' e (w.setCell ⟨b, 0, none⟩ (.string x)) := by
  subst hx
  unfold Rd at h ⊢
  simp [World.setCell, Array.getElem?_modify, h]
theorem Rd.new (S : Bs) (e : Int) (w : World) : Rd w.heap.size S e (w.alloc (.cells #[.string (bs S), .int .i64 e] tRd)) := heap_alloc_new w _
theorem ex_drop (S : Bs) (k : Nat) : (bs S).extract k (bs S).size = bs (S.drop k) := by
  have h := rest_list (bs S) k
  have e : (bs S).extract k (bs S).size = bs (bl ((bs S).extract k (bs S).size)) := (bs_bl _).symm
  rw [e]
  exact congrArg bs h
theorem ex_take (S : Bs) (k : Nat) : (bs S).extract 0 k = bs (S.take k) := by
  have e : (bs S).extract 0 k = bs (bl ((bs S).extract 0 k)) := (bs_bl _).symm
  rw [e]
  refine congrArg bs ?_
  show ((bs S).extract 0 k).data.toList = _
  rw [ByteArray.data_extract]
  simp only [Array.toList_extract, List.extract_eq_take_drop]
  simp [bs]
theorem unv_b (S : Bs) (hS : S.length ≤ maxLen) (w : World) : Calls Tryz.prog 146 #[.string (bs S)] w fun e w' => e = .returned (.tuple #[.int .u64 ((unvL 0 0 S).1 : Nat), .int .i64 ((unvL 0 0 S).2.1 : Nat), .int .i64 (unvL 0 0 S).2.2]) ∧ w = w' :=
  Num.unvar_any (bs S) w (by rw [bs_size]; exact hS)
set_option maxRecDepth 100000 in
theorem fail_live (b : Nat) (S : Bs) (k : Int) (w : World) (h : Rd b S 0 w) : Calls Tryz.prog 79 #[ptr b, .int .i64 k] w fun e w' => e = .returned (.tuple #[]) ∧ Rd b S k w' ∧ One b w w' := by
  obtain ⟨c0, c1⟩ := h.cells
  obtain ⟨f0, f1⟩ := h.free
  have hl := h.lt
  have HE := hid (h.err k)
  have HO := hid ((One.refl b w).set 1 (.int .i64 k))
  clear h
  go_enter Tryz.func79, Tryz.ntmps79
  go_wp2
  go_end0
  exact ⟨rfl, HE.out, HO.out⟩
set_option maxRecDepth 100000 in
theorem fail_dead (b : Nat) (S : Bs) (e0 k : Int) (he : e0 ≠ 0) (w : World) (h : Rd b S e0 w) : Calls Tryz.prog 79 #[ptr b, .int .i64 k] w fun e w' => e = .returned (.tuple #[]) ∧ w = w' := by
  obtain ⟨c0, c1⟩ := h.cells
  have hl := h.lt
  have hne : (e0 == 0) = false := by simpa using he
  clear h he
  go_enter Tryz.func79, Tryz.ntmps79
  go_wp2
  go_end0
  exact ⟨rfl, rfl⟩
set_option maxRecDepth 100000 in
theorem number_dead (b : Nat) (S : Bs) (e0 : Int) (he : e0 ≠ 0) (w : World) (h : Rd b S e0 w) : Calls Tryz.prog 126 #[ptr b] w fun e w' => e = .returned (.int .u64 0) ∧ w = w' := by
  obtain ⟨c0, c1⟩ := h.cells
  have hl := h.lt
  have hne : (e0 == 0) = false := by simpa using he
  clear h he
  go_enter Tryz.func126, Tryz.ntmps126
  go_wp2
  go_ret
  exact ⟨rfl, rfl⟩
set_option maxRecDepth 100000 in
set_option maxHeartbeats 1000000 in
theorem number_live (b : Nat) (S : Bs) (hS : S.length ≤ 281474976710656) (w : World) (h : Rd b S 0 w) :
    Calls Tryz.prog 126 #[ptr b] w fun e w' => e = .returned (.int .u64 ((unvL 0 0 S).1 : Nat)) ∧ Rd b (S.drop (unvL 0 0 S).2.1) (unvL 0 0 S).2.2 w' ∧ One b w w' := by
  obtain ⟨c0, c1⟩ := h.cells
  obtain ⟨f0, f1⟩ := h.free
  have hl := h.lt
  have HU := hid (unv_b S (by unfold maxLen; omega))
  obtain ⟨-, u2, -⟩ := Num.unv_lt S
  have hz := bs_size S
  obtain ⟨n, hn⟩ : ∃ n, (unvL 0 0 S).1 = n := ⟨_, rfl⟩
  obtain ⟨k, hk⟩ : ∃ k, (unvL 0 0 S).2.1 = k := ⟨_, rfl⟩
  obtain ⟨q, hq⟩ : ∃ q, (unvL 0 0 S).2.2 = q := ⟨_, rfl⟩
  rw [hn, hk, hq] at HU
  rw [hk] at u2
  rw [hn, hk, hq]
  clear hn hk hq
  have hk1 : k ≤ (bs S).size := by omega
  have hk2 : (k : Int) ≤ ((bs S).size : Int) := by omega
  have HR := hid ((h.rest (S.drop k) _ (ex_drop S k)).err q)
  have HO := hid (((One.refl b w).set 0 (.string ((bs S).extract k (bs S).size))).set 1 (.int .i64 q))
  clear h hz u2
  go_enter Tryz.func126, Tryz.ntmps126
  go_wp2_with fail
  refine (HU.out _).mono ?_
  rintro e w' ⟨rfl, rfl⟩
  go_wp2
  go_ret
  exact ⟨rfl, HR.out, HO.out⟩
/-! ### upTo, bytes, kind: what they give, and what is left -/
structure Tk (α : Type) where
  v : α
  s : Bs
  e : Int
def upT (S : Bs) (m : Nat) : Tk Nat := if (unvL 0 0 S).2.2 ≠ 0 then ⟨0, S, (unvL 0 0 S).2.2⟩ else if m < (unvL 0 0 S).1 then ⟨0, S.drop (unvL 0 0 S).2.1, 4⟩ else ⟨(unvL 0 0 S).1, S.drop (unvL 0 0 S).2.1, 0⟩
def bytT (S : Bs) (n : Nat) : Tk Bs := if S.length < n then ⟨[], S, 3⟩ else ⟨S.take n, S.drop n, 0⟩
def kindT : Bs → Tk Nat
  | [] => ⟨0, [], 3⟩
  | k :: l => if 3 < k.toNat then ⟨0, l, 4⟩ else ⟨k.toNat, l, 0⟩
theorem kindT_cons (k : UInt8) (l : Bs) : kindT (k :: l) = if 3 < k.toNat then ⟨0, l, 4⟩ else ⟨k.toNat, l, 0⟩ := rfl
set_option maxRecDepth 100000 in
set_option maxHeartbeats 1000000 in
theorem upto_dead (b m : Nat) (S : Bs) (e0 : Int) (he : e0 ≠ 0) (w : World) (h : Rd b S e0 w) : Calls Tryz.prog 77 #[ptr b, .int .u64 (m : Nat)] w fun e w' => e = .returned (.int .i64 0) ∧ w = w' := by
  have HN := hid (number_dead b S e0 he w h)
  have hm : ¬ (m : Int) < 0 := by omega
  clear h he
  go_enter Tryz.func77, Tryz.ntmps77
  go_wp2_with fail
  refine HN.out.mono ?_
  rintro e w' ⟨rfl, rfl⟩
  go_wp2
  go_ret
  exact ⟨rfl, rfl⟩
set_option maxRecDepth 100000 in
set_option maxHeartbeats 1000000 in
theorem upto_live (b m : Nat) (hm : m ≤ 2000) (S : Bs) (hS : S.length ≤ 281474976710656) (w : World) (h : Rd b S 0 w) :
    Calls Tryz.prog 77 #[ptr b, .int .u64 (m : Nat)] w fun e w' => e = .returned (.int .i64 ((upT S m).v : Nat)) ∧ Rd b (upT S m).s (upT S m).e w' ∧ One b w w' := by
  have HN := hid (number_live b S hS w h)
  have hub := Num.unv_err S 0 0
  unfold upT
  generalize unvL 0 0 S = u at *
  obtain ⟨n, k, q⟩ := u
  simp only at HN hub ⊢
  clear h
  by_cases hq : q = 0
  · subst hq
    rw [if_neg (by simp)]
    by_cases hn : m < n
    · rw [if_pos hn]
      have hn' : (m : Int) < n := by omega
      clear hub
      go_enter Tryz.func77, Tryz.ntmps77
      go_wp2_with fail
      refine HN.out.mono ?_
      rintro e w' ⟨rfl, hr, ho⟩
      have HO := hid ho
      have HF := hid (fail_live b _ 4 _ hr)
      clear hr ho
      go_wp2_with fail
      refine HF.out.mono ?_
      rintro e w2 ⟨rfl, hr, ho⟩
      have HR := hid hr
      have HO2 := hid (HO.out.trans ho)
      clear hr ho
      go_wp2
      go_ret
      exact ⟨rfl, HR.out, HO2.out⟩
    · rw [if_neg hn]
      have hn' : ¬ (m : Int) < n := by omega
      have hw : wrap64 (n : Int) = n := by rw [Num.wrap_i]; omega
      clear hub
      go_enter Tryz.func77, Tryz.ntmps77
      go_wp2_with fail
      refine HN.out.mono ?_
      rintro e w' ⟨rfl, hr, ho⟩
      have HO := hid ho
      have HR := hid hr
      clear hr ho
      go_wp2
      go_ret
      exact ⟨rfl, HR.out, HO.out⟩
  · rw [if_pos hq]
    obtain ⟨rfl, rfl⟩ := hub hq
    rw [List.drop_zero] at HN
    have hm0 : ¬ (m : Int) < 0 := by omega
    go_enter Tryz.func77, Tryz.ntmps77
    go_wp2_with fail
    refine HN.out.mono ?_
    rintro e w' ⟨rfl, hr, ho⟩
    have HO := hid ho
    have HR := hid hr
    clear hr ho
    go_wp2
    go_ret
    exact ⟨rfl, HR.out, HO.out⟩
set_option maxRecDepth 100000 in
set_option maxHeartbeats 1000000 in
theorem bytes_dead (b n : Nat) (S : Bs) (e0 : Int) (he : e0 ≠ 0) (w : World) (h : Rd b S e0 w) : Calls Tryz.prog 129 #[ptr b, .int .i64 (n : Nat)] w fun e w' => e = .returned (.string ⟨#[]⟩) ∧ w = w' := by
  obtain ⟨c0, c1⟩ := h.cells
  have hl := h.lt
  have HF := hid (fail_dead b S e0 3 he w h)
  have hne : (e0 == 0) = false := by simpa using he
  have hz := bs_size S
  clear h he
  by_cases hn : (bs S).size < n
  · have hn' : (((bs S).size : Nat) : Int) < n := by omega
    go_enter Tryz.func129, Tryz.ntmps129
    go_wp2_with fail
    refine HF.out.mono ?_
    rintro e w' ⟨rfl, rfl⟩
    go_wp2
    go_ret
    exact ⟨rfl, rfl⟩
  · have hn' : ¬ (((bs S).size : Nat) : Int) < n := by omega
    go_enter Tryz.func129, Tryz.ntmps129
    go_wp2
    go_ret
    exact ⟨rfl, rfl⟩
set_option maxRecDepth 100000 in
set_option maxHeartbeats 1000000 in
theorem bytes_live (b n : Nat) (S : Bs) (hS : S.length ≤ 281474976710656) (w : World) (h : Rd b S 0 w) :
    Calls Tryz.prog 129 #[ptr b, .int .i64 (n : Nat)] w fun e w' => e = .returned (.string (bs (bytT S n).v)) ∧ Rd b (bytT S n).s (bytT S n).e w' ∧ One b w w' := by
  obtain ⟨c0, c1⟩ := h.cells
  have hl := h.lt
  have hz := bs_size S
  unfold bytT
  by_cases hn : S.length < n
  · rw [if_pos hn]
    have HF := hid (fail_live b S 3 w h)
    have hn' : (((bs S).size : Nat) : Int) < n := by omega
    have HI := hid hz
    clear h hz
    go_enter Tryz.func129, Tryz.ntmps129
    go_wp2_with fail
    refine HF.out.mono ?_
    rintro e w' ⟨rfl, hr, ho⟩
    obtain ⟨d0, d1⟩ := hr.cells
    have hl2 := hr.lt
    have HR := hid hr
    have HO := hid ho
    clear hr ho c0 c1
    go_wp2
    go_ret
    exact ⟨rfl, HR.out, HO.out⟩
  · rw [if_neg hn]
    have hn' : ¬ (((bs S).size : Nat) : Int) < n := by omega
    have hk1 : n ≤ (bs S).size := by omega
    have hk2 : (n : Int) ≤ ((bs S).size : Int) := by omega
    have HC := hid (fun w => clone_any ((bs S).extract 0 n) w (by rw [ByteArray.size_extract]; omega))
    have HX := hid (ex_take S n)
    have HH := hid h
    clear h hz
    go_enter Tryz.func129, Tryz.ntmps129
    go_wp2_with fail
    refine (HC.out _).mono ?_
    rintro e w' ⟨rfl, hb⟩
    have hr := HH.out.on hb
    obtain ⟨d0, d1⟩ := hr.cells
    obtain ⟨f0, f1⟩ := hr.free
    have hl2 := hr.lt
    have HR := hid (hr.rest (S.drop n) _ (ex_drop S n))
    have HO := hid ((One.of_below (b := b) hb).set 0 (.string ((bs S).extract n (bs S).size)))
    clear hr hb c0 c1
    go_wp2
    go_ret
    exact ⟨by rw [← HX.out]; rfl, HR.out, HO.out⟩
set_option maxRecDepth 100000 in
set_option maxHeartbeats 1000000 in
theorem kind_dead (b : Nat) (S : Bs) (e0 : Int) (he : e0 ≠ 0) (w : World) (h : Rd b S e0 w) : Calls Tryz.prog 127 #[ptr b] w fun e w' => e = .returned (.int .i64 0) ∧ w = w' := by
  have HF := hid (bytes_dead b 1 S e0 he w h)
  clear h he
  go_enter Tryz.func127, Tryz.ntmps127
  go_wp2_with fail
  refine HF.out.mono ?_
  rintro e w' ⟨rfl, rfl⟩
  go_wp2
  go_ret
  exact ⟨rfl, rfl⟩
set_option maxRecDepth 100000 in
set_option maxHeartbeats 1000000 in
theorem kind_live (b : Nat) (S : Bs) (hS : S.length ≤ 281474976710656) (w : World) (h : Rd b S 0 w) :
    Calls Tryz.prog 127 #[ptr b] w fun e w' => e = .returned (.int .i64 ((kindT S).v : Nat)) ∧ Rd b (kindT S).s (kindT S).e w' ∧ One b w w' := by
  have HB := hid (bytes_live b 1 S hS w h)
  clear h
  match S, HB with
  | [], HB =>
    have HB' : Hid (Calls Tryz.prog 129 #[ptr b, .int .i64 1] w fun e w' => e = .returned (.string ⟨#[]⟩) ∧ Rd b [] 3 w' ∧ One b w w') := HB
    clear HB
    unfold kindT
    go_enter Tryz.func127, Tryz.ntmps127
    go_wp2_with fail
    refine HB'.out.mono ?_
    rintro e w' ⟨rfl, hr, ho⟩
    have HR := hid hr
    have HO := hid ho
    clear hr ho
    go_wp2
    go_ret
    exact ⟨rfl, HR.out, HO.out⟩
  | k :: l, HB =>
    have HB' : Hid (Calls Tryz.prog 129 #[ptr b, .int .i64 1] w fun e w' => e = .returned (.string ⟨#[k]⟩) ∧ Rd b l 0 w' ∧ One b w w') := by
      have e : bytT (k :: l) 1 = ⟨[k], l, 0⟩ := by unfold bytT; rw [if_neg (by simp)]; rfl
      have h := HB.out
      rw [e] at h
      exact hid h
    clear HB
    have h1 : (⟨#[k]⟩ : ByteArray).size = 1 := rfl
    have hk : (⟨#[k]⟩ : ByteArray)[0]'(by rw [h1]; exact Nat.one_pos) = k := rfl
    have hne : ((⟨#[k]⟩ : ByteArray).toList == []) = false := by
      rw [ByteArray.toList_eq]; rfl
    rw [kindT_cons]
    by_cases h3 : 3 < k.toNat
    · rw [if_pos h3]
      have h3' : (3 : Int) < k.toNat := by omega
      go_enter Tryz.func127, Tryz.ntmps127
      go_wp2_with fail
      refine HB'.out.mono ?_
      rintro e w' ⟨rfl, hr, ho⟩
      have HF := hid (fail_live b _ 4 _ hr)
      have HO := hid ho
      clear hr ho
      go_wp2_with fail
      refine HF.out.mono ?_
      rintro e w2 ⟨rfl, hr, ho⟩
      have HR := hid hr
      have HO2 := hid (HO.out.trans ho)
      clear hr ho
      go_wp2
      go_ret
      exact ⟨rfl, HR.out, HO2.out⟩
    · rw [if_neg h3]
      have h3' : ¬ (3 : Int) < k.toNat := by omega
      go_enter Tryz.func127, Tryz.ntmps127
      go_wp2_with fail
      refine HB'.out.mono ?_
      rintro e w' ⟨rfl, hr, ho⟩
      have HR := hid hr
      have HO := hid ho
      clear hr ho
      go_wp2
      go_ret
      exact ⟨rfl, HR.out, HO.out⟩
end Ro
end Go.Proofs.YtiellodbkanciaaGreatDoor
