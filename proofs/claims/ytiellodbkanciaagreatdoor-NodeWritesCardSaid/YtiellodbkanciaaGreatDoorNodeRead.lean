/-
  The project's reader in memory, and the contracts of its small methods.
-/
import Derived.Test.YtiellodbkanciaaGreatDoorNodeBld
import Derived.Test.YtiellodbkanciaaGreatDoorNodeGood
import Derived.Test.YtiellodbkanciaaGreatDoorGrpNum
import Derived.Test.YtiellodbkanciaaGreatDoorNumUnfixed
namespace Go.Proofs.YtiellodbkanciaaGreatDoor
open Go.RowKit
namespace No
open Num (hid unvL unfF)
abbrev tRd : TypeId := 70
abbrev ptr (b : Nat) : Value := .pointer (some ⟨b, 0, none⟩)
/-- Of what was there, block b alone may have turned. -/
structure One (b : Nat) (w w' : World) : Prop where
  os : w'.os = w.os
  tape : w'.tape = w.tape
  output : w'.output = w.output
  size : w.heap.size ≤ w'.heap.size
  block : ∀ k, k < w.heap.size → k ≠ b → w'.heap[k]? = w.heap[k]?
theorem One.refl (b : Nat) (w : World) : One b w w := ⟨rfl, rfl, rfl, Nat.le_refl _, fun _ _ _ => rfl⟩
theorem One.trans {b : Nat} {w1 w2 w3 : World} (h : One b w1 w2) (k : One b w2 w3) : One b w1 w3 :=
  ⟨k.os.trans h.os, k.tape.trans h.tape, k.output.trans h.output, Nat.le_trans h.size k.size, fun i hi hb => (k.block i (Nat.lt_of_lt_of_le hi h.size) hb).trans (h.block i hi hb)⟩
theorem One.of_below {b : Nat} {w w' : World} (h : Below w.heap.size w w') : One b w w' := ⟨h.os, h.tape, h.output, h.size, fun k hk _ => h.block k hk⟩
theorem One.set {b : Nat} {w1 w : World} (h : One b w1 w) (j : Nat) (u : Value) : One b w1 (w.setCell ⟨b, j, none⟩ u) :=
  h.trans ⟨rfl, rfl, rfl, by simp [World.setCell], fun k _ hb => Below.heap_setCell _ _ _ _ hb⟩
theorem One.below {b B : Nat} {w w' : World} (h : One b w w') (hB : B ≤ b) (hs : B ≤ w.heap.size) : Below B w w' := ⟨h.os, h.tape, h.output, h.size, fun k hk => h.block k (by omega) (by omega)⟩
theorem One.alloc {b : Nat} {w1 w : World} (h : One b w1 w) (o : Obj) : One b w1 (w.alloc o) := h.trans (.of_below ((Below.refl _ _).alloc (Nat.le_refl _) o))
theorem One.drew {b : Nat} {w1 w : World} (h : One b w1 w) : One b w1 w.drew := ⟨h.os, h.tape, h.output, h.size, h.block⟩
/-- A store into a block that was not there at first. -/
theorem One.high {b : Nat} {w1 w : World} (h : One b w1 w) {g : Nat} (hg : w1.heap.size ≤ g) (j : Nat) (u : Value) : One b w1 (w.setCell ⟨g, j, none⟩ u) :=
  ⟨h.os, h.tape, h.output, by simpa [World.setCell] using h.size, fun k hk hb => by rw [Below.heap_setCell _ _ _ _ (show k ≠ g by omega)]; exact h.block k hk hb⟩
/-- The reader: what is left, whether it failed. -/
def Rn (b : Nat) (S : Bs) (e : Bool) (w : World) : Prop := w.heap[b]? = some (.cells #[.string (bs S), .bool e] tRd (0, 0))
theorem Rn.lt {b : Nat} {S : Bs} {e : Bool} {w : World} (h : Rn b S e w) : b < w.heap.size := lt_of_block h
theorem Rn.on {b : Nat} {S : Bs} {e : Bool} {w w' : World} (h : Rn b S e w) (hb : Below w.heap.size w w') : Rn b S e w' := (hb.block _ (lt_of_block h)).trans h
theorem Rn.cells {b : Nat} {S : Bs} {e : Bool} {w : World} (h : Rn b S e w) : w.cell? ⟨b, 0, none⟩ = some (.string (bs S)) ∧ w.cell? ⟨b, 1, none⟩ = some (.bool e) := by
  unfold Rn at h
  simp [World.cell?, h]
theorem Rn.free {b : Nat} {S : Bs} {e : Bool} {w : World} (h : Rn b S e w) : w.frozen? ⟨b, 0, none⟩ = false ∧ w.frozen? ⟨b, 1, none⟩ = false := by
  unfold Rn at h
  simp [World.frozen?, h]
theorem Rn.fail {b : Nat} {S : Bs} {e : Bool} {w : World} (h : Rn b S e w) : Rn b S true (w.setCell ⟨b, 1, none⟩ (.bool true)) := by
  unfold Rn at h ⊢
  simp [World.setCell, Array.getElem?_modify, h]
theorem Rn.rest {b : Nat} {S : Bs} {e : Bool} {w : World} (h : Rn b S e w) (S' : Bs) (x : ByteArray) (hx : x = bs S') : Rn b S' e (w.setCell ⟨b, 0, none⟩ (.string x)) := by
  subst hx
  unfold Rn at h ⊢
  simp [World.setCell, Array.getElem?_modify, h]
theorem Rn.new (S : Bs) (e : Bool) (w : World) : Rn w.heap.size S e (w.alloc (.cells #[.string (bs S), .bool e] tRd)) := heap_alloc_new w _
theorem Rn.other {b : Nat} {S : Bs} {e : Bool} {w : World} (h : Rn b S e w) {g : Nat} (hg : g ≠ b) (j : Nat) (u : Value) : Rn b S e (w.setCell ⟨g, j, none⟩ u) := by
  unfold Rn at h ⊢
  rw [Below.heap_setCell _ _ _ _ (show b ≠ g from fun e => hg e.symm)]
  exact h
theorem Rn.alloc {b : Nat} {S : Bs} {e : Bool} {w : World} (h : Rn b S e w) (o : Obj) : Rn b S e (w.alloc o) := h.on ((Below.refl _ _).alloc (Nat.le_refl _) o)
theorem ex_drop (S : Bs) (k : Nat) : (bs S).extract k (bs S).size = bs (S.drop k) := by
  have e : (bs S).extract k (bs S).size = bs (bl ((bs S).extract k (bs S).size)) := (bs_bl _).symm
  rw [e]
  refine congrArg bs ?_
  show ((bs S).extract k (bs S).size).data.toList = _
  rw [ByteArray.data_extract]
  simp only [Array.toList_extract, List.extract_eq_take_drop]
  exact List.take_of_length_le (by rw [List.length_drop, bs_size]; exact Nat.le_refl _)
theorem ex_take (S : Bs) (k : Nat) : (bs S).extract 0 k = bs (S.take k) := by
  have e : (bs S).extract 0 k = bs (bl ((bs S).extract 0 k)) := (bs_bl _).symm
  rw [e]
  refine congrArg bs ?_
  show ((bs S).extract 0 k).data.toList = _
  rw [ByteArray.data_extract]
  simp only [Array.toList_extract, List.extract_eq_take_drop]
  simp [bs]
theorem unv_b (S : Bs) (hS : S.length ≤ maxLen) (w : World) : Calls Tryz.prog 146 #[.string (bs S)] w fun e w' => e = .returned (.tuple #[.int .u64 ((unvL 0 0 S).1 : Nat), .int .i64 ((unvL 0 0 S).2.1 : Nat), .int .i64 (unvL 0 0 S).2.2]) ∧ w = w' :=
  Num.unvar_any (bs S) w (by rw [bs_size]; exact hS)
/-- What a method of a reader that lives gives; z: what it gives where it fails. -/
def Lives (b : Nat) {α : Type} (val : α → Value) (z : Value) (S : Bs) (x : Option (α × Bs)) (w w' : World) (e : Ending) : Prop :=
  One b w w' ∧ match x with
    | some y => e = .returned (val y.1) ∧ Rn b y.2 false w'
    | none => e = .returned z ∧ Rn b S true w'
def bV (x : Bs) : Value := .string (bs x)
def nV64 (n : Nat) : Value := .int .i64 (n : Nat)
set_option maxRecDepth 100000 in
set_option maxHeartbeats 1000000 in
theorem bytes_dead (b : Nat) (n : Int) (S : Bs) (w : World) (h : Rn b S true w) : Calls Tryz.prog 102 #[ptr b, .int .i64 n] w fun e w' => e = .returned (.string ⟨#[]⟩) ∧ Rn b S true w' ∧ One b w w' := by
  obtain ⟨c0, c1⟩ := h.cells
  obtain ⟨f0, f1⟩ := h.free
  have hl := h.lt
  have HF := hid h.fail
  have HO := hid ((One.refl b w).set 1 (.bool true))
  clear h
  go_enter Tryz.func102, Tryz.ntmps102
  go_wp2
  go_ret
  exact ⟨rfl, HF.out, HO.out⟩
set_option maxRecDepth 100000 in
set_option maxHeartbeats 1000000 in
theorem bytes_live (b n : Nat) (S : Bs) (hS : S.length ≤ 281474976710656) (w : World) (h : Rn b S false w) :
    Calls Tryz.prog 102 #[ptr b, .int .i64 (n : Nat)] w fun e w' => Lives b bV (.string ⟨#[]⟩) S (byS S n) w w' e := by
  obtain ⟨c0, c1⟩ := h.cells
  obtain ⟨f0, f1⟩ := h.free
  have hl := h.lt
  have hz := bs_size S
  unfold byS
  by_cases hn : S.length < n
  · rw [if_pos hn]
    have hn' : (((bs S).size : Nat) : Int) < n := by omega
    have HF := hid h.fail
    have HO := hid ((One.refl b w).set 1 (.bool true))
    have HI := hid hz
    clear h hz
    go_enter Tryz.func102, Tryz.ntmps102
    go_wp2
    go_ret
    exact ⟨HO.out, rfl, HF.out⟩
  · rw [if_neg hn]
    have hn' : ¬ (((bs S).size : Nat) : Int) < n := by omega
    have hk1 : n ≤ (bs S).size := by omega
    have hk2 : (n : Int) ≤ ((bs S).size : Int) := by omega
    have HC := hid (fun w => clone_any ((bs S).extract 0 n) w (by rw [ByteArray.size_extract]; omega))
    have HX := hid (ex_take S n)
    have HH := hid h
    clear h hz
    go_enter Tryz.func102, Tryz.ntmps102
    go_wp2_with fail
    refine (HC.out _).mono ?_
    rintro e w' ⟨rfl, hb⟩
    have hr := HH.out.on hb
    obtain ⟨d0, d1⟩ := hr.cells
    obtain ⟨e0, e1⟩ := hr.free
    have hl2 := hr.lt
    have HR := hid (hr.rest (S.drop n) _ (ex_drop S n))
    have HO := hid ((One.of_below (b := b) hb).set 0 (.string ((bs S).extract n (bs S).size)))
    clear hr hb c0 c1 f0 f1
    go_wp2
    go_ret
    exact ⟨HO.out, by rw [HX.out]; rfl, HR.out⟩
theorem unfixed_b (x : Bs) (h1 : 1 ≤ x.length) (h8 : x.length ≤ 8) (w : World) : Calls Tryz.prog 144 #[.string (bs x)] w fun e w' => e = .returned (.tuple #[.int .u64 (unfF 0 x : Nat), .int .i64 0]) ∧ w = w' := by
  have h := Num.unfixed_any (bs x) w
  rw [Num.unfix_yes (bs x) (by rw [bs_size]; exact h1) (by rw [bs_size]; exact h8)] at h
  exact h
theorem unfixed_0 (w : World) : Calls Tryz.prog 144 #[.string ⟨#[]⟩] w fun e w' => e = .returned (.tuple #[.int .u64 0, .int .i64 1]) ∧ w = w' := by
  have h := Num.unfixed_any (bs []) w
  rw [Num.unfix_no (bs []) (Or.inl (by decide))] at h
  exact h
set_option maxRecDepth 100000 in
set_option maxHeartbeats 1000000 in
theorem fixed_dead (b : Nat) (n : Int) (S : Bs) (w : World) (h : Rn b S true w) : Calls Tryz.prog 101 #[ptr b, .int .i64 n] w fun e w' => e = .returned (.int .i64 0) ∧ Rn b S true w' ∧ One b w w' := by
  have HF := hid (bytes_dead b n S w h)
  clear h
  go_enter Tryz.func101, Tryz.ntmps101
  go_wp2_with fail
  refine HF.out.mono ?_
  rintro e w' ⟨rfl, hr, ho⟩
  have HR := hid hr
  have HO := hid ho
  clear hr ho
  go_wp2_with fail
  refine (unfixed_0 _).mono ?_
  rintro e w' ⟨rfl, rfl⟩
  go_wp2
  go_ret
  exact ⟨rfl, HR.out, HO.out⟩
set_option maxRecDepth 100000 in
set_option maxHeartbeats 1000000 in
theorem fixed_live (b n : Nat) (hn1 : 1 ≤ n) (hn4 : n ≤ 4) (S : Bs) (hS : S.length ≤ 281474976710656) (w : World) (h : Rn b S false w) :
    Calls Tryz.prog 101 #[ptr b, .int .i64 (n : Nat)] w fun e w' => Lives b nV64 (.int .i64 0) S (fxS S n) w w' e := by
  have HF := hid (bytes_live b n S hS w h)
  unfold fxS
  cases hx : byS S n with
  | none =>
    rw [hx] at HF
    clear h hx
    go_enter Tryz.func101, Tryz.ntmps101
    go_wp2_with fail
    refine HF.out.mono ?_
    rintro e w' ⟨ho, rfl, hr⟩
    have HR := hid hr
    have HO := hid ho
    clear hr ho
    go_wp2_with fail
    refine (unfixed_0 _).mono ?_
    rintro e w' ⟨rfl, rfl⟩
    go_wp2
    go_ret
    exact ⟨HO.out, rfl, HR.out⟩
  | some x =>
    obtain ⟨x, t⟩ := x
    rw [hx] at HF
    obtain ⟨h1, h2⟩ := byS_back hx
    have hlt := Num.unfF_lt x 0
    have hp : 256 ^ n ≤ 256 ^ 4 := Nat.pow_le_pow_right (by decide) hn4
    rw [h2, Nat.zero_add, Nat.one_mul] at hlt
    have h256 : (256 : Nat) ^ 4 = 4294967296 := by decide
    have hlt2 : unfF 0 x < 4294967296 := by omega
    have HU := hid (unfixed_b x (by omega) (by omega))
    have eo : Option.map (fun y : Bs × Bs => (unfF 0 y.1, y.2)) (some (x, t)) = some (unfF 0 x, t) := rfl
    rw [eo]
    clear eo
    have hw : wrap64 ((unfF 0 x : Nat) : Int) = ((unfF 0 x : Nat) : Int) := by rw [Num.wrap_i]; omega
    generalize unfF 0 x = v at *
    clear h hx h1 h2 hlt hp h256
    go_enter Tryz.func101, Tryz.ntmps101
    go_wp2_with fail
    refine HF.out.mono ?_
    rintro e w' ⟨ho, rfl, hr⟩
    have HR := hid hr
    have HO := hid ho
    clear hr ho
    unfold bV
    go_wp2_with fail
    refine (HU.out _).mono ?_
    rintro e w' ⟨rfl, rfl⟩
    go_wp2
    go_ret
    exact ⟨HO.out, rfl, HR.out⟩
set_option maxRecDepth 100000 in
set_option maxHeartbeats 1000000 in
theorem upto_dead (b m : Nat) (S : Bs) (hS : S.length ≤ 281474976710656) (w : World) (h : Rn b S true w) : Calls Tryz.prog 103 #[ptr b, .int .u64 (m : Nat)] w fun e w' => e = .returned (.int .i64 0) ∧ Rn b S true w' ∧ One b w w' := by
  obtain ⟨c0, c1⟩ := h.cells
  obtain ⟨f0, f1⟩ := h.free
  have hl := h.lt
  have HF := hid h.fail
  have HO := hid ((One.refl b w).set 1 (.bool true))
  have HU := hid (unv_b S (by unfold maxLen; omega))
  generalize unvL 0 0 S = u at *
  obtain ⟨u1, u2, u3⟩ := u
  clear h
  go_enter Tryz.func103, Tryz.ntmps103
  go_wp2_with fail
  refine (HU.out _).mono ?_
  rintro e w' ⟨rfl, rfl⟩
  go_wp2
  go_ret
  exact ⟨rfl, HF.out, HO.out⟩
set_option maxRecDepth 100000 in
set_option maxHeartbeats 1000000 in
theorem upto_live (b m : Nat) (hm : m ≤ 5000) (S : Bs) (hS : S.length ≤ 281474976710656) (w : World) (h : Rn b S false w) :
    Calls Tryz.prog 103 #[ptr b, .int .u64 (m : Nat)] w fun e w' => Lives b nV64 (.int .i64 0) S (upS S m) w w' e := by
  obtain ⟨c0, c1⟩ := h.cells
  obtain ⟨f0, f1⟩ := h.free
  have hl := h.lt
  have HF := hid h.fail
  have HFO := hid ((One.refl b w).set 1 (.bool true))
  have HU := hid (unv_b S (by unfold maxLen; omega))
  obtain ⟨-, u2, -⟩ := Num.unv_lt S
  have hz := bs_size S
  unfold upS
  have HH := hid h
  clear h
  generalize unvL 0 0 S = u at *
  obtain ⟨n, k, q⟩ := u
  simp only at HU u2 ⊢
  by_cases hq : q = 0
  · have hq' : (q == 0) = true := by rw [hq]; rfl
    by_cases hn : m < n
    · rw [if_pos (Or.inr hn)]
      have hn' : (m : Int) < n := by omega
      subst hq
      go_enter Tryz.func103, Tryz.ntmps103
      go_wp2_with fail
      refine (HU.out _).mono ?_
      rintro e w' ⟨rfl, rfl⟩
      go_wp2
      go_ret
      exact ⟨HFO.out, rfl, HF.out⟩
    · rw [if_neg (by rintro (h | h) <;> omega)]
      have hn' : ¬ (m : Int) < n := by omega
      have hk1 : k ≤ (bs S).size := by omega
      have hk2 : (k : Int) ≤ ((bs S).size : Int) := by omega
      have hw : wrap64 (n : Int) = n := by rw [Num.wrap_i]; omega
      have HR := hid (HH.out.rest (S.drop k) _ (ex_drop S k))
      have HO := hid ((One.refl b w).set 0 (.string ((bs S).extract k (bs S).size)))
      subst hq
      clear hz u2
      go_enter Tryz.func103, Tryz.ntmps103
      go_wp2_with fail
      refine (HU.out _).mono ?_
      rintro e w' ⟨rfl, rfl⟩
      go_wp2
      go_ret
      exact ⟨HO.out, rfl, HR.out⟩
  · rw [if_pos (Or.inl hq)]
    go_enter Tryz.func103, Tryz.ntmps103
    go_wp2_with fail
    refine (HU.out _).mono ?_
    rintro e w' ⟨rfl, rfl⟩
    go_wp2
    go_ret
    exact ⟨HFO.out, rfl, HF.out⟩
end No
end Go.Proofs.YtiellodbkanciaaGreatDoor
