/-
  Put together: NodeRead, NodeCell, NodeSt, NodeNode.
-/
import Derived.Test.YtoifhcmgeackdaaGreatDoorGrpTrNoB
import Derived.Test.YtoifhcmgeackdaaGreatDoorNodeGood
import Derived.Test.YtoifhcmgeackdaaGreatDoorGrpTrNum
import Derived.Deep.AppendLies
import Derived.Deep.RegionLaw
import Derived.Deep.DeepCutAuto
/-
  The project's reader in memory, and the contracts of its small methods.
-/
namespace Go.Proofs.YtoifhcmgeackdaaGreatDoor
open Go.RowKit
namespace No
open Num (hid unvL unfF)
abbrev tRd : TypeId := 193
abbrev ptr (b : Nat) : Value := .pointer (some ⟨b, 0, none⟩)
/-- Of what was there, block b alone may have turned. -/
structure One (b : Nat) (w w' : World) : Prop where
  os : w'.os = w.os
  tape : w'.tape = w.tape
  output : w'.output = w.output
  size : w.heap.size ≤ w'.heap.size
  block : ∀ k, k < w.heap.size → k ≠ b → w'.heap[k]? = w.heap[k]?
theorem One.refl (b : Nat) (w : World) : One b w w := ⟨rfl, rfl, rfl, Nat.le_refl _, fun _ _ _ => rfl⟩
theorem One.trans {b : Nat} {w1 w2 w3 : World} (h : One b w1 w2) (k : One b w2 w3) : One b w1 w3 :=
  ⟨k.os.trans h.os, k.tape.trans h.tape, k.output.trans h.output, Nat.le_trans h.size k.size, fun i hi hb => (k.block i (Nat.lt_of_lt_of_le hi h.size) hb).trans (h.block i hi hb)⟩
theorem One.of_below {b : Nat} {w w' : World} (h : Below w.heap.size w w') : One b w w' := ⟨h.os, h.tape, h.output, h.size, fun k hk _ => h.block k hk⟩
theorem One.set {b : Nat} {w1 w : World} (h : One b w1 w) (j : Nat) (u : Value) : One b w1 (w.setCell ⟨b, j, none⟩ u) :=
  h.trans ⟨rfl, rfl, rfl, by simp [World.setCell], fun k _ hb => Below.heap_setCell _ _ _ _ hb⟩
theorem One.below {b B : Nat} {w w' : World} (h : One b w w') (hB : B ≤ b) (hs : B ≤ w.heap.size) : Below B w w' := ⟨h.os, h.tape, h.output, h.size, fun k hk => h.block k (by omega) (by omega)⟩
theorem One.alloc {b : Nat} {w1 w : World} (h : One b w1 w) (o : Obj) : One b w1 (w.alloc o) := h.trans (.of_below ((Below.refl _ _).alloc (Nat.le_refl _) o))
theorem One.drew {b : Nat} {w1 w : World} (h : One b w1 w) : One b w1 w.drew := ⟨h.os, h.tape, h.output, h.size, h.block⟩
/-- A store into a block that was not there at first. -/
theorem One.high {b : Nat} {w1 w : World} (h : One b w1 w) {g : Nat} (hg : w1.heap.size ≤ g) (j : Nat) (u : Value) : One b w1 (w.setCell ⟨g, j, none⟩ u) :=
  ⟨h.os, h.tape, h.output, by simpa [World.setCell] using h.size, fun k hk hb => by rw [Below.heap_setCell _ _ _ _ (show k ≠ g by omega)]; exact h.block k hk hb⟩
/-- The reader: what is left, whether it failed. -/
def Rn (b : Nat) (S : Bs) (e : Bool) (w : World) : Prop := w.heap[b]? = some (.cells #[.string (bs S), .bool e] tRd (0, 0))
theorem Rn.lt {b : Nat} {S : Bs} {e : Bool} {w : World} (h : Rn b S e w) : b < w.heap.size := lt_of_block h
theorem Rn.on {b : Nat} {S : Bs} {e : Bool} {w w' : World} (h : Rn b S e w) (hb : Below w.heap.size w w') : Rn b S e w' := (hb.block _ (lt_of_block h)).trans h
theorem Rn.cells {b : Nat} {S : Bs} {e : Bool} {w : World} (h : Rn b S e w) : w.cell? ⟨b, 0, none⟩ = some (.string (bs S)) ∧ w.cell? ⟨b, 1, none⟩ = some (.bool e) := by
  unfold Rn at h
  simp [World.cell?, h]
theorem Rn.free {b : Nat} {S : Bs} {e : Bool} {w : World} (h : Rn b S e w) : w.frozen? ⟨b, 0, none⟩ = false ∧ w.frozen? ⟨b, 1, none⟩ = false := by
  unfold Rn at h
  simp [World.frozen?, h]
theorem Rn.fail {b : Nat} {S : Bs} {e : Bool} {w : World} (h : Rn b S e w) : Rn b S true (w.setCell ⟨b, 1, none⟩ (.bool true)) := by
  unfold Rn at h ⊢
  simp [World.setCell, Array.getElem?_modify, h]
theorem Rn.rest {b : Nat} {S : Bs} {e : Bool} {w : World} (h : Rn b S e w) (S' : Bs) (x : ByteArray) (hx : x = bs S') : Rn b S' e (w.setCell ⟨b, 0, none⟩ (.string x)) := by
  subst hx
  unfold Rn at h ⊢
  simp [World.setCell, Array.getElem?_modify, h]
theorem Rn.new (S : Bs) (e : Bool) (w : World) : Rn w.heap.size S e (w.alloc (.cells #[.string (bs S), .bool e] tRd)) := heap_alloc_new w _
theorem Rn.other {b : Nat} {S : Bs} {e : Bool} {w : World} (h : Rn b S e w) {g : Nat} (hg : g ≠ b) (j : Nat) (u : Value) : Rn b S e (w.setCell ⟨g, j, none⟩ u) := by
  unfold Rn at h ⊢
  rw [Below.heap_setCell _ _ _ _ (show b ≠ g from fun e => hg e.symm)]
  exact h
theorem Rn.alloc {b : Nat} {S : Bs} {e : Bool} {w : World} (h : Rn b S e w) (o : Obj) : Rn b S e (w.alloc o) := h.on ((Below.refl _ _).alloc (Nat.le_refl _) o)
theorem ex_drop (S : Bs) (k : Nat) : (bs S).extract k (bs S).size = bs (S.drop k) := by
  have e : (bs S).extract k (bs S).size = bs (bl ((bs S).extract k (bs S).size)) := (bs_bl _).symm
  rw [e]
  refine congrArg bs ?_
  show ((bs S).extract k (bs S).size).data.toList = _
  rw [ByteArray.data_extract]
  simp only [Array.toList_extract, List.extract_eq_take_drop]
  exact List.take_of_length_le (by rw [List.length_drop, bs_size]; exact Nat.le_refl _)
theorem ex_take (S : Bs) (k : Nat) : (bs S).extract 0 k = bs (S.take k) := by
  have e : (bs S).extract 0 k = bs (bl ((bs S).extract 0 k)) := (bs_bl _).symm
  rw [e]
  refine congrArg bs ?_
  show ((bs S).extract 0 k).data.toList = _
  rw [ByteArray.data_extract]
  simp only [Array.toList_extract, List.extract_eq_take_drop]
  simp [bs]
theorem unv_b (S : Bs) (hS : S.length ≤ maxLen) (w : World) : Calls Tryz.prog 179 #[.string (bs S)] w fun e w' => e = .returned (.tuple #[.int .u64 ((unvL 0 0 S).1 : Nat), .int .i64 ((unvL 0 0 S).2.1 : Nat), .int .i64 (unvL 0 0 S).2.2]) ∧ w = w' :=
  Num.unvar_any (bs S) w (by rw [bs_size]; exact hS)
/-- What a method of a reader that lives gives; z: what it gives where it fails. -/
def Lives (b : Nat) {α : Type} (val : α → Value) (z : Value) (S : Bs) (x : Option (α × Bs)) (w w' : World) (e : Ending) : Prop :=
  One b w w' ∧ match x with
    | some y => e = .returned (val y.1) ∧ Rn b y.2 false w'
    | none => e = .returned z ∧ Rn b S true w'
def bV (x : Bs) : Value := .string (bs x)
def nV64 (n : Nat) : Value := .int .i64 (n : Nat)
set_option maxRecDepth 100000 in
set_option maxHeartbeats 1000000 in
theorem bytes_dead (b : Nat) (n : Int) (S : Bs) (w : World) (h : Rn b S true w) : Calls Tryz.prog 150 #[ptr b, .int .i64 n] w fun e w' => e = .returned (.string ⟨#[]⟩) ∧ Rn b S true w' ∧ One b w w' := by
  obtain ⟨c0, c1⟩ := h.cells
  obtain ⟨f0, f1⟩ := h.free
  have hl := h.lt
  have HF := hid h.fail
  have HO := hid ((One.refl b w).set 1 (.bool true))
  clear h
  go_enter Tryz.func150, Tryz.ntmps150
  go_wp2
  go_ret
  exact ⟨rfl, HF.out, HO.out⟩
set_option maxRecDepth 100000 in
set_option maxHeartbeats 1000000 in
theorem bytes_live (b n : Nat) (S : Bs) (hS : S.length ≤ 281474976710656) (w : World) (h : Rn b S false w) :
    Calls Tryz.prog 150 #[ptr b, .int .i64 (n : Nat)] w fun e w' => Lives b bV (.string ⟨#[]⟩) S (byS S n) w w' e := by
  obtain ⟨c0, c1⟩ := h.cells
  obtain ⟨f0, f1⟩ := h.free
  have hl := h.lt
  have hz := bs_size S
  unfold byS
  by_cases hn : S.length < n
  · rw [if_pos hn]
    have hn' : (((bs S).size : Nat) : Int) < n := by omega
    have HF := hid h.fail
    have HO := hid ((One.refl b w).set 1 (.bool true))
    have HI := hid hz
    clear h hz
    go_enter Tryz.func150, Tryz.ntmps150
    go_wp2
    go_ret
    exact ⟨HO.out, rfl, HF.out⟩
  · rw [if_neg hn]
    have hn' : ¬ (((bs S).size : Nat) : Int) < n := by omega
    have hk1 : n ≤ (bs S).size := by omega
    have hk2 : (n : Int) ≤ ((bs S).size : Int) := by omega
    have HC := hid (fun w => clone_any ((bs S).extract 0 n) w (by rw [ByteArray.size_extract]; omega))
    have HX := hid (ex_take S n)
    have HH := hid h
    clear h hz
    go_enter Tryz.func150, Tryz.ntmps150
    go_wp2_with fail
    refine (HC.out _).mono ?_
    rintro e w' ⟨rfl, hb⟩
    have hr := HH.out.on hb
    obtain ⟨d0, d1⟩ := hr.cells
    obtain ⟨e0, e1⟩ := hr.free
    have hl2 := hr.lt
    have HR := hid (hr.rest (S.drop n) _ (ex_drop S n))
    have HO := hid ((One.of_below (b := b) hb).set 0 (.string ((bs S).extract n (bs S).size)))
    clear hr hb c0 c1 f0 f1
    go_wp2
    go_ret
    exact ⟨HO.out, by rw [HX.out]; rfl, HR.out⟩
theorem unfixed_b (x : Bs) (h1 : 1 ≤ x.length) (h8 : x.length ≤ 8) (w : World) : Calls Tryz.prog 178 #[.string (bs x)] w fun e w' => e = .returned (.tuple #[.int .u64 (unfF 0 x : Nat), .int .i64 0]) ∧ w = w' := by
  have h := Num.unfixed_any (bs x) w
  rw [Num.unfix_yes (bs x) (by rw [bs_size]; exact h1) (by rw [bs_size]; exact h8)] at h
  exact h
theorem unfixed_0 (w : World) : Calls Tryz.prog 178 #[.string ⟨#[]⟩] w fun e w' => e = .returned (.tuple #[.int .u64 0, .int .i64 1]) ∧ w = w' := by
  have h := Num.unfixed_any (bs []) w
  rw [Num.unfix_no (bs []) (Or.inl (by decide))] at h
  exact h
set_option maxRecDepth 100000 in
set_option maxHeartbeats 1000000 in
theorem fixed_dead (b : Nat) (n : Int) (S : Bs) (w : World) (h : Rn b S true w) : Calls Tryz.prog 149 #[ptr b, .int .i64 n] w fun e w' => e = .returned (.int .i64 0) ∧ Rn b S true w' ∧ One b w w' := by
  have HF := hid (bytes_dead b n S w h)
  clear h
  go_enter Tryz.func149, Tryz.ntmps149
  go_wp2_with fail
  refine HF.out.mono ?_
  rintro e w' ⟨rfl, hr, ho⟩
  have HR := hid hr
  have HO := hid ho
  clear hr ho
  go_wp2_with fail
  refine (unfixed_0 _).mono ?_
  rintro e w' ⟨rfl, rfl⟩
  go_wp2
  go_ret
  exact ⟨rfl, HR.out, HO.out⟩
set_option maxRecDepth 100000 in
set_option maxHeartbeats 1000000 in
theorem fixed_live (b n : Nat) (hn1 : 1 ≤ n) (hn4 : n ≤ 4) (S : Bs) (hS : S.length ≤ 281474976710656) (w : World) (h : Rn b S false w) :
    Calls Tryz.prog 149 #[ptr b, .int .i64 (n : Nat)] w fun e w' => Lives b nV64 (.int .i64 0) S (fxS S n) w w' e := by
  have HF := hid (bytes_live b n S hS w h)
  unfold fxS
  cases hx : byS S n with
  | none =>
    rw [hx] at HF
    clear h hx
    go_enter Tryz.func149, Tryz.ntmps149
    go_wp2_with fail
    refine HF.out.mono ?_
    rintro e w' ⟨ho, rfl, hr⟩
    have HR := hid hr
    have HO := hid ho
    clear hr ho
    go_wp2_with fail
    refine (unfixed_0 _).mono ?_
    rintro e w' ⟨rfl, rfl⟩
    go_wp2
    go_ret
    exact ⟨HO.out, rfl, HR.out⟩
  | some x =>
    obtain ⟨x, t⟩ := x
    rw [hx] at HF
    obtain ⟨h1, h2⟩ := byS_back hx
    have hlt := Num.unfF_lt x 0
    have hp : 256 ^ n ≤ 256 ^ 4 := Nat.pow_le_pow_right (by decide) hn4
    rw [h2, Nat.zero_add, Nat.one_mul] at hlt
    have h256 : (256 : Nat) ^ 4 = 4294967296 := by decide
    have hlt2 : unfF 0 x < 4294967296 := by omega
    have HU := hid (unfixed_b x (by omega) (by omega))
    have eo : Option.map (fun y : Bs × Bs => (unfF 0 y.1, y.2)) (some (x, t)) = some (unfF 0 x, t) := rfl
    rw [eo]
    clear eo
    have hw : wrap64 ((unfF 0 x : Nat) : Int) = ((unfF 0 x : Nat) : Int) := by rw [Num.wrap_i]; omega
    generalize unfF 0 x = v at *
    clear h hx h1 h2 hlt hp h256
    go_enter Tryz.func149, Tryz.ntmps149
    go_wp2_with fail
    refine HF.out.mono ?_
    rintro e w' ⟨ho, rfl, hr⟩
    have HR := hid hr
    have HO := hid ho
    clear hr ho
    unfold bV
    go_wp2_with fail
    refine (HU.out _).mono ?_
    rintro e w' ⟨rfl, rfl⟩
    go_wp2
    go_ret
    exact ⟨HO.out, rfl, HR.out⟩
set_option maxRecDepth 100000 in
set_option maxHeartbeats 1000000 in
theorem upto_dead (b m : Nat) (S : Bs) (hS : S.length ≤ 281474976710656) (w : World) (h : Rn b S true w) : Calls Tryz.prog 151 #[ptr b, .int .u64 (m : Nat)] w fun e w' => e = .returned (.int .i64 0) ∧ Rn b S true w' ∧ One b w w' := by
  obtain ⟨c0, c1⟩ := h.cells
  obtain ⟨f0, f1⟩ := h.free
  have hl := h.lt
  have HF := hid h.fail
  have HO := hid ((One.refl b w).set 1 (.bool true))
  have HU := hid (unv_b S (by unfold maxLen; omega))
  generalize unvL 0 0 S = u at *
  obtain ⟨u1, u2, u3⟩ := u
  clear h
  go_enter Tryz.func151, Tryz.ntmps151
  go_wp2_with fail
  refine (HU.out _).mono ?_
  rintro e w' ⟨rfl, rfl⟩
  go_wp2
  go_ret
  exact ⟨rfl, HF.out, HO.out⟩
set_option maxRecDepth 100000 in
set_option maxHeartbeats 1000000 in
theorem upto_live (b m : Nat) (hm : m ≤ 5000) (S : Bs) (hS : S.length ≤ 281474976710656) (w : World) (h : Rn b S false w) :
    Calls Tryz.prog 151 #[ptr b, .int .u64 (m : Nat)] w fun e w' => Lives b nV64 (.int .i64 0) S (upS S m) w w' e := by
  obtain ⟨c0, c1⟩ := h.cells
  obtain ⟨f0, f1⟩ := h.free
  have hl := h.lt
  have HF := hid h.fail
  have HFO := hid ((One.refl b w).set 1 (.bool true))
  have HU := hid (unv_b S (by unfold maxLen; omega))
  obtain ⟨-, u2, -⟩ := Num.unv_lt S
  have hz := bs_size S
  unfold upS
  have HH := hid h
  clear h
  generalize unvL 0 0 S = u at *
  obtain ⟨n, k, q⟩ := u
  simp only at HU u2 ⊢
  by_cases hq : q = 0
  · have hq' : (q == 0) = true := by rw [hq]; rfl
    by_cases hn : m < n
    · rw [if_pos (Or.inr hn)]
      have hn' : (m : Int) < n := by omega
      subst hq
      go_enter Tryz.func151, Tryz.ntmps151
      go_wp2_with fail
      refine (HU.out _).mono ?_
      rintro e w' ⟨rfl, rfl⟩
      go_wp2
      go_ret
      exact ⟨HFO.out, rfl, HF.out⟩
    · rw [if_neg (by rintro (h | h) <;> omega)]
      have hn' : ¬ (m : Int) < n := by omega
      have hk1 : k ≤ (bs S).size := by omega
      have hk2 : (k : Int) ≤ ((bs S).size : Int) := by omega
      have hw : wrap64 (n : Int) = n := by rw [Num.wrap_i]; omega
      have HR := hid (HH.out.rest (S.drop k) _ (ex_drop S k))
      have HO := hid ((One.refl b w).set 0 (.string ((bs S).extract k (bs S).size)))
      subst hq
      clear hz u2
      go_enter Tryz.func151, Tryz.ntmps151
      go_wp2_with fail
      refine (HU.out _).mono ?_
      rintro e w' ⟨rfl, rfl⟩
      go_wp2
      go_ret
      exact ⟨HO.out, rfl, HR.out⟩
  · rw [if_pos (Or.inl hq)]
    go_enter Tryz.func151, Tryz.ntmps151
    go_wp2_with fail
    refine (HU.out _).mono ?_
    rintro e w' ⟨rfl, rfl⟩
    go_wp2
    go_ret
    exact ⟨HFO.out, rfl, HF.out⟩
end No
end Go.Proofs.YtoifhcmgeackdaaGreatDoor

/-
  The reader's methods, whether it lives or failed; contract of its cell.
-/
namespace Go.Proofs.YtoifhcmgeackdaaGreatDoor
open Go.RowKit
namespace No
open Num (hid unvL unfF)
/-- What a method made of a reader that may have failed. -/
def Ran {α : Type} (S : Bs) (e : Bool) (x : Option (α × Bs)) (z y : α) (T : Bs) (e' : Bool) : Prop :=
  T.length ≤ S.length ∧ ((e = false ∧ e' = false ∧ x = some (y, T)) ∨ (e' = true ∧ y = z ∧ (e = false → x = none)))
theorem Ran.ok {α : Type} {S T : Bs} {x : Option (α × Bs)} {z y : α} (h : x = some (y, T)) (hl : T.length ≤ S.length) : Ran S false x z y T false := ⟨hl, Or.inl ⟨rfl, rfl, h⟩⟩
theorem Ran.no {α : Type} {S : Bs} {e : Bool} {x : Option (α × Bs)} {z : α} (h : e = false → x = none) : Ran S e x z z S true := ⟨Nat.le_refl _, Or.inr ⟨rfl, rfl, h⟩⟩
theorem byS_len {S x t : Bs} {n : Nat} (h : byS S n = some (x, t)) : t.length ≤ S.length := by
  obtain ⟨h1, _⟩ := byS_back h
  rw [h1, List.length_append]; omega
theorem upS_len {S t : Bs} {m n : Nat} (h : upS S m = some (n, t)) : t.length ≤ S.length := by
  obtain ⟨h1, _⟩ := upS_back h
  rw [h1, List.length_append]; omega
theorem fxS_len {S t : Bs} {m n : Nat} (h : fxS S m = some (n, t)) : t.length ≤ S.length := by
  obtain ⟨h1, _⟩ := fxS_back h
  rw [h1, List.length_append]; omega
theorem bytes_any (b n : Nat) (S : Bs) (e0 : Bool) (hS : S.length ≤ 281474976710656) (w : World) (h : Rn b S e0 w) :
    Calls Tryz.prog 150 #[ptr b, .int .i64 (n : Nat)] w fun e w' => ∃ y T e1, e = .returned (.string (bs y)) ∧ Rn b T e1 w' ∧ One b w w' ∧ Ran S e0 (byS S n) [] y T e1 := by
  cases e0 with
  | true =>
    refine (bytes_dead b n S w h).mono ?_
    rintro e w' ⟨rfl, hr, ho⟩
    exact ⟨[], S, true, rfl, hr, ho, Ran.no (fun h => by cases h)⟩
  | false =>
    refine (bytes_live b n S hS w h).mono ?_
    rintro e w' ⟨ho, hx⟩
    cases hb : byS S n with
    | none => rw [hb] at hx; obtain ⟨rfl, hr⟩ := hx; exact ⟨[], S, true, rfl, hr, ho, Ran.no (fun _ => rfl)⟩
    | some x => rw [hb] at hx; obtain ⟨rfl, hr⟩ := hx; exact ⟨x.1, x.2, false, rfl, hr, ho, Ran.ok rfl (byS_len hb)⟩
theorem fixed_any (b n : Nat) (hn1 : 1 ≤ n) (hn4 : n ≤ 4) (S : Bs) (e0 : Bool) (hS : S.length ≤ 281474976710656) (w : World) (h : Rn b S e0 w) :
    Calls Tryz.prog 149 #[ptr b, .int .i64 (n : Nat)] w fun e w' => ∃ (y : Nat) (T : Bs) (e1 : Bool), e = .returned (.int .i64 y) ∧ Rn b T e1 w' ∧ One b w w' ∧ Ran S e0 (fxS S n) 0 y T e1 := by
  cases e0 with
  | true =>
    refine (fixed_dead b n S w h).mono ?_
    rintro e w' ⟨rfl, hr, ho⟩
    exact ⟨0, S, true, rfl, hr, ho, Ran.no (fun h => by cases h)⟩
  | false =>
    refine (fixed_live b n hn1 hn4 S hS w h).mono ?_
    rintro e w' ⟨ho, hx⟩
    cases hb : fxS S n with
    | none => rw [hb] at hx; obtain ⟨rfl, hr⟩ := hx; exact ⟨0, S, true, rfl, hr, ho, Ran.no (fun _ => rfl)⟩
    | some x => rw [hb] at hx; obtain ⟨rfl, hr⟩ := hx; exact ⟨x.1, x.2, false, rfl, hr, ho, Ran.ok rfl (fxS_len hb)⟩
theorem upto_any (b m : Nat) (hm : m ≤ 5000) (S : Bs) (e0 : Bool) (hS : S.length ≤ 281474976710656) (w : World) (h : Rn b S e0 w) :
    Calls Tryz.prog 151 #[ptr b, .int .u64 (m : Nat)] w fun e w' => ∃ (y : Nat) (T : Bs) (e1 : Bool), e = .returned (.int .i64 y) ∧ Rn b T e1 w' ∧ One b w w' ∧ Ran S e0 (upS S m) 0 y T e1 := by
  cases e0 with
  | true =>
    refine (upto_dead b m S hS w h).mono ?_
    rintro e w' ⟨rfl, hr, ho⟩
    exact ⟨0, S, true, rfl, hr, ho, Ran.no (fun h => by cases h)⟩
  | false =>
    refine (upto_live b m hm S hS w h).mono ?_
    rintro e w' ⟨ho, hx⟩
    cases hb : upS S m with
    | none => rw [hb] at hx; obtain ⟨rfl, hr⟩ := hx; exact ⟨0, S, true, rfl, hr, ho, Ran.no (fun _ => rfl)⟩
    | some x => rw [hb] at hx; obtain ⟨rfl, hr⟩ := hx; exact ⟨x.1, x.2, false, rfl, hr, ho, Ran.ok rfl (upS_len hb)⟩
/-! ### Boxed cells -/
theorem Cb.lt {b : Nat} {c : C} {w : World} (h : Cb b c w) : b < w.heap.size := lt_of_block h
theorem Cb.one {b g : Nat} {c : C} {w w' : World} (h : Cb g c w) (ho : One b w w') (hne : g ≠ b) : Cb g c w' := (ho.block g (lt_of_block h) hne).trans h
theorem Cb.free {b : Nat} {c : C} {w : World} (h : Cb b c w) : w.frozen? ⟨b, 0, none⟩ = false ∧ w.frozen? ⟨b, 1, none⟩ = false ∧ w.frozen? ⟨b, 2, none⟩ = false := by
  unfold Cb at h
  simp [World.frozen?, h]
theorem Cb.other {g : Nat} {c : C} {w : World} (h : Cb g c w) {g' : Nat} (hg : g' ≠ g) (j : Nat) (u : Value) : Cb g c (w.setCell ⟨g', j, none⟩ u) := (Below.heap_setCell _ _ _ _ (show g ≠ g' from fun e => hg e.symm)).trans h
theorem Cb.put {g : Nat} {c : C} {w : World} (h : Cb g c w) (c' : C) : Cb g c' (((w.setCell ⟨g, 0, none⟩ (.int .i64 c'.z)).setCell ⟨g, 1, none⟩ (.string (bs c'.d))).setCell ⟨g, 2, none⟩ (.int .i64 c'.p)) := by
  unfold Cb at h ⊢
  simp [World.setCell, Array.getElem?_modify, h]
theorem Cb.alloc {b : Nat} {c : C} {w : World} (h : Cb b c w) (o : Obj) : Cb b c (w.alloc o) := h.on ((Below.refl _ _).alloc (Nat.le_refl _) o)
abbrev cObj (c : C) : Obj := .cells #[.int .i64 c.z, .string (bs c.d), .int .i64 c.p] tC
def noC : C := ⟨0, [], 0⟩
def CRan (S : Bs) (e : Bool) (c : C) (T : Bs) (e' : Bool) : Prop := T.length ≤ S.length ∧ ((e = false ∧ e' = false ∧ ceS S = some (c, T)) ∨ (e' = true ∧ (e = false → ceS S = none)))
theorem cran_bytes {S T1 T2 x : Bs} {e0 e1 e2 : Bool} {y : Nat} (h1 : Ran S e0 (upS S 5000) 0 y T1 e1) (h4 : y ≤ 40) (h2 : Ran T1 e1 (byS T1 y) [] x T2 e2) : CRan S e0 ⟨y, x, 0⟩ T2 e2 := by
  obtain ⟨l1, h1⟩ := h1
  obtain ⟨l2, h2⟩ := h2
  refine ⟨Nat.le_trans l2 l1, ?_⟩
  unfold ceS
  rcases h1 with ⟨rfl, rfl, hx⟩ | ⟨rfl, rfl, hx⟩
  · rw [hx]
    show _ ∨ (_ ∧ (_ → ceB y T1 = none))
    rcases h2 with ⟨-, rfl, hy⟩ | ⟨rfl, -, hy⟩
    · refine Or.inl ⟨rfl, rfl, ?_⟩
      show ceB y T1 = _
      unfold ceB
      rw [if_pos h4, hy]
      rfl
    · refine Or.inr ⟨rfl, fun _ => ?_⟩
      unfold ceB
      rw [if_pos h4, hy rfl]
      rfl
  · rcases h2 with ⟨he, _, _⟩ | ⟨rfl, -, hy⟩
    · cases he
    · exact Or.inr ⟨rfl, fun h => by rw [hx h]; rfl⟩
theorem cran_page {S T1 T2 : Bs} {e0 e1 e2 : Bool} {y p : Nat} (h1 : Ran S e0 (upS S 5000) 0 y T1 e1) (h4 : ¬ y ≤ 40) (h2 : Ran T1 e1 (fxS T1 4) 0 p T2 e2) : CRan S e0 ⟨y, [], p⟩ T2 e2 := by
  obtain ⟨l1, h1⟩ := h1
  obtain ⟨l2, h2⟩ := h2
  refine ⟨Nat.le_trans l2 l1, ?_⟩
  unfold ceS
  rcases h1 with ⟨rfl, rfl, hx⟩ | ⟨rfl, rfl, hx⟩
  · rw [hx]
    show _ ∨ (_ ∧ (_ → ceB y T1 = none))
    rcases h2 with ⟨-, rfl, hy⟩ | ⟨rfl, -, hy⟩
    · refine Or.inl ⟨rfl, rfl, ?_⟩
      show ceB y T1 = _
      unfold ceB
      rw [if_neg h4, hy]
      rfl
    · refine Or.inr ⟨rfl, fun _ => ?_⟩
      unfold ceB
      rw [if_neg h4, hy rfl]
      rfl
  · exact absurd (Nat.zero_le 40) h4
set_option maxRecDepth 100000 in
set_option maxHeartbeats 2000000 in
theorem cell_any (b : Nat) (S : Bs) (e0 : Bool) (hS : S.length ≤ 281474976710656) (w : World) (h : Rn b S e0 w) :
    Calls Tryz.prog 152 #[ptr b] w fun e w' => ∃ c T e1, e = .returned c.agg ∧ Rn b T e1 w' ∧ One b w w' ∧ CRan S e0 c T e1 := by
  have hbl := h.lt
  have R0 := hid (Cb.new noC w)
  have O0 := hid ((One.refl b w).alloc (cObj noC))
  have HU := hid (upto_any b 5000 (Nat.le_refl _) S e0 hS _ (h.alloc (cObj noC)))
  clear h
  go_enter Tryz.func152, Tryz.ntmps152
  go_wp2_with fail
  refine HU.out.mono ?_
  rintro e w1 ⟨y, T1, e1, rfl, hr, ho, hran⟩
  have R1 := hid (R0.out.one ho (by omega))
  have hl1 := R1.out.lt
  have HR1 := hid (hr.alloc (cObj ⟨y, [], 0⟩))
  have HO1 := hid ((O0.out.trans ho).alloc (cObj ⟨y, [], 0⟩))
  have R2 := hid (R1.out.alloc (cObj ⟨y, [], 0⟩))
  have T2 := hid (Cb.new ⟨y, [], 0⟩ w1)
  have hb1 : b < w1.heap.size := hr.lt
  have HRan := hid hran
  have hT1 := hran.1
  have hne : ¬ w1.heap.size = w.heap.size := by omega
  have hne2 : ¬ w.heap.size = w1.heap.size := by omega
  clear hr ho hran R1
  by_cases h4 : y ≤ 40
  · have HI := hid (isinline_any (y : Int))
    rw [decide_eq_true (by omega : (y : Int) ≤ 40)] at HI
    have HB := hid (bytes_any b y T1 e1 (by omega) _ HR1.out)
    go_wp2_with fail
    refine (HI.out _).mono ?_
    rintro e w2 ⟨rfl, rfl⟩
    go_wp2_with fail
    refine HB.out.mono ?_
    rintro e w3 ⟨x, T3, e3, rfl, hr, ho, hran⟩
    have R3 := hid (R2.out.one ho (by omega))
    have T3' := hid (T2.out.one ho (by omega))
    have HR3 := hid hr
    have HO3 := hid (HO1.out.trans ho)
    have HC := hid (cran_bytes HRan.out h4 hran)
    have hl2 := R3.out.lt
    have hl3 := T3'.out.lt
    clear hr ho hran R2 T2
    obtain ⟨t0, t1, t2⟩ := T3'.out.cells
    obtain ⟨tf0, tf1, tf2⟩ := T3'.out.free
    obtain ⟨r0, r1, r2⟩ := R3.out.cells
    obtain ⟨f0, f1, f2⟩ := R3.out.free
    have U := hid (Cb.put (Cb.other R3.out (by omega : w1.heap.size ≠ w.heap.size) 1 (.string (bs x))) ⟨y, x, 0⟩).cells
    have HR5 := hid (((HR3.out.other (by omega : w1.heap.size ≠ b) 1 (.string (bs x))).other (by omega : w.heap.size ≠ b) 0 (.int .i64 y)).other (by omega : w.heap.size ≠ b) 1 (.string (bs x)) |>.other (by omega : w.heap.size ≠ b) 2 (.int .i64 0))
    have HO5 := hid ((((HO3.out.high (by omega : w.heap.size ≤ w1.heap.size) 1 (.string (bs x))).high (Nat.le_refl _) 0 (.int .i64 y)).high (Nat.le_refl _) 1 (.string (bs x))).high (Nat.le_refl _) 2 (.int .i64 0))
    simp only at t0 t1 t2 r0 r1 r2
    go_wp2
    obtain ⟨u0, u1, u2⟩ := U.out
    try simp only at u0 u1 u2
    exact bodyPost_ret (v := C.agg ⟨y, x, 0⟩) (by simp [results, C.agg, go_sem, u0, u1, u2]) rfl ⟨⟨y, x, 0⟩, T3, e3, rfl, HR5.out, HO5.out, HC.out⟩
  · have HI := hid (isinline_any (y : Int))
    rw [decide_eq_false (by omega : ¬ (y : Int) ≤ 40)] at HI
    have HB : Hid (Calls Tryz.prog 149 #[ptr b, .int .i64 4] (w1.alloc (cObj ⟨y, [], 0⟩)) fun e w' => ∃ (p : Nat) (T : Bs) (e2 : Bool), e = .returned (.int .i64 p) ∧ Rn b T e2 w' ∧ One b (w1.alloc (cObj ⟨y, [], 0⟩)) w' ∧ Ran T1 e1 (fxS T1 4) 0 p T e2) := hid (fixed_any b 4 (by decide) (by decide) T1 e1 (by omega) _ HR1.out)
    go_wp2_with fail
    refine (HI.out _).mono ?_
    rintro e w2 ⟨rfl, rfl⟩
    go_wp2_with fail
    refine HB.out.mono ?_
    rintro e w3 ⟨x, T3, e3, rfl, hr, ho, hran⟩
    have R3 := hid (R2.out.one ho (by omega))
    have T3' := hid (T2.out.one ho (by omega))
    have HR3 := hid hr
    have HO3 := hid (HO1.out.trans ho)
    have HC := hid (cran_page HRan.out h4 hran)
    have hl2 := R3.out.lt
    have hl3 := T3'.out.lt
    clear hr ho hran R2 T2
    obtain ⟨t0, t1, t2⟩ := T3'.out.cells
    obtain ⟨tf0, tf1, tf2⟩ := T3'.out.free
    obtain ⟨r0, r1, r2⟩ := R3.out.cells
    obtain ⟨f0, f1, f2⟩ := R3.out.free
    have U := hid (Cb.put (Cb.other R3.out (by omega : w1.heap.size ≠ w.heap.size) 2 (.int .i64 x)) ⟨y, [], x⟩).cells
    have HR5 := hid (((HR3.out.other (by omega : w1.heap.size ≠ b) 2 (.int .i64 x)).other (by omega : w.heap.size ≠ b) 0 (.int .i64 y)).other (by omega : w.heap.size ≠ b) 1 (.string (bs [])) |>.other (by omega : w.heap.size ≠ b) 2 (.int .i64 x))
    have HO5 := hid ((((HO3.out.high (by omega : w.heap.size ≤ w1.heap.size) 2 (.int .i64 x)).high (Nat.le_refl _) 0 (.int .i64 y)).high (Nat.le_refl _) 1 (.string (bs []))).high (Nat.le_refl _) 2 (.int .i64 x))
    simp only at t0 t1 t2 r0 r1 r2
    go_wp2
    obtain ⟨u0, u1, u2⟩ := U.out
    try simp only at u0 u1 u2
    exact bodyPost_ret (v := C.agg ⟨y, [], x⟩) (by simp [results, C.agg, go_sem, u0, u1, u2]) rfl ⟨⟨y, [], x⟩, T3, e3, rfl, HR5.out, HO5.out, HC.out⟩
theorem cell_lit (b : Nat) (S : Bs) (e0 : Bool) (hS : S.length ≤ 281474976710656) (w : World) (h : Rn b S e0 w) :
    Calls Tryz.prog 152 #[ptr b] w fun e w' => ∃ c T e1, e = .returned (.agg #[.int .i64 c.z, .string (bs c.d), .int .i64 c.p]) ∧ Rn b T e1 w' ∧ One b w w' ∧ CRan S e0 c T e1 := cell_any b S e0 hS w h
end No
end Go.Proofs.YtoifhcmgeackdaaGreatDoor

/-
  A node that the reader's node() makes bit by bit: the reader, the box, the answer's box, the three lists.
-/
namespace Go.Proofs.YtoifhcmgeackdaaGreatDoor
open Go.RowKit
namespace No
open Num (hid unvL unfF)
theorem Nb.one {b g : Nat} {f : Bool} {ks cs ps : Value} {w w' : World} (h : Nb g f ks cs ps w) (ho : One b w w') (hne : g ≠ b) : Nb g f ks cs ps w' := (ho.block g (lt_of_block h) hne).trans h
theorem Nb.free {b : Nat} {f : Bool} {ks cs ps : Value} {w : World} (h : Nb b f ks cs ps w) : w.frozen? ⟨b, 0, none⟩ = false ∧ w.frozen? ⟨b, 1, none⟩ = false ∧ w.frozen? ⟨b, 2, none⟩ = false ∧ w.frozen? ⟨b, 3, none⟩ = false := by
  unfold Nb at h
  simp [World.frozen?, h]
theorem Nb.other {g : Nat} {f : Bool} {ks cs ps : Value} {w : World} (h : Nb g f ks cs ps w) {g' : Nat} (hg : g' ≠ g) (j : Nat) (u : Value) : Nb g f ks cs ps (w.setCell ⟨g', j, none⟩ u) := (Below.heap_setCell _ _ _ _ (show g ≠ g' from fun e => hg e.symm)).trans h
theorem Nb.put {g : Nat} {f : Bool} {ks cs ps : Value} {w : World} (h : Nb g f ks cs ps w) (f' : Bool) (ks' cs' ps' : Value) : Nb g f' ks' cs' ps' ((((w.setCell ⟨g, 0, none⟩ (.bool f')).setCell ⟨g, 1, none⟩ ks').setCell ⟨g, 2, none⟩ cs').setCell ⟨g, 3, none⟩ ps') := by
  unfold Nb at h ⊢
  simp [World.setCell, Array.getElem?_modify, h]
theorem Nb.setK {g : Nat} {f : Bool} {ks cs ps : Value} {w : World} (h : Nb g f ks cs ps w) (u : Value) : Nb g f u cs ps (w.setCell ⟨g, 1, none⟩ u) := by
  unfold Nb at h ⊢
  simp [World.setCell, Array.getElem?_modify, h]
theorem Nb.setC {g : Nat} {f : Bool} {ks cs ps : Value} {w : World} (h : Nb g f ks cs ps w) (u : Value) : Nb g f ks u ps (w.setCell ⟨g, 2, none⟩ u) := by
  unfold Nb at h ⊢
  simp [World.setCell, Array.getElem?_modify, h]
theorem Nb.setP {g : Nat} {f : Bool} {ks cs ps : Value} {w : World} (h : Nb g f ks cs ps w) (u : Value) : Nb g f ks cs u (w.setCell ⟨g, 3, none⟩ u) := by
  unfold Nb at h ⊢
  simp [World.setCell, Array.getElem?_modify, h]
theorem Nb.alloc {g : Nat} {f : Bool} {ks cs ps : Value} {w : World} (h : Nb g f ks cs ps w) (o : Obj) : Nb g f ks cs ps (w.alloc o) := h.on ((Below.refl _ _).alloc (Nat.le_refl _) o)
theorem Nb.grown {g : Nat} {f : Bool} {ks cs ps : Value} {w w' : World} {row : Option Nat} (h : Nb g f ks cs ps w) (hg : w.grownBy w' row) (hne : some g ≠ row) : Nb g f ks cs ps w' := (hg.block g (lt_of_block h) hne).trans h
theorem Rn.grown {b : Nat} {S : Bs} {e : Bool} {w w' : World} {row : Option Nat} (h : Rn b S e w) (hg : w.grownBy w' row) (hne : some b ≠ row) : Rn b S e w' := (hg.block b (lt_of_block h) hne).trans h
section
variable {α : Type} {t : TypeId} {k : Nat} {enc : α → List Value} {base b : Nat} {x : Value} {l : List α} {w w' : World}
theorem OwnL.one (h : OwnL t k enc w base x l) (ho : One b w w') (hb : b < base) : OwnL t k enc w' base x l := by
  obtain ⟨h1, h2⟩ := h
  refine ⟨h1, ?_⟩
  rcases h2 with h2 | ⟨g, cap, cur, e1, e2, e3, e4⟩
  · exact Or.inl h2
  · exact Or.inr ⟨g, cap, cur, e1, e2, (ho.block _ (lt_of_block e3) (by omega)).trans e3, e4⟩
theorem OwnL.grown {row : Option Nat} (h : OwnL t k enc w base x l) (hg : w.grownBy w' row) (hne : ∀ i, x.ownBlock = some i → row = some i → False) : OwnL t k enc w' base x l := by
  obtain ⟨h1, h2⟩ := h
  refine ⟨h1, ?_⟩
  rcases h2 with h2 | ⟨g, cap, cur, rfl, e2, e3, e4⟩
  · exact Or.inl h2
  · exact Or.inr ⟨g, cap, cur, rfl, e2, (hg.block _ (lt_of_block e3) (fun e => hne g rfl e.symm)).trans e3, e4⟩
theorem OwnL.set (h : OwnL t k enc w base x l) {g j : Nat} (hg : g < base) (u : Value) : OwnL t k enc (w.setCell ⟨g, j, none⟩ u) base x l := ownsRow_setCell_below h hg u
end
theorem One.grown {b : Nat} {w0 w w' : World} {row : Option Nat} (h : One b w0 w) (hg : w.grownBy w' row) (hr : ∀ i, row = some i → w0.heap.size ≤ i) : One b w0 w' :=
  ⟨hg.os.trans h.os, hg.tape.trans h.tape, hg.output.trans h.output, Nat.le_trans h.size hg.size, fun i hi hb => (hg.block i (Nat.lt_of_lt_of_le hi h.size) (fun e => absurd (hr i e.symm) (by omega))).trans (h.block i hi hb)⟩
theorem OwnL.form {α : Type} {t : TypeId} {k : Nat} {enc : α → List Value} {base : Nat} {x : Value} {l : List α} {w : World} (h : OwnL t k enc w base x l) : ∃ ao cap, x = .slice ao l.length cap := by
  rcases h.2 with ⟨rfl, h0⟩ | ⟨g, cap, cur, rfl, _⟩
  · exact ⟨none, 0, by rw [h0]⟩
  · exact ⟨_, cap, rfl⟩
theorem OwnL.snoc {α : Type} {t : TypeId} {k : Nat} {enc : α → List Value} {base : Nat} {v : Value} {l : List α} {x : α} {w : World} (h : w.ownsRow base t k v (l.length + 1) (l.flatMap enc ++ enc x)) : OwnL t k enc w base v (l ++ [x]) := by
  unfold OwnL
  rw [List.flatMap_append, List.length_append, List.flatMap_cons, List.flatMap_nil, List.append_nil]
  exact h
def nilV : Value := .slice none 0 0
/-- The node under way: b the reader, g its box, r the answer's box; w0: where the call began. -/
structure St (b g r base : Nat) (ks cs ps : Value) (T : Bs) (e : Bool) (n : N) (w0 w : World) : Prop where
  rd : Rn b T e w
  bx : Nb g n.f ks cs ps w
  rs : Nb r false nilV nilV nilV w
  k : OwnS w base ks n.ks
  c : OwnC w base cs n.cs
  p : OwnI w base ps n.ps
  kc : ∀ i, ks.ownBlock = some i → cs.ownBlock = some i → False
  kp : ∀ i, ks.ownBlock = some i → ps.ownBlock = some i → False
  cp : ∀ i, cs.ownBlock = some i → ps.ownBlock = some i → False
  bg : b ≠ g
  br : b ≠ r
  gr : g ≠ r
  bb : b < base
  gb : g < base
  rb : r < base
  hs : base ≤ w.heap.size
  hg : w0.heap.size ≤ g
  hr : w0.heap.size ≤ r
  h0 : w0.heap.size ≤ base
  one : One b w0 w
variable {b g r base : Nat} {ks cs ps : Value} {T : Bs} {e : Bool} {n : N} {w0 w w' : World}
theorem St.call (h : St b g r base ks cs ps T e n w0 w) (ho : One b w w') {T' : Bs} {e' : Bool} (hr : Rn b T' e' w') : St b g r base ks cs ps T' e' n w0 w' :=
  ⟨hr, h.bx.one ho (Ne.symm h.bg), h.rs.one ho (Ne.symm h.br), h.k.one ho h.bb, h.c.one ho h.bb, h.p.one ho h.bb, h.kc, h.kp, h.cp, h.bg, h.br, h.gr, h.bb, h.gb, h.rb, Nat.le_trans h.hs ho.size, h.hg, h.hr, h.h0, h.one.trans ho⟩
theorem St.on (h : St b g r base ks cs ps T e n w0 w) (hb : Below w.heap.size w w') : St b g r base ks cs ps T e n w0 w' := h.call (.of_below hb) (h.rd.on hb)
theorem St.alloc (h : St b g r base ks cs ps T e n w0 w) (o : Obj) : St b g r base ks cs ps T e n w0 (w.alloc o) := h.on ((Below.refl _ _).alloc (Nat.le_refl _) o)
theorem St.drew (h : St b g r base ks cs ps T e n w0 w) : St b g r base ks cs ps T e n w0 w.drew := h.on (Below.refl _ _).drew
theorem OwnL.fresh {α : Type} {t : TypeId} {k : Nat} {enc : α → List Value} {base : Nat} {x : Value} {l : List α} {w : World} (h : OwnL t k enc w base x l) : ∀ i, x.ownBlock = some i → base ≤ i ∧ i < w.heap.size := fun i hi => World.ownsRow.lt h i hi
/-- A row that was appended to, ahead of the store: the others stand. -/
theorem St.grown (h : St b g r base ks cs ps T e n w0 w) {row : Option Nat} (hg : w.grownBy w' row) (hr : ∀ i, row = some i → base ≤ i) : Rn b T e w' ∧ Nb g n.f ks cs ps w' ∧ Nb r false nilV nilV nilV w' ∧ One b w0 w' ∧ base ≤ w'.heap.size :=
  ⟨h.rd.grown hg (fun e => by have := hr b e.symm; have := h.bb; omega), h.bx.grown hg (fun e => by have := hr g e.symm; have := h.gb; omega), h.rs.grown hg (fun e => by have := hr r e.symm; have := h.rb; omega), h.one.grown hg (fun i hi => Nat.le_trans h.h0 (hr i hi)), Nat.le_trans h.hs hg.size⟩
theorem St.pushK (h : St b g r base ks cs ps T e n w0 w) {m cap g' : Nat} {x : Bs} (hown : OwnS w' base (.slice (some ⟨g', 0, none⟩) m cap) (n.ks ++ [x])) (hg : w.grownBy w' ks.ownBlock) (hat : ks.ownBlock = some g' ∨ g' = w.heap.size) :
    St b g r base (.slice (some ⟨g', 0, none⟩) m cap) cs ps T e ⟨n.f, n.ks ++ [x], n.cs, n.ps⟩ w0 (w'.setCell ⟨g, 1, none⟩ (.slice (some ⟨g', 0, none⟩) m cap)) := by
  obtain ⟨a1, a2, a3, a4, a5⟩ := h.grown hg (fun i hi => (h.k.fresh i hi).1)
  refine ⟨a1.other (Ne.symm h.bg) _ _, a2.setK _, a3.other h.gr _ _, hown.set h.gb _, (h.c.grown hg (fun i hi hk => h.kc i hk hi)).set h.gb _, (h.p.grown hg (fun i hi hk => h.kp i hk hi)).set h.gb _, ?_, ?_, h.cp, h.bg, h.br, h.gr, h.bb, h.gb, h.rb, by simpa [World.setCell] using a5, h.hg, h.hr, h.h0, a4.high h.hg _ _⟩
  · intro i hi hc
    have hi' : g' = i := by simpa [Value.ownBlock] using hi
    subst hi'
    rcases hat with hat | hat
    · exact h.kc _ hat hc
    · have := (h.c.fresh _ hc).2; omega
  · intro i hi hc
    have hi' : g' = i := by simpa [Value.ownBlock] using hi
    subst hi'
    rcases hat with hat | hat
    · exact h.kp _ hat hc
    · have := (h.p.fresh _ hc).2; omega
theorem St.pushC (h : St b g r base ks cs ps T e n w0 w) {m cap g' : Nat} {x : C} (hown : OwnC w' base (.slice (some ⟨g', 0, none⟩) m cap) (n.cs ++ [x])) (hg : w.grownBy w' cs.ownBlock) (hat : cs.ownBlock = some g' ∨ g' = w.heap.size) :
    St b g r base ks (.slice (some ⟨g', 0, none⟩) m cap) ps T e ⟨n.f, n.ks, n.cs ++ [x], n.ps⟩ w0 (w'.setCell ⟨g, 2, none⟩ (.slice (some ⟨g', 0, none⟩) m cap)) := by
  obtain ⟨a1, a2, a3, a4, a5⟩ := h.grown hg (fun i hi => (h.c.fresh i hi).1)
  refine ⟨a1.other (Ne.symm h.bg) _ _, a2.setC _, a3.other h.gr _ _, (h.k.grown hg (fun i hi hk => h.kc i hi hk)).set h.gb _, hown.set h.gb _, (h.p.grown hg (fun i hi hk => h.cp i hk hi)).set h.gb _, ?_, h.kp, ?_, h.bg, h.br, h.gr, h.bb, h.gb, h.rb, by simpa [World.setCell] using a5, h.hg, h.hr, h.h0, a4.high h.hg _ _⟩
  · intro i hc hi
    have hi' : g' = i := by simpa [Value.ownBlock] using hi
    subst hi'
    rcases hat with hat | hat
    · exact h.kc _ hc hat
    · have := (h.k.fresh _ hc).2; omega
  · intro i hi hc
    have hi' : g' = i := by simpa [Value.ownBlock] using hi
    subst hi'
    rcases hat with hat | hat
    · exact h.cp _ hat hc
    · have := (h.p.fresh _ hc).2; omega
theorem St.pushP (h : St b g r base ks cs ps T e n w0 w) {m cap g' : Nat} {x : Int} (hown : OwnI w' base (.slice (some ⟨g', 0, none⟩) m cap) (n.ps ++ [x])) (hg : w.grownBy w' ps.ownBlock) (hat : ps.ownBlock = some g' ∨ g' = w.heap.size) :
    St b g r base ks cs (.slice (some ⟨g', 0, none⟩) m cap) T e ⟨n.f, n.ks, n.cs, n.ps ++ [x]⟩ w0 (w'.setCell ⟨g, 3, none⟩ (.slice (some ⟨g', 0, none⟩) m cap)) := by
  obtain ⟨a1, a2, a3, a4, a5⟩ := h.grown hg (fun i hi => (h.p.fresh i hi).1)
  refine ⟨a1.other (Ne.symm h.bg) _ _, a2.setP _, a3.other h.gr _ _, (h.k.grown hg (fun i hi hk => h.kp i hi hk)).set h.gb _, (h.c.grown hg (fun i hi hk => h.cp i hi hk)).set h.gb _, hown.set h.gb _, h.kc, ?_, ?_, h.bg, h.br, h.gr, h.bb, h.gb, h.rb, by simpa [World.setCell] using a5, h.hg, h.hr, h.h0, a4.high h.hg _ _⟩
  · intro i hc hi
    have hi' : g' = i := by simpa [Value.ownBlock] using hi
    subst hi'
    rcases hat with hat | hat
    · exact h.kp _ hc hat
    · have := (h.k.fresh _ hc).2; omega
  · intro i hc hi
    have hi' : g' = i := by simpa [Value.ownBlock] using hi
    subst hi'
    rcases hat with hat | hat
    · exact h.cp _ hc hat
    · have := (h.c.fresh _ hc).2; omega
theorem St.nat (h : St b g r base ks cs ps T e n w0 w) (h1 : n.ks.length ≤ 1000000) (h2 : n.cs.length ≤ 1000000) (h3 : n.ps.length ≤ 1000000) : NAt w ks cs ps n :=
  ⟨h.k.row sV_len (by unfold maxLen; omega), h.c.row vals_len (by unfold maxLen; omega), h.p.row iV_len (by unfold maxLen; omega)⟩
theorem OwnL.lower {α : Type} {t : TypeId} {k : Nat} {enc : α → List Value} {base B : Nat} {x : Value} {l : List α} {w : World} (h : OwnL t k enc w base x l) (hB : B ≤ base) : OwnL t k enc w B x l := by
  obtain ⟨h1, h2⟩ := h
  refine ⟨h1, ?_⟩
  rcases h2 with h2 | ⟨g, cap, cur, e1, e2, e3⟩
  · exact Or.inl h2
  · exact Or.inr ⟨g, cap, cur, e1, Nat.le_trans hB e2, e3⟩
/-- A node whose rows are the call's own, each in a block of its own, B or above. -/
structure NOw (w : World) (B : Nat) (ks cs ps : Value) (n : N) : Prop where
  k : OwnS w B ks n.ks
  c : OwnC w B cs n.cs
  p : OwnI w B ps n.ps
  kc : ∀ i, ks.ownBlock = some i → cs.ownBlock = some i → False
  kp : ∀ i, ks.ownBlock = some i → ps.ownBlock = some i → False
  cp : ∀ i, cs.ownBlock = some i → ps.ownBlock = some i → False
  lk : n.ks.length ≤ 1000000
  lc : n.cs.length ≤ 1000000
  lp : n.ps.length ≤ 1000000
theorem NOw.nat {w : World} {B : Nat} {ks cs ps : Value} {n : N} (h : NOw w B ks cs ps n) : NAt w ks cs ps n :=
  ⟨h.k.row sV_len (by have := h.lk; unfold maxLen; omega), h.c.row vals_len (by have := h.lc; unfold maxLen; omega), h.p.row iV_len (by have := h.lp; unfold maxLen; omega)⟩
theorem NOw.on {w w' : World} {B : Nat} {ks cs ps : Value} {n : N} (h : NOw w B ks cs ps n) (hb : Below w.heap.size w w') : NOw w' B ks cs ps n := ⟨h.k.on hb, h.c.on hb, h.p.on hb, h.kc, h.kp, h.cp, h.lk, h.lc, h.lp⟩
theorem NOw.lower {w : World} {B B' : Nat} {ks cs ps : Value} {n : N} (h : NOw w B ks cs ps n) (hB : B' ≤ B) : NOw w B' ks cs ps n := ⟨h.k.lower hB, h.c.lower hB, h.p.lower hB, h.kc, h.kp, h.cp, h.lk, h.lc, h.lp⟩
theorem NOw.set {w : World} {B : Nat} {ks cs ps : Value} {n : N} (h : NOw w B ks cs ps n) {g : Nat} (hg : g < B) (j : Nat) (u : Value) : NOw (w.setCell ⟨g, j, none⟩ u) B ks cs ps n := ⟨h.k.set hg u, h.c.set hg u, h.p.set hg u, h.kc, h.kp, h.cp, h.lk, h.lc, h.lp⟩
/-- The answer: the box's cells put over the answer's box. -/
theorem St.fin (h : St b g r base ks cs ps T e n w0 w) (h1 : n.ks.length ≤ 1000000) (h2 : n.cs.length ≤ 1000000) (h3 : n.ps.length ≤ 1000000) {w' : World}
    (hw : w' = (((w.setCell ⟨r, 0, none⟩ (.bool n.f)).setCell ⟨r, 1, none⟩ ks).setCell ⟨r, 2, none⟩ cs).setCell ⟨r, 3, none⟩ ps) : (∃ B, r < B ∧ NOw w' B ks cs ps n) ∧ Rn b T e w' ∧ One b w0 w' ∧ Nb r n.f ks cs ps w' := by
  subst hw
  refine ⟨⟨base, h.rb, (((h.k.set h.rb _).set h.rb _).set h.rb _).set h.rb _, (((h.c.set h.rb _).set h.rb _).set h.rb _).set h.rb _, (((h.p.set h.rb _).set h.rb _).set h.rb _).set h.rb _, h.kc, h.kp, h.cp, h1, h2, h3⟩, ?_, ?_, h.rs.put _ _ _ _⟩
  · exact (((h.rd.other (Ne.symm h.br) _ _).other (Ne.symm h.br) _ _).other (Ne.symm h.br) _ _).other (Ne.symm h.br) _ _
  · exact (((h.one.high h.hr _ _).high h.hr _ _).high h.hr _ _).high h.hr _ _
end No
end Go.Proofs.YtoifhcmgeackdaaGreatDoor

/-
  Contract of the reader's node.
-/
namespace Go.Proofs.YtoifhcmgeackdaaGreatDoor
open Go.RowKit
namespace No
open Num (hid unvL unfF)
/-- Behind j of c rounds. -/
structure Pr (S : Bs) (c : Nat) (f : Bool) (j : Nat) (n : N) (T : Bs) (e : Bool) : Prop where
  ff : n.f = f
  kk : n.ks.length ≤ j
  cc : n.cs.length ≤ j
  pp : n.ps.length ≤ j + 1
  tt : T.length ≤ 281474976710656
  dd : (e = false ∧ parse S = (itsS f (c - j) T).map fun y => (n.app y.1, y.2)) ∨ (e = true ∧ parse S = none)
theorem app_assoc (a x y : N) : (a.app x).app y = a.app (x.app y) := by simp [N.app, List.append_assoc]
theorem app_end (n : N) : n.app ⟨n.f, [], [], []⟩ = n := by simp [N.app]
theorem app_start (f : Bool) (n : N) (h : n.f = f) : (⟨f, [], [], []⟩ : N).app n = n := by subst h; simp [N.app]
theorem itsS_f {f : Bool} {m : Nat} {S : Bs} {x : N} {t : Bs} (h : itsS f m S = some (x, t)) : x.f = f := (itsS_back f m S x t h).1
theorem Pr.start_leaf {S T1 T2 : Bs} {c : Nat} {e2 : Bool} (hS : S.length ≤ 281474976710656) (h1 : Ran S false (fxS S 1) 0 1 T1 false) (h2 : Ran T1 false (fxS T1 2) 0 c T2 e2) : Pr S c true 0 ⟨true, [], [], []⟩ T2 e2 := by
  obtain ⟨l1, h1⟩ := h1
  obtain ⟨l2, h2⟩ := h2
  refine ⟨rfl, Nat.le_refl _, Nat.le_refl _, Nat.zero_le _, by omega, ?_⟩
  have h1' : fxS S 1 = some (1, T1) := by
    rcases h1 with ⟨-, -, h1⟩ | ⟨h1, _⟩
    · exact h1
    · cases h1
  unfold parse
  rw [h1']
  rcases h2 with ⟨-, rfl, h2⟩ | ⟨rfl, -, h2⟩
  · refine Or.inl ⟨rfl, ?_⟩
    show (fxS T1 2).bind (fun c => bodyS 1 c.1 c.2) = _
    rw [h2]
    show bodyS 1 c T2 = _
    unfold bodyS
    rw [if_pos rfl, Nat.sub_zero]
    cases hi : itsS true c T2 with
    | none => rfl
    | some y =>
      obtain ⟨y, t⟩ := y
      show some (y, t) = some ((⟨true, [], [], []⟩ : N).app y, t)
      rw [app_start true y (itsS_f hi)]
  · refine Or.inr ⟨rfl, ?_⟩
    show (fxS T1 2).bind (fun c => bodyS 1 c.1 c.2) = _
    rw [h2 rfl]
    rfl
/-- One round of a leaf. -/
theorem Pr.next_leaf {S T T1 T2 T3 k : Bs} {c j z : Nat} {e e1 e2 e3 : Bool} {n : N} {x : C} (h : Pr S c true j n T e) (he : e = false) (hj : j < c) (h1 : Ran T e (upS T 64) 0 z T1 e1) (h2 : Ran T1 e1 (byS T1 z) [] k T2 e2) (h3 : CRan T2 e2 x T3 e3) :
    Pr S c true (j + 1) ⟨n.f, n.ks ++ [k], n.cs ++ [x], n.ps⟩ T3 e3 := by
  subst he
  obtain ⟨l1, h1⟩ := h1
  obtain ⟨l2, h2⟩ := h2
  obtain ⟨l3, h3⟩ := h3
  have ht := h.tt
  have hk := h.kk
  have hc := h.cc
  have hp := h.pp
  refine ⟨h.ff, by simp only [List.length_append, List.length_singleton]; omega, by simp only [List.length_append, List.length_singleton]; omega, by show n.ps.length ≤ _; omega, by omega, ?_⟩
  have hd : parse S = (itsS true (c - j) T).map fun y => (n.app y.1, y.2) := by
    rcases h.dd with ⟨_, h⟩ | ⟨h, _⟩
    · exact h
    · cases h
  obtain ⟨m, hm⟩ : ∃ m, c - j = m + 1 := ⟨c - j - 1, by omega⟩
  have hm2 : c - (j + 1) = m := by omega
  rw [hm] at hd
  rw [hm2]
  have hd2 : parse S = ((itS true T).bind fun x => (itsS true m x.2).map fun y => (x.1.app y.1, y.2)).map fun y => (n.app y.1, y.2) := hd
  have hit : itS true T = (keS T).bind fun k => itB true k.1 k.2 := rfl
  have hke : keS T = (upS T 64).bind fun z => byS z.2 z.1 := rfl
  rcases h1 with ⟨-, rfl, h1⟩ | ⟨rfl, -, h1⟩
  · rcases h2 with ⟨-, rfl, h2⟩ | ⟨rfl, -, h2⟩
    · have hke' : keS T = some (k, T2) := by rw [hke, h1]; exact h2
      rcases h3 with ⟨-, rfl, h3⟩ | ⟨rfl, h3⟩
      · refine Or.inl ⟨rfl, ?_⟩
        have hit' : itS true T = some (⟨true, [k], [x], []⟩, T3) := by
          rw [hit, hke']
          show itB true k T2 = _
          unfold itB
          rw [if_pos rfl, h3]
          rfl
        rw [hd2, hit']
        show ((itsS true m T3).map fun y => ((⟨true, [k], [x], []⟩ : N).app y.1, y.2)).map (fun y => (n.app y.1, y.2)) = _
        rw [Option.map_map]
        congr 1
        funext y
        show (n.app ((⟨true, [k], [x], []⟩ : N).app y.1), y.2) = _
        rw [← app_assoc]
        simp [N.app]
      · refine Or.inr ⟨rfl, ?_⟩
        have hit' : itS true T = none := by
          rw [hit, hke']
          show itB true k T2 = _
          unfold itB
          rw [if_pos rfl, h3 rfl]
          rfl
        rw [hd2, hit']
        rfl
    · have hit' : itS true T = none := by rw [hit, hke, h1]; show (byS T1 z).bind _ = _; rw [h2 rfl]; rfl
      rcases h3 with ⟨he, _⟩ | ⟨rfl, _⟩
      · cases he
      · exact Or.inr ⟨rfl, by rw [hd2, hit']; rfl⟩
  · have hit' : itS true T = none := by rw [hit, hke, h1 rfl]; rfl
    have e2t : e2 = true := by
      rcases h2 with ⟨he, _⟩ | ⟨he, _⟩
      · cases he
      · exact he
    subst e2t
    rcases h3 with ⟨he, _⟩ | ⟨rfl, _⟩
    · cases he
    · exact Or.inr ⟨rfl, by rw [hd2, hit']; rfl⟩
/-- One round of an inner node. -/
theorem Pr.next_inner {S T T1 T2 T3 k : Bs} {c j z q : Nat} {e e1 e2 e3 : Bool} {n : N} (h : Pr S c false j n T e) (he : e = false) (hj : j < c) (h1 : Ran T e (upS T 64) 0 z T1 e1) (h2 : Ran T1 e1 (byS T1 z) [] k T2 e2) (h3 : Ran T2 e2 (fxS T2 4) 0 q T3 e3) :
    Pr S c false (j + 1) ⟨n.f, n.ks ++ [k], n.cs, n.ps ++ [(q : Int)]⟩ T3 e3 := by
  subst he
  obtain ⟨l1, h1⟩ := h1
  obtain ⟨l2, h2⟩ := h2
  obtain ⟨l3, h3⟩ := h3
  have ht := h.tt
  have hk := h.kk
  have hc := h.cc
  have hp := h.pp
  refine ⟨h.ff, by simp only [List.length_append, List.length_singleton]; omega, by show n.cs.length ≤ _; omega, by simp only [List.length_append, List.length_singleton]; omega, by omega, ?_⟩
  have hd : parse S = (itsS false (c - j) T).map fun y => (n.app y.1, y.2) := by
    rcases h.dd with ⟨_, h⟩ | ⟨h, _⟩
    · exact h
    · cases h
  obtain ⟨m, hm⟩ : ∃ m, c - j = m + 1 := ⟨c - j - 1, by omega⟩
  have hm2 : c - (j + 1) = m := by omega
  rw [hm] at hd
  rw [hm2]
  have hd2 : parse S = ((itS false T).bind fun x => (itsS false m x.2).map fun y => (x.1.app y.1, y.2)).map fun y => (n.app y.1, y.2) := hd
  have hit : itS false T = (keS T).bind fun k => itB false k.1 k.2 := rfl
  have hke : keS T = (upS T 64).bind fun z => byS z.2 z.1 := rfl
  rcases h1 with ⟨-, rfl, h1⟩ | ⟨rfl, -, h1⟩
  · rcases h2 with ⟨-, rfl, h2⟩ | ⟨rfl, -, h2⟩
    · have hke' : keS T = some (k, T2) := by rw [hke, h1]; exact h2
      rcases h3 with ⟨-, rfl, h3⟩ | ⟨rfl, -, h3⟩
      · refine Or.inl ⟨rfl, ?_⟩
        have hit' : itS false T = some (⟨false, [k], [], [(q : Int)]⟩, T3) := by
          rw [hit, hke']
          show itB false k T2 = _
          unfold itB
          rw [if_neg (by decide), h3]
          rfl
        rw [hd2, hit']
        show ((itsS false m T3).map fun y => ((⟨false, [k], [], [(q : Int)]⟩ : N).app y.1, y.2)).map (fun y => (n.app y.1, y.2)) = _
        rw [Option.map_map]
        congr 1
        funext y
        show (n.app ((⟨false, [k], [], [(q : Int)]⟩ : N).app y.1), y.2) = _
        rw [← app_assoc]
        simp [N.app]
      · refine Or.inr ⟨rfl, ?_⟩
        have hit' : itS false T = none := by
          rw [hit, hke']
          show itB false k T2 = _
          unfold itB
          rw [if_neg (by decide), h3 rfl]
          rfl
        rw [hd2, hit']
        rfl
    · have hit' : itS false T = none := by rw [hit, hke, h1]; show (byS T1 z).bind _ = _; rw [h2 rfl]; rfl
      rcases h3 with ⟨he, _⟩ | ⟨rfl, _⟩
      · cases he
      · exact Or.inr ⟨rfl, by rw [hd2, hit']; rfl⟩
  · have hit' : itS false T = none := by rw [hit, hke, h1 rfl]; rfl
    have e2t : e2 = true := by
      rcases h2 with ⟨he, _⟩ | ⟨he, _⟩
      · cases he
      · exact he
    subst e2t
    rcases h3 with ⟨he, _⟩ | ⟨rfl, _⟩
    · cases he
    · exact Or.inr ⟨rfl, by rw [hd2, hit']; rfl⟩
theorem Pr.start_inner {S T1 T2 T3 : Bs} {c q : Nat} {e2 e3 : Bool} (hS : S.length ≤ 281474976710656) (h1 : Ran S false (fxS S 1) 0 2 T1 false) (h2 : Ran T1 false (fxS T1 2) 0 c T2 e2) (h3 : Ran T2 e2 (fxS T2 4) 0 q T3 e3) : Pr S c false 0 ⟨false, [], [], [(q : Int)]⟩ T3 e3 := by
  obtain ⟨l1, h1⟩ := h1
  obtain ⟨l2, h2⟩ := h2
  obtain ⟨l3, h3⟩ := h3
  refine ⟨rfl, Nat.le_refl _, Nat.le_refl _, Nat.le_refl _, by omega, ?_⟩
  have h1' : fxS S 1 = some (2, T1) := by
    rcases h1 with ⟨-, -, h1⟩ | ⟨h1, _⟩
    · exact h1
    · cases h1
  unfold parse
  rw [h1']
  show (_ ∧ (fxS T1 2).bind (fun c => bodyS 2 c.1 c.2) = _) ∨ (_ ∧ (fxS T1 2).bind (fun c => bodyS 2 c.1 c.2) = none)
  rcases h2 with ⟨-, rfl, h2⟩ | ⟨rfl, -, h2⟩
  · rw [h2]
    show (_ ∧ bodyS 2 c T2 = _) ∨ (_ ∧ bodyS 2 c T2 = none)
    unfold bodyS
    rw [if_neg (by decide), if_pos rfl, Nat.sub_zero]
    rcases h3 with ⟨-, rfl, h3⟩ | ⟨rfl, -, h3⟩
    · refine Or.inl ⟨rfl, ?_⟩
      rw [h3]
      rfl
    · refine Or.inr ⟨rfl, ?_⟩
      rw [h3 rfl]
      rfl
  · rcases h3 with ⟨he, _⟩ | ⟨rfl, _⟩
    · cases he
    · exact Or.inr ⟨rfl, by rw [h2 rfl]; rfl⟩
/-- A mark that is none. -/
theorem Pr.start_bad {S T1 T3 : Bs} {c m q : Nat} {e1 : Bool} (ht : T3.length ≤ 281474976710656) (h1 : Ran S false (fxS S 1) 0 m T1 e1) (hm1 : m ≠ 1) (hm2 : m ≠ 2) : Pr S c false 0 ⟨false, [], [], [(q : Int)]⟩ T3 true := by
  obtain ⟨l1, h1⟩ := h1
  refine ⟨rfl, Nat.le_refl _, Nat.le_refl _, Nat.le_refl _, ht, Or.inr ⟨rfl, ?_⟩⟩
  unfold parse
  rcases h1 with ⟨-, -, h1⟩ | ⟨-, -, h1⟩
  · rw [h1]
    show (fxS T1 2).bind (fun c => bodyS m c.1 c.2) = _
    cases hx : fxS T1 2 with
    | none => rfl
    | some c =>
      show bodyS m c.1 c.2 = none
      unfold bodyS
      rw [if_neg hm1, if_neg hm2]
  · rw [h1 rfl]; rfl
/-- The end. -/
theorem Pr.fin {S T : Bs} {c j : Nat} {f e : Bool} {n : N} (h : Pr S c f j n T e) (hj : c ≤ j) : (e = false ∧ parse S = some (n, T)) ∨ (e = true ∧ parse S = none) := by
  rcases h.dd with ⟨he, hd⟩ | hd
  · refine Or.inl ⟨he, ?_⟩
    rw [hd, show c - j = 0 by omega]
    show some (n.app ⟨f, [], [], []⟩, T) = _
    rw [← h.ff, app_end]
  · exact Or.inr hd
theorem Pr.broke {S T : Bs} {c j : Nat} {f : Bool} {n : N} (h : Pr S c f j n T true) : parse S = none := by
  rcases h.dd with ⟨he, _⟩ | ⟨_, hd⟩
  · cases he
  · exact hd
/-- What node() gives. -/
def NodeGives (S : Bs) (b : Nat) (w w' : World) (e : Ending) : Prop :=
  ∃ (n : N) (ks cs ps : Value) (T : Bs) (e1 : Bool), e = .returned (nV n.f ks cs ps) ∧ (∃ B, w.heap.size < B ∧ NOw w' B ks cs ps n) ∧ Rn b T e1 w' ∧ One b w w' ∧ ((e1 = false ∧ parse S = some (n, T)) ∨ (e1 = true ∧ parse S = none))
abbrev noObj : Obj := .cells #[.bool false, .slice none 0 0, .slice none 0 0, .slice none 0 0] tN
theorem St.begin {b : Nat} {T : Bs} {e f : Bool} {w w2 : World} (hb : b < w.heap.size) (hr : Rn b T e w2) (ho : One b (w.alloc noObj) w2) : St b w2.heap.size w.heap.size (w2.heap.size + 1) nilV nilV nilV T e ⟨f, [], [], []⟩ w (w2.alloc (.cells #[.bool f, .slice none 0 0, .slice none 0 0, .slice none 0 0] tN)) := by
  have h1 : w.heap.size < w2.heap.size := by have := ho.size; simp at this; omega
  have R0 : Nb w.heap.size false nilV nilV nilV w2 := (Nb.new false nilV nilV nilV w).one ho (by omega)
  exact ⟨hr.alloc _, Nb.new _ _ _ _ _, R0.alloc _, OwnL.empty _ _, OwnL.empty _ _, OwnL.empty _ _, fun i hi => by simp [nilV, Value.ownBlock] at hi, fun i hi => by simp [nilV, Value.ownBlock] at hi, fun i hi => by simp [nilV, Value.ownBlock] at hi,
    by omega, by omega, by omega, by omega, by omega, by omega, by simp, by omega, Nat.le_refl _, by omega, (((One.refl b w).alloc noObj).trans ho).alloc _⟩
end No
end Go.Proofs.YtoifhcmgeackdaaGreatDoor
