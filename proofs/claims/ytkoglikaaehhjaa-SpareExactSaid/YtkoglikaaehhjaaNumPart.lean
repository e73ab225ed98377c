/-
  What layers above num want of it: numbers among bytes (fx, piece), a row of noughts, the reference's Full. Plain laws and small contracts.
-/
import Derived.Test.YtkoglikaaehhjaaNumRefFixed
import Derived.Test.YtkoglikaaehhjaaNumRefUnfixed
import Derived.Deep.QuietTactic
import Derived.BigQuiet
namespace Go.Proofs.Ytkoglikaaehhjaa
open Go.RowKit
namespace Part
open Num (hid fixF unfF bcells)

/-- The number that the bytes from i on say, n of them. -/
def numAt (l : List UInt8) (i n : Nat) : Nat := unfF 0 ((l.drop i).take n)
theorem fix_unf (l : List UInt8) : fixF l.length (unfF 0 l) = l := by
  have key : ∀ r : List UInt8, fixF r.length (unfF 0 r.reverse) = r.reverse := by
    intro r
    induction r with
    | nil => rfl
    | cons b r ih =>
      have hb : b.toNat < 256 := b.toNat_lt
      rw [List.reverse_cons, Num.unfF_append, List.length_cons, fixF]
      have e1 : (unfF 0 r.reverse * 256 + b.toNat) / 256 = unfF 0 r.reverse := by omega
      have e2 : UInt8.ofNat (unfF 0 r.reverse * 256 + b.toNat) = b := by
        apply UInt8.toNat_inj.1
        rw [Num.ofNat_toNat]; omega
      rw [e1, e2, ih]
  have h := key l.reverse
  simpa using h
theorem unf_inj {l m : List UInt8} (h : l.length = m.length) (e : unfF 0 l = unfF 0 m) : l = m := by
  rw [← fix_unf l, ← fix_unf m, h, e]
theorem numAt_lt (l : List UInt8) (i n : Nat) : numAt l i n < 256 ^ n := by
  have h := Num.unfF_lt ((l.drop i).take n) 0
  have h2 : (256 : Nat) ^ ((l.drop i).take n).length ≤ 256 ^ n := Nat.pow_le_pow_right (by decide) (List.length_take_le _ _)
  unfold numAt
  omega
theorem mid (a b c : List UInt8) (i n : Nat) (hi : a.length = i) (hn : b.length = n) : ((a ++ (b ++ c)).drop i).take n = b := by
  subst hi; subst hn; simp
theorem part_back (l : List UInt8) (i n : Nat) (h : i + n ≤ l.length) : fixF n (numAt l i n) = (l.drop i).take n := by
  unfold numAt
  have e : ((l.drop i).take n).length = n := by simp; omega
  have := fix_unf ((l.drop i).take n)
  rwa [e] at this
theorem cut_take (l : List UInt8) (i n : Nat) : l.take (i + n) = l.take i ++ (l.drop i).take n := List.take_add
/-- A region that draws its order and whose calls make memory alone: one walk of the text's order, every operation quiet in the class C. -/
theorem wp_region_quiet_in {P : Program} {id : Nat} {Q : Exit → Act → World → Prop} {a : Act} {w : World} {l : List Oper} (C : World → Prop) (hm : P.follows .mixedOrders = true) (hB : Region.lexB .any l.toArray = true) (hC : C w.drew)
    (h : wpQuiet P l.toArray C (fun a' => ∀ w', C w' → Q .normal a' w') l a) : (Code.region id l.toArray true).wp P Q a w :=
  wp_region_quiet (C := C) hm hB hC (by simpa using h)
theorem cell_at {w : World} {b : Nat} {cs : Array Value} {t : TypeId} {f : Nat × Nat} (h : w.heap[b]? = some (.cells cs t f)) (j : Nat) : w.cell? ⟨b, j, none⟩ = cs[j]? := by simp [World.cell?, h]
/-- The bytes of a number, n of them: a name that a walk leaves closed. -/
def fx (n k : Nat) : ByteArray := ⟨(fixF n k).toArray⟩
theorem fx_list (n k : Nat) : (fx n k).data.toList = fixF n k := rfl
theorem fx_size (n k : Nat) : (fx n k).size = n := by show (fixF n k).toArray.size = n; simp [Num.fixF_length]
theorem fixed4 (n : Nat) (hn : n < 18446744073709551616) (w : World) :
    Calls Try.prog 24 #[.int .u64 n, .int .i64 4] w fun e w' => e = .returned (.string (fx 4 n)) ∧ Below w.heap.size w w' :=
  (Num.fixed_any n hn 4 w).mono fun _ _ h => h
theorem fixed8 (n : Nat) (hn : n < 18446744073709551616) (w : World) :
    Calls Try.prog 24 #[.int .u64 n, .int .i64 8] w fun e w' => e = .returned (.string (fx 8 n)) ∧ Below w.heap.size w w' :=
  (Num.fixed_any n hn 8 w).mono fun _ _ h => h
theorem rfixed4 (n : Nat) (hn : n < 18446744073709551616) (w : World) :
    Calls Try.prog 28 #[.int .u64 n, .int .i64 4] w fun e w' => e = .returned (.string (fx 4 n)) ∧ Below w.heap.size w w' :=
  (Num.rfixed_any n hn 4 w).mono fun _ _ h => h
theorem rfixed8 (n : Nat) (hn : n < 18446744073709551616) (w : World) :
    Calls Try.prog 28 #[.int .u64 n, .int .i64 8] w fun e w' => e = .returned (.string (fx 8 n)) ∧ Below w.heap.size w w' :=
  (Num.rfixed_any n hn 8 w).mono fun _ _ h => h
theorem u64_nat (k : Nat) (h : k < 18446744073709551616) : IntKind.u64.wrap (k : Int) = (k : Int) := by rw [Num.wrap_u]; omega
/-- The number that the bytes from i to j of a sector say: a name that a walk leaves closed. -/
def piece (s : ByteArray) (i j : Nat) : Nat := numAt s.data.toList i (j - i)
theorem piece_is (s : ByteArray) (i j : Nat) (hi : i < j) (h8 : j ≤ i + 8) (hj : j ≤ s.size) : Num.unfixL (s.extract i j).data.toList = (piece s i j, 0) := by
  have e : (s.extract i j).data.toList = (s.data.toList.drop i).take (j - i) := by
    simp [ByteArray.data_extract]
  unfold Num.unfixL piece numAt
  rw [e, if_pos (by simp; omega)]
theorem piece_lt (s : ByteArray) (i j : Nat) : piece s i j < 256 ^ (j - i) := numAt_lt _ _ _
theorem runfixed_at (s : ByteArray) (i j : Nat) (hi : i < j) (h8 : j ≤ i + 8) (hj : j ≤ s.size) (w : World) :
    Calls Try.prog 31 #[.string (s.extract i j)] w fun e w' => e = .returned (.tuple #[.int .u64 (piece s i j), .int .i64 0]) ∧ w = w' := by
  have hu := Num.runfixed_any (s.extract i j) w
  rw [piece_is s i j hi h8 hj] at hu
  exact hu.mono fun _ _ h => h
def zerosL (n : Nat) : List UInt8 := List.replicate n 0
def zerosS (n : Nat) : ByteArray := ⟨(zerosL n).toArray⟩
theorem zerosS_size (n : Nat) : (zerosS n).size = n := by show (zerosL n).toArray.size = n; simp [zerosL]
/-- A made row of noughts. -/
theorem make_row (w : World) (n : Nat) (hn : n ≤ 1000000) : ∃ w', (Instr.makeSlice 64 (.int .i64 (n : Int)) (.int .i64 (n : Int))).run Try.prog w = .ok (.slice (some ⟨w.heap.size, 0, none⟩) n n) w' ∧
    w'.ownsRow w.heap.size 5 1 (.slice (some ⟨w.heap.size, 0, none⟩) n n) n (bcells (zerosL n)) ∧ Below w.heap.size w w' := by
  obtain ⟨i, hi, h0, h1, h2⟩ := info_parts Num.Try.info5
  obtain ⟨w', hr, ho, hg⟩ := run_make_full (P := Try.prog) w w.heap.size 64 5 i _ 1 Try.underlying64 hi h0 h1 .i64 .i64 n (by rw [h2]; omega) (by unfold maxLen; omega) (Nat.le_refl _)
  rw [Nat.mul_one] at ho
  have hz := Num.made_zero ho
  rw [List.append_nil] at hz
  exact ⟨w', hr, hz, (Below.refl _ w).grown hg (Nat.le_refl _) (fun k hk => by cases hk)⟩
/-- string(make([]byte, n)) in two steps. -/
theorem make_conv (w : World) (n : Nat) (h1 : 1 ≤ n) (hn : n ≤ 1000000) : ∃ w', (Instr.makeSlice 64 (.int .i64 (n : Int)) (.int .i64 (n : Int))).run Try.prog w = .ok (.slice (some ⟨w.heap.size, 0, none⟩) n n) w' ∧
    (convert 64 9 (.slice (some ⟨w.heap.size, 0, none⟩) n n)).run Try.prog w' = .ok (.string (zerosS n)) w' ∧ Below w.heap.size w w' := by
  obtain ⟨w', hr, ho, hb⟩ := make_row w n hn
  exact ⟨w', hr, Num.conv_own (P := Try.prog) (l := zerosL n) (n := n) 64 9 5 Try.underlying64 Try.underlying5 Try.underlying9 (by simp [zerosL]) (by simp [zerosL]; omega) ho, hb⟩
def full (s : ByteArray) : ByteArray := if 232 ≤ s.size then s.extract 0 232 else s ++ zerosS (232 - s.size)
theorem full_size (s : ByteArray) : (full s).size = 232 := by
  unfold full
  split
  · rename_i h; rw [ByteArray.size_extract]; omega
  · rename_i h; rw [ByteArray.size_append, zerosS_size]; omega
set_option maxRecDepth 100000 in
set_option maxHeartbeats 400000 in
theorem full_any (s : ByteArray) (w : World) :
    Calls Try.prog 29 #[.string s] w fun e w' => e = .returned (.string (full s)) ∧ Below w.heap.size w w' := by
  by_cases h : 232 ≤ s.size
  · have hf : full s = s.extract 0 232 := if_pos h
    rw [hf]
    have h1 : (232 : Int) ≤ (s.size : Int) := by omega
    have h2 : 232 ≤ s.size := h
    clear h hf
    go_enter Try.func29, Try.ntmps29
    go_wp2
    go_ret
    exact ⟨rfl, Below.refl _ _⟩
  · have hf : full s = s ++ zerosS (232 - s.size) := if_neg h
    rw [hf]
    have h1 : ¬ (232 : Int) ≤ (s.size : Int) := by omega
    obtain ⟨w1, hmk, hcv, hb⟩ := make_conv w (232 - s.size) (by omega) (by omega)
    have e : (((232 - s.size : Nat) : Int)) = 232 - (s.size : Int) := by omega
    rw [e] at hmk
    have hz : ¬ 9223372036854775807 < s.size + (zerosS (232 - s.size)).size := by rw [zerosS_size]; omega
    clear h hf e
    go_enter Try.func29, Try.ntmps29
    go_wp2
    go_ret
    exact ⟨rfl, hb⟩
end Part
end Go.Proofs.Ytkoglikaaehhjaa
