/-
  Put together: MixMath, MixCode, MixSum, MixRef, MixSu.
-/
import Derived.Test.YtgmbiiocjhkpdaaGreatGrpJNum
import Derived.Test.YtgmbiiocjhkpdaaGreatChecked
import Derived.WalkKit
import Derived.WalkSpells
import Derived.WalkLawsBesides
/-
  The sum over bytes as a plain function on numbers: what a group does, that a sum goes on, that each group and each beginning tells.
-/
namespace Go.Proofs.YtgmbiiocjhkpdaaGreat
namespace Mix

/-- A byte of a text, 0 behind it. -/
def gb (l : List UInt8) (i : Nat) : Nat := (l.getD i 0).toNat
/-- The number of the group that begins at i. -/
def grp (l : List UInt8) (i : Nat) : Nat := gb l i * 16777216 + gb l (i + 1) * 65536 + gb l (i + 2) * 256 + gb l (i + 3)
def rotl7 (v : Nat) : Nat := v % 33554432 * 128 + v / 33554432
def stA (a b x : Nat) : Nat := (a + x + b) % 4294967296
def stB (a b x : Nat) : Nat := rotl7 ((b + x + stA a b x) % 4294967296)
/-- The two halves behind k groups. -/
def st (a b : Nat) (l : List UInt8) : Nat → Nat × Nat
  | 0 => (a, b)
  | k + 1 => (stA (st a b l k).1 (st a b l k).2 (grp l (4 * k)), stB (st a b l k).1 (st a b l k).2 (grp l (4 * k)))
def pair (p : Nat × Nat) : Nat := p.1 * 4294967296 + p.2
def sumN (n : Nat) (l : List UInt8) : Nat := pair (st (n / 4294967296) (n % 4294967296) l ((l.length + 3) / 4))

theorem gb_lt (l : List UInt8) (i : Nat) : gb l i < 256 := by unfold gb; exact (l.getD i 0).toNat_lt
theorem grp_lt (l : List UInt8) (i : Nat) : grp l i < 4294967296 := by
  have h0 := gb_lt l i; have h1 := gb_lt l (i + 1); have h2 := gb_lt l (i + 2); have h3 := gb_lt l (i + 3)
  unfold grp; omega
theorem rotl7_lt (v : Nat) (h : v < 4294967296) : rotl7 v < 4294967296 := by unfold rotl7; omega
theorem rotl7_inj {v u : Nat} (hv : v < 4294967296) (hu : u < 4294967296) (h : rotl7 v = rotl7 u) : v = u := by unfold rotl7 at h; omega
theorem stA_lt (a b x : Nat) : stA a b x < 4294967296 := by unfold stA; omega
theorem stB_lt (a b x : Nat) : stB a b x < 4294967296 := by unfold stB; exact rotl7_lt _ (by omega)

theorem st_lt (a b : Nat) (l : List UInt8) (ha : a < 4294967296) (hb : b < 4294967296) : ∀ k, (st a b l k).1 < 4294967296 ∧ (st a b l k).2 < 4294967296
  | 0 => ⟨ha, hb⟩
  | _ + 1 => ⟨stA_lt _ _ _, stB_lt _ _ _⟩

theorem st_congr (a b : Nat) (l m : List UInt8) : ∀ k, (∀ i, i < k → grp l (4 * i) = grp m (4 * i)) → st a b l k = st a b m k
  | 0, _ => rfl
  | k + 1, h => by
    have ih := st_congr a b l m k (fun i hi => h i (by omega))
    simp only [st]
    rw [ih, h k (by omega)]

theorem gb_left (s t : List UInt8) (i : Nat) (h : i < s.length) : gb (s ++ t) i = gb s i := by
  unfold gb; rw [List.getD_eq_getElem?_getD, List.getD_eq_getElem?_getD, List.getElem?_append_left h]
theorem gb_right (s t : List UInt8) (i : Nat) : gb (s ++ t) (s.length + i) = gb t i := by
  unfold gb; rw [List.getD_eq_getElem?_getD, List.getD_eq_getElem?_getD, List.getElem?_append_right (by omega), Nat.add_sub_cancel_left]
theorem gb_over (s : List UInt8) (i : Nat) (h : s.length ≤ i) : gb s i = 0 := by
  unfold gb; rw [List.getD_eq_getElem?_getD, List.getElem?_eq_none h]; rfl
theorem gb_zeros (k i : Nat) : gb (List.replicate k 0) i = 0 := by
  unfold gb
  rw [List.getD_eq_getElem?_getD, List.getElem?_replicate]
  split <;> rfl
theorem grp_zeros (k i : Nat) : grp (List.replicate k 0) i = 0 := by simp [grp, gb_zeros]

theorem grp_left (s t : List UInt8) (i : Nat) (h : i + 4 ≤ s.length) : grp (s ++ t) i = grp s i := by
  unfold grp; rw [gb_left _ _ _ (by omega), gb_left _ _ _ (by omega), gb_left _ _ _ (by omega), gb_left _ _ _ (by omega)]
theorem grp_right (s t : List UInt8) (i : Nat) : grp (s ++ t) (s.length + i) = grp t i := by
  unfold grp; rw [Nat.add_assoc s.length i 1, Nat.add_assoc s.length i 2, Nat.add_assoc s.length i 3, gb_right, gb_right, gb_right, gb_right]
theorem gb_pad (s : List UInt8) (k i : Nat) : gb (s ++ List.replicate k 0) i = gb s i := by
  by_cases h : i < s.length
  · exact gb_left _ _ _ h
  · have e : i = s.length + (i - s.length) := by omega
    rw [gb_over s i (by omega), e, gb_right, gb_zeros]
theorem grp_pad (s : List UInt8) (k i : Nat) : grp (s ++ List.replicate k 0) i = grp s i := by simp [grp, gb_pad]

theorem st_split (a b m : Nat) (s t : List UInt8) (h : s.length = 4 * m) : ∀ k, st a b (s ++ t) (m + k) = st (st a b s m).1 (st a b s m).2 t k
  | 0 => by
    have := st_congr a b (s ++ t) s m (fun i hi => grp_left s t _ (by omega))
    simpa [st] using this
  | k + 1 => by
    have ih := st_split a b m s t h k
    have e : 4 * (m + k) = s.length + 4 * k := by omega
    rw [← Nat.add_assoc, st, st, ih, e, grp_right]

theorem pair_lt {p : Nat × Nat} (h : p.1 < 4294967296 ∧ p.2 < 4294967296) : pair p < 18446744073709551616 := by unfold pair; omega
theorem pair_hi {p : Nat × Nat} (h : p.2 < 4294967296) : pair p / 4294967296 = p.1 := by unfold pair; omega
theorem pair_lo {p : Nat × Nat} (h : p.2 < 4294967296) : pair p % 4294967296 = p.2 := by unfold pair; omega

theorem st_ok (n : Nat) (l : List UInt8) (k : Nat) (hn : n < 18446744073709551616) : (st (n / 4294967296) (n % 4294967296) l k).1 < 4294967296 ∧ (st (n / 4294967296) (n % 4294967296) l k).2 < 4294967296 :=
  st_lt _ _ _ (by omega) (by omega) k
theorem sumN_lt (n : Nat) (l : List UInt8) (hn : n < 18446744073709551616) : sumN n l < 18446744073709551616 := pair_lt (st_ok n l _ hn)

/-- P2.2: a sum goes on where another one ended, at every fourth byte. -/
theorem sumN_goes (n : Nat) (s t : List UInt8) (hn : n < 18446744073709551616) (h : s.length % 4 = 0) : sumN n (s ++ t) = sumN (sumN n s) t := by
  have hm : s.length = 4 * (s.length / 4) := by omega
  have e1 : ((s ++ t).length + 3) / 4 = s.length / 4 + (t.length + 3) / 4 := by rw [List.length_append]; omega
  have e2 : (s.length + 3) / 4 = s.length / 4 := by omega
  have hk := st_ok n s (s.length / 4) hn
  have e3 : sumN n s = pair (st (n / 4294967296) (n % 4294967296) s (s.length / 4)) := by unfold sumN; rw [e2]
  rw [e3]
  unfold sumN
  rw [pair_hi hk.2, pair_lo hk.2, e1, st_split _ _ _ _ _ hm]

theorem step_inj {a b c d x : Nat} (ha : a < 4294967296) (hb : b < 4294967296) (hc : c < 4294967296) (hd : d < 4294967296) (h1 : stA a b x = stA c d x) (h2 : stB a b x = stB c d x) : a = c ∧ b = d := by
  have h3 : (b + x + stA a b x) % 4294967296 = (d + x + stA c d x) % 4294967296 := rotl7_inj (by omega) (by omega) h2
  rw [h1] at h3
  unfold stA at h1 h3
  omega
theorem step_inj_x {a b x y : Nat} (hx : x < 4294967296) (hy : y < 4294967296) (h1 : stA a b x = stA a b y) : x = y := by
  unfold stA at h1; omega
theorem st_inj {a b c d : Nat} (l : List UInt8) (ha : a < 4294967296) (hb : b < 4294967296) (hc : c < 4294967296) (hd : d < 4294967296) : ∀ k, st a b l k = st c d l k → a = c ∧ b = d
  | 0, h => ⟨congrArg Prod.fst h, congrArg Prod.snd h⟩
  | k + 1, h => by
    have k1 := st_lt a b l ha hb k
    have k2 := st_lt c d l hc hd k
    have e := step_inj k1.1 k1.2 k2.1 k2.2 (congrArg Prod.fst h) (congrArg Prod.snd h)
    exact st_inj l ha hb hc hd k (Prod.ext e.1 e.2)
theorem pair_inj {p q : Nat × Nat} (hp : p.2 < 4294967296) (hq : q.2 < 4294967296) (h : pair p = pair q) : p = q := by
  have e1 := pair_hi hp; have e2 := pair_lo hp; have e3 := pair_hi hq; have e4 := pair_lo hq
  rw [h] at e1 e2
  exact Prod.ext (e1.symm.trans e3) (e2.symm.trans e4)

/-- P2.3: another beginning tells. -/
theorem sumN_inj {n m : Nat} (l : List UInt8) (hn : n < 18446744073709551616) (hm : m < 18446744073709551616) (h : sumN n l = sumN m l) : n = m := by
  have k1 := st_ok n l ((l.length + 3) / 4) hn
  have k2 := st_ok m l ((l.length + 3) / 4) hm
  have e := st_inj l (by omega) (by omega) (by omega) (by omega) _ (pair_inj k1.2 k2.2 h)
  omega

theorem gb_at {l m : List UInt8} (i : Nat) (h1 : i < l.length) (h2 : i < m.length) (h : gb l i = gb m i) : l[i] = m[i] := by
  unfold gb at h
  rw [List.getD_eq_getElem?_getD, List.getD_eq_getElem?_getD, List.getElem?_eq_getElem h1, List.getElem?_eq_getElem h2] at h
  exact UInt8.toNat_inj.1 h
theorem grp_inj {l m : List UInt8} (h1 : l.length = 4) (h2 : m.length = 4) (h : grp l 0 = grp m 0) : l = m := by
  have a0 := gb_lt l 0; have a1 := gb_lt l 1; have a2 := gb_lt l 2; have a3 := gb_lt l 3
  have b0 := gb_lt m 0; have b1 := gb_lt m 1; have b2 := gb_lt m 2; have b3 := gb_lt m 3
  simp only [grp, Nat.zero_add] at h
  refine List.ext_getElem (by omega) fun i k1 k2 => gb_at i k1 k2 ?_
  obtain rfl | rfl | rfl | rfl : i = 0 ∨ i = 1 ∨ i = 2 ∨ i = 3 := by omega
  all_goals omega
/-- P2.3: another group tells. -/
theorem sumN_inj4 {n : Nat} {l m : List UInt8} (hn : n < 18446744073709551616) (h1 : l.length = 4) (h2 : m.length = 4) (h : sumN n l = sumN n m) : l = m := by
  have k1 := st_ok n l ((l.length + 3) / 4) hn
  have k2 := st_ok n m ((m.length + 3) / 4) hn
  have e := pair_inj k1.2 k2.2 h
  rw [h1, h2] at e
  have e1 : (4 + 3) / 4 = 0 + 1 := by decide
  rw [e1] at e
  exact grp_inj h1 h2 (step_inj_x (grp_lt _ _) (grp_lt _ _) (congrArg Prod.fst e))

/-- P2.1: noughts that fill the last group change nothing. -/
theorem sumN_pad (n k : Nat) (s : List UInt8) (h : (s.length + k + 3) / 4 = (s.length + 3) / 4) : sumN n (s ++ List.replicate k 0) = sumN n s := by
  unfold sumN
  rw [List.length_append, List.length_replicate, h]
  exact congrArg pair (st_congr _ _ _ _ _ fun i _ => grp_pad s k _)

theorem sumN_nought (n : Nat) (hn : n < 18446744073709551616) : sumN n [0, 0, 0, 0] = n ↔ n = 0 := by
  have e : grp [0, 0, 0, 0] 0 = 0 := by decide
  have e1 : sumN n [0, 0, 0, 0] = stA (n / 4294967296) (n % 4294967296) 0 * 4294967296 + stB (n / 4294967296) (n % 4294967296) 0 := by
    unfold sumN pair
    have k : ([0, 0, 0, 0] : List UInt8).length = 4 := rfl
    rw [k, show (4 + 3) / 4 = 0 + 1 by decide]
    simp only [st, Nat.mul_zero, e]
  rw [e1]
  have k1 := stA_lt (n / 4294967296) (n % 4294967296) 0
  have k2 := stB_lt (n / 4294967296) (n % 4294967296) 0
  constructor
  · intro h
    have h1 : stA (n / 4294967296) (n % 4294967296) 0 = n / 4294967296 := by omega
    have h2 : stB (n / 4294967296) (n % 4294967296) 0 = n % 4294967296 := by omega
    unfold stB at h2
    rw [h1] at h2
    unfold stA at h1
    unfold rotl7 at h2
    omega
  · rintro rfl; decide

end Mix
end Go.Proofs.YtgmbiiocjhkpdaaGreat

/-
  Contracts of the project's mix: a turn, the closure that adds a group, a group's number.
-/
namespace Go.Proofs.YtgmbiiocjhkpdaaGreat
open Go.RowKit
namespace Mix
open Num (hid)

theorem wrap_u32 (n : Int) : IntKind.u32.wrap n = n % 4294967296 := IntKind.wrap_u32 n
theorem or_u32_nat (a b : Nat) (ha : a < 4294967296) (hb : b < 4294967296) : bits .or .u32 (a : Int) (b : Int) = ((a ||| b : Nat) : Int) := by
  have hx : a ||| b < 2 ^ 32 := Nat.or_lt_two_pow (by omega) (by omega)
  have h1 : (BitVec.ofInt 32 (a : Int)).toNat = a := by
    rw [BitVec.ofInt_natCast, BitVec.toNat_ofNat]; exact Nat.mod_eq_of_lt (by omega)
  have h2 : (BitVec.ofInt 32 (b : Int)).toNat = b := by
    rw [BitVec.ofInt_natCast, BitVec.toNat_ofNat]; exact Nat.mod_eq_of_lt (by omega)
  show IntKind.u32.wrap ((BitVec.ofInt 32 (a : Int) ||| BitVec.ofInt 32 (b : Int)).toNat : Int) = _
  rw [BitVec.toNat_or, h1, h2, wrap_u32]
  omega

theorem rot_or (n : Nat) (hn : n < 4294967296) : bits .or .u32 ((n : Int) * 128 % 4294967296) ((n : Int) / 33554432) = ((rotl7 n : Nat) : Int) := by
  have e1 : (n : Int) * 128 % 4294967296 = ((n % 33554432 * 128 : Nat) : Int) := by omega
  have e2 : (n : Int) / 33554432 = ((n / 33554432 : Nat) : Int) := by omega
  rw [e1, e2, or_u32_nat _ _ (by omega) (by omega), Nat.or_comm]
  have := Num.or_add (n / 33554432) (n % 33554432) 7 (by omega)
  rw [show (128 : Nat) = 2 ^ 7 by decide, this]
  unfold rotl7
  omega

set_option maxRecDepth 100000 in
theorem rot_any (n : Nat) (hn : n < 4294967296) (w : World) :
    Calls Tryz.prog 127 #[.int .u32 n, .int .i64 7] w fun e w' => e = .returned (.int .u32 (rotl7 n : Nat)) ∧ w = w' := by
  have e31 : bits .and .u64 7 31 = 7 := by decide +kernel
  go_enter Tryz.func127, Tryz.ntmps127
  go_wp2
  go_ret
  exact ⟨Num.ret_u (rot_or n hn), rfl⟩

/-- The number of the first k bytes. -/
def part (l : List UInt8) : Nat → Nat
  | 0 => 0
  | k + 1 => part l k * 256 + gb l k
theorem part_four (l : List UInt8) : part l 4 = grp l 0 := by simp only [part, grp, Nat.zero_add]; omega
theorem gb_byte (s : ByteArray) (k : Nat) (h : k < s.size) : gb s.data.toList k = s[k].toNat := by
  unfold gb
  rw [List.getD_eq_getElem?_getD, List.getElem?_eq_getElem (by simpa using h)]
  rfl
theorem part_lt (acc k b : Nat) (ha : acc < 256 ^ k) (hb : b < 256) : acc * 256 + b < 256 ^ (k + 1) := by rw [Nat.pow_succ]; omega
theorem pow_le3 (k : Nat) (h : k ≤ 3) : 256 ^ k ≤ 16777216 := by
  have : (256 : Nat) ^ k ≤ 256 ^ 3 := Nat.pow_le_pow_right (by decide) h
  have e : (256 : Nat) ^ 3 = 16777216 := by decide
  omega
theorem part_shl (acc k : Nat) (hk : k ≤ 3) (ha : acc < 256 ^ k) : (acc : Int) * 256 % 4294967296 = ((acc * 256 : Nat) : Int) := by
  have := pow_le3 k hk; omega
theorem part_or (acc k b : Nat) (hk : k ≤ 3) (ha : acc < 256 ^ k) (hb : b < 256) : bits .or .u32 ((acc : Int) * 256 % 4294967296) (b : Int) = ((acc * 256 + b : Nat) : Int) := by
  have h3 := pow_le3 k hk
  rw [part_shl acc k hk ha, or_u32_nat _ _ (by omega) (by omega), Nat.or_comm]
  have := Num.or_add b acc 8 (by omega)
  rw [show (256 : Nat) = 2 ^ 8 by decide, this, Nat.add_comm]

set_option maxRecDepth 100000 in
theorem group_any (s : ByteArray) (hs : s.size ≤ maxLen) (w : World) :
    Calls Tryz.prog 128 #[.string s] w fun e w' => e = .returned (.int .u32 (grp s.data.toList 0 : Nat)) ∧ w = w' := by
  replace hs : s.size ≤ 9223372036854775807 := by unfold maxLen at hs; omega
  go_enter Tryz.func128, Tryz.ntmps128
  go_wp2
  go_loop [3, 5] (fun x i => ∃ k acc : Nat, k ≤ 4 ∧ i = .int .i64 k ∧ x = .int .u32 acc ∧ acc < 256 ^ k ∧ acc = part s.data.toList k) (fun _ i => 4 - (intOf i).toNat)
  case atStart => exact ⟨0, 0, by omega, rfl, rfl, by decide, rfl⟩
  case round =>
    obtain ⟨k, acc, hk, rfl, rfl, hacc, hu⟩ := hrel
    have HA := hid hacc
    have HU := hid hu
    clear hacc hu
    by_cases h4 : k < 4
    · by_cases hlt : k < s.size
      · have hby : (s[k].toNat : Int) ≤ 255 := by have := s[k].toNat_lt; omega
        go_wp2
        go_round
        case rel => exact ⟨k + 1, _, by omega, by go_num, congrArg (Value.int .u32) (part_or acc k s[k].toNat (by omega) HA.out s[k].toNat_lt), part_lt acc k _ HA.out s[k].toNat_lt, by rw [HU.out, part, gb_byte s k hlt]⟩
        case measure => simp [intOf]; omega
      · go_wp2
        go_round
        case rel => exact ⟨k + 1, _, by omega, by go_num, congrArg (Value.int .u32) (part_shl acc k (by omega) HA.out), by have := part_lt acc k 0 HA.out (by decide); simpa using this, by rw [HU.out, part, gb_over _ _ (by simp; omega), Nat.add_zero]⟩
        case measure => simp [intOf]; omega
    · obtain rfl : k = 4 := by omega
      go_wp2
      go_ret
      rw [HU.out]
      exact ⟨Num.ret_u (congrArg Nat.cast (part_four _)), rfl⟩

/-- The two variables that the closure captures: a block each. -/
structure Two (A B : Nat) (a b : Int) (w : World) : Prop where
  ha : w.heap[A]? = some (.cells #[.int .u32 a] 160 (0, 0))
  hb : w.heap[B]? = some (.cells #[.int .u32 b] 160 (0, 0))
  ne : A ≠ B

theorem Two.setA {A B : Nat} {a b : Int} {w : World} (h : Two A B a b w) (c : Int) : Two A B c b (w.setCell ⟨A, 0, none⟩ (.int .u32 c)) :=
  ⟨one_setCell h.ha, (Below.heap_setCell _ _ _ _ h.ne.symm).trans h.hb, h.ne⟩
theorem Two.setB {A B : Nat} {a b : Int} {w : World} (h : Two A B a b w) (c : Int) : Two A B a c (w.setCell ⟨B, 0, none⟩ (.int .u32 c)) :=
  ⟨(Below.heap_setCell _ _ _ _ h.ne).trans h.ha, one_setCell h.hb, h.ne⟩

theorem rot_st (a b x : Nat) (w : World) :
    Calls Tryz.prog 127 #[.int .u32 (((b : Int) + (x : Int) + ((a : Int) + ((x : Int) + (b : Int)))) % 4294967296), .int .i64 7] w fun e w' => e = .returned (.int .u32 (stB a b x : Nat)) ∧ w = w' := by
  have e : ((b : Int) + (x : Int) + ((a : Int) + ((x : Int) + (b : Int)))) % 4294967296 = (((b + x + stA a b x) % 4294967296 : Nat) : Int) := by unfold stA; omega
  rw [e]
  exact rot_any _ (by omega) w

set_option maxRecDepth 100000 in
theorem add_any (N A B a b x : Nat) (hA : N ≤ A) (hB : N ≤ B) (w : World) (h : Two A B a b w) :
    Calls Tryz.prog 126 #[.int .u32 x, .pointer (some ⟨A, 0, none⟩), .pointer (some ⟨B, 0, none⟩)] w fun e w' => e = .returned (.tuple #[]) ∧ Two A B (stA a b x) (stB a b x) w' ∧ Below N w w' := by
  have cA := cell_of_one h.ha
  have fA := free_of_one h.ha
  have cB := cell_of_one h.hb
  have fB := free_of_one h.hb
  have h1 := h.setA (((a : Int) + ((x : Int) + (b : Int))) % 4294967296)
  have cA1 := cell_of_one h1.ha
  have cB1 := cell_of_one h1.hb
  have fB1 := free_of_one h1.hb
  go_enter Tryz.func126, Tryz.ntmps126
  go_wp2_with fail
  refine (rot_st a b x _).mono ?_
  rintro e w1 ⟨rfl, rfl⟩
  go_wp2
  go_end0
  have e1 : ((a : Int) + ((x : Int) + (b : Int))) % 4294967296 = ((stA a b x : Nat) : Int) := by unfold stA; omega
  exact ⟨rfl, e1 ▸ h1.setB _, ((Below.refl N w).setCell (by exact hA) _).setCell (by exact hB) _⟩

end Mix
end Go.Proofs.YtgmbiiocjhkpdaaGreat

/-
  Contract of Sum, the project's: what each call returns; the old memory stays.
-/
namespace Go.Proofs.YtgmbiiocjhkpdaaGreat
open Go.RowKit
namespace Mix
open Num (hid)

theorem gb_drop (l : List UInt8) (i j : Nat) : gb (l.drop i) j = gb l (i + j) := by
  unfold gb; rw [List.getD_eq_getElem?_getD, List.getD_eq_getElem?_getD, List.getElem?_drop]
theorem grp_drop (l : List UInt8) (i : Nat) : grp (l.drop i) 0 = grp l i := by
  simp only [grp, gb_drop, Nat.zero_add, Nat.add_zero]
theorem group_cut (s : ByteArray) (hs : s.size ≤ 1000000000000000) (i : Nat) (w : World) :
    Calls Tryz.prog 128 #[.string (s.extract i s.size)] w fun e w' => e = .returned (.int .u32 (grp s.data.toList i : Nat)) ∧ w = w' := by
  have h := group_any (s.extract i s.size) (by unfold maxLen; simp; omega) w
  have e : (s.extract i s.size).data.toList = s.data.toList.drop i := by
    simp [ByteArray.data_extract]
    exact List.take_of_length_le (by simp)
  rw [e, grp_drop] at h
  exact h

theorem below2 (w : World) (o o' : Obj) : Below w.heap.size w ((w.alloc o).alloc o') := ((Below.refl _ _).alloc (Nat.le_refl _) o).alloc (by simp) o'
theorem two_new (n : Nat) (w : World) : Two w.heap.size (w.heap.size + 1) ((n / 4294967296 : Nat) : Int) ((n % 4294967296 : Nat) : Int) ((w.alloc (.cells #[.int .u32 ((n : Int) / 4294967296)] 160)).alloc (.cells #[.int .u32 ((n : Int) % 4294967296)] 160)) := by
  have e1 : (n : Int) / 4294967296 = ((n / 4294967296 : Nat) : Int) := by omega
  have e2 : (n : Int) % 4294967296 = ((n % 4294967296 : Nat) : Int) := by omega
  refine ⟨?_, ?_, by omega⟩
  · rw [Below.heap_alloc _ _ _ (by simp), e1]; exact heap_alloc_new _ _
  · rw [e2]; simpa using heap_alloc_new (w.alloc (.cells #[.int .u32 ((n : Int) / 4294967296)] 160)) (.cells #[.int .u32 ((n % 4294967296 : Nat) : Int)] 160)

/-- The two halves behind k groups, from a sum. -/
def hi (n : Nat) (l : List UInt8) (k : Nat) : Nat := (st (n / 4294967296) (n % 4294967296) l k).1
def lo (n : Nat) (l : List UInt8) (k : Nat) : Nat := (st (n / 4294967296) (n % 4294967296) l k).2

/-- What joins the two halves. -/
theorem or_halves (a b : Nat) (ha : a < 4294967296) (hb : b < 4294967296) :
    bits .or .u64 (IntKind.u64.wrap (IntKind.u64.wrap (a : Int) * 4294967296)) (IntKind.u64.wrap (b : Int)) = ((a * 4294967296 + b : Nat) : Int) := by
  have e1 : IntKind.u64.wrap (IntKind.u64.wrap (a : Int) * 4294967296) = ((a * 4294967296 : Nat) : Int) := by rw [Num.wrap_u, Num.wrap_u]; omega
  have e2 : IntKind.u64.wrap (b : Int) = ((b : Nat) : Int) := by rw [Num.wrap_u]; omega
  rw [e1, e2, Num.or_u64_nat _ _ (by omega) (by omega), Nat.or_comm]
  have := Num.or_add b a 32 (by omega)
  rw [show (4294967296 : Nat) = 2 ^ 32 by decide, this, Nat.add_comm]

set_option maxRecDepth 100000 in
set_option maxHeartbeats 800000 in
theorem sum_any (n : Nat) (hn : n < 18446744073709551616) (s : ByteArray) (hs : s.size ≤ 1000000000000000) (w : World) :
    Calls Tryz.prog 99 #[.int .u64 n, .string s] w fun e w' => e = .returned (.int .u64 (sumN n s.data.toList : Nat)) ∧ Below w.heap.size w w' := by
  have hmf : ∀ (fn : Fn) (first cap : Array Value) (w : World), (Instr.makeFunc fn first cap).run Tryz.prog w = .ok (.func fn first cap) w := fun _ _ _ _ => rfl
  go_enter Tryz.func99, Tryz.ntmps99
  go_wp2
  go_loopw [8] (fun i wr => ∃ k : Nat, k ≤ (s.size + 3) / 4 ∧ i = .int .i64 (4 * k : Nat) ∧ Two w.heap.size (w.heap.size + 1) (hi n s.data.toList k) (lo n s.data.toList k) wr ∧ Below w.heap.size w wr) (fun i _ => s.size + 4 - (intOf i).toNat)
  case atStart => exact ⟨0, Nat.zero_le _, rfl, two_new n w, below2 _ _ _⟩
  case round =>
    obtain ⟨k, hk, rfl, h2, hbel⟩ := hrel
    by_cases hlt : 4 * k < s.size
    · go_wp2_with fail
      refine (group_cut s hs (4 * k) _).mono ?_
      rintro e w1 ⟨rfl, rfl⟩
      go_wp2_with fail
      refine (add_any w.heap.size _ _ _ _ _ (Nat.le_refl _) (Nat.le_succ _) _ h2).mono ?_
      rintro e w1 ⟨rfl, h3, hb3⟩
      go_wp2
      go_roundw
      case rel => exact ⟨k + 1, by omega, by go_num, h3, hbel.trans hb3⟩
      case measure => simp [intOf]; omega
    · have cA := cell_of_one h2.ha
      have cB := cell_of_one h2.hb
      go_wp2
      go_ret
      obtain rfl : k = (s.size + 3) / 4 := by omega
      have hok := st_ok n s.data.toList ((s.size + 3) / 4) hn
      exact ⟨Num.ret_u (or_halves _ _ hok.1 hok.2), hbel⟩

end Mix
end Go.Proofs.YtgmbiiocjhkpdaaGreat

/-
  Contract of the reference's Sum: what each call returns; the world stays.
-/
namespace Go.Proofs.YtgmbiiocjhkpdaaGreat
open Go.RowKit
namespace Mix
open Num (hid)

set_option maxRecDepth 100000 in
theorem at_any (s : ByteArray) (i : Nat) (w : World) :
    Calls Tryz.prog 117 #[.string s, .int .i64 i] w fun e w' => e = .returned (.int .u64 (gb s.data.toList i : Nat)) ∧ w = w' := by
  by_cases h : i < s.size
  · have hby : (s[i].toNat : Int) ≤ 255 := by have := s[i].toNat_lt; omega
    go_enter Tryz.func117, Tryz.ntmps117
    go_wp2
    go_ret
    rw [gb_byte s i h]
    exact ⟨rfl, rfl⟩
  · go_enter Tryz.func117, Tryz.ntmps117
    go_wp2
    go_ret
    rw [gb_over _ _ (by simp; omega)]
    exact ⟨rfl, rfl⟩

theorem and_low (v : Int) (h0 : 0 ≤ v) (h1 : v < 18446744073709551616) : bits .and .u64 v 4294967295 = v % 4294967296 := by
  obtain ⟨n, rfl⟩ : ∃ n : Nat, v = n := ⟨v.toNat, by omega⟩
  have e1 : (BitVec.ofInt 64 (n : Int)).toNat = n := by
    rw [BitVec.ofInt_natCast, BitVec.toNat_ofNat]; exact Nat.mod_eq_of_lt (by omega)
  have e2 : (BitVec.ofInt 64 (4294967295 : Int)).toNat = 4294967295 := by decide +kernel
  show IntKind.u64.wrap ((BitVec.ofInt 64 (n : Int) &&& BitVec.ofInt 64 4294967295).toNat : Int) = _
  rw [BitVec.toNat_and, e1, e2, Num.wrap_u]
  have := Nat.and_two_pow_sub_one_eq_mod n 32
  rw [show (2 : Nat) ^ 32 - 1 = 4294967295 by decide, show (2 : Nat) ^ 32 = 4294967296 by decide] at this
  rw [this]
  omega
theorem or_at (a c m p : Nat) (hp : p = 2 ^ m) (ha : a < p) (h : a + c * p < 18446744073709551616) : bits .or .u64 ((c * p : Nat) : Int) (a : Int) = ((c * p + a : Nat) : Int) := by
  subst hp
  rw [Num.or_u64_nat _ _ (by omega) (by omega), Nat.or_comm, Num.or_add _ _ _ ha, Nat.add_comm]
theorem or_rot (v : Int) (h0 : 0 ≤ v) (h1 : v < 4294967296) : bits .or .u64 (v * 128) (v / 33554432) = v * 128 + v / 33554432 := by
  have h := or_at (v.toNat / 33554432) v.toNat 7 128 (by decide +kernel) (by omega) (by omega)
  have e1 : ((v.toNat * 128 : Nat) : Int) = v * 128 := by omega
  have e2 : ((v.toNat / 33554432 : Nat) : Int) = v / 33554432 := by omega
  have e3 : ((v.toNat * 128 + v.toNat / 33554432 : Nat) : Int) = v * 128 + v / 33554432 := by omega
  rw [e1, e2, e3] at h
  exact h
theorem or_g1 (a b : Nat) (ha : a < 256) (hb : b < 256) : bits .or .u64 ((a : Int) * 16777216) ((b : Int) * 65536) = (a : Int) * 16777216 + (b : Int) * 65536 := by
  have h := or_at (b * 65536) a 24 16777216 (by decide +kernel) (by omega) (by omega)
  rw [Int.natCast_mul, Int.natCast_mul, Int.natCast_add, Int.natCast_mul, Int.natCast_mul] at h
  exact h
theorem or_g2 (a b c : Nat) (ha : a < 256) (hb : b < 256) (hc : c < 256) : bits .or .u64 ((a : Int) * 16777216 + (b : Int) * 65536) ((c : Int) * 256) = (a : Int) * 16777216 + (b : Int) * 65536 + (c : Int) * 256 := by
  have h := or_at (c * 256) (a * 256 + b) 16 65536 (by decide +kernel) (by omega) (by omega)
  have e1 : (((a * 256 + b) * 65536 : Nat) : Int) = (a : Int) * 16777216 + (b : Int) * 65536 := by omega
  have e2 : ((c * 256 : Nat) : Int) = (c : Int) * 256 := Int.natCast_mul c 256
  rw [Int.natCast_add, e1, e2] at h
  exact h
theorem or_g3 (a b c d : Nat) (ha : a < 256) (hb : b < 256) (hc : c < 256) (hd : d < 256) : bits .or .u64 ((a : Int) * 16777216 + (b : Int) * 65536 + (c : Int) * 256) (d : Int) = (a : Int) * 16777216 + (b : Int) * 65536 + (c : Int) * 256 + (d : Int) := by
  have h := or_at d (a * 65536 + b * 256 + c) 8 256 (by decide +kernel) (by omega) (by omega)
  have e1 : (((a * 65536 + b * 256 + c) * 256 : Nat) : Int) = (a : Int) * 16777216 + (b : Int) * 65536 + (c : Int) * 256 := by omega
  rw [Int.natCast_add, e1] at h
  exact h

/-- What the walk shows of the upper half behind a group, and of the lower one. -/
def upw (A B x : Int) : Int := bits .and .u64 (A + x + B) 4294967295
def low (B x u : Int) : Int := bits .and .u64 (IntKind.u64.wrap (B + x + u)) 4294967295
theorem upw_is (A B x : Nat) (hA : A < 4294967296) (hB : B < 4294967296) (hx : x < 4294967296) : upw A B x = ((stA A B x : Nat) : Int) := by
  unfold upw stA
  rw [and_low _ (by omega) (by omega)]
  omega
theorem low_is (A B x : Nat) : low B x ((stA A B x : Nat) : Int) = (((B + x + stA A B x) % 4294967296 : Nat) : Int) := by
  have := stA_lt A B x
  unfold low
  rw [Num.wrap_u, and_low _ (by omega) (by omega)]
  omega
theorem rot_is (v : Nat) (hv : v < 4294967296) : bits .and .u64 (bits .or .u64 (IntKind.u64.wrap ((v : Int) * 128)) ((v : Int) / 33554432)) 4294967295 = ((rotl7 v : Nat) : Int) := by
  have e : IntKind.u64.wrap ((v : Int) * 128) = (v : Int) * 128 := by rw [Num.wrap_u]; omega
  rw [e, or_rot _ (by omega) (by omega), and_low _ (by omega) (by omega)]
  unfold rotl7
  omega
theorem grp_c {l : List UInt8} {i c0 c1 c2 c3 : Nat} (h0 : gb l i = c0) (h1 : gb l (i + 1) = c1) (h2 : gb l (i + 2) = c2) (h3 : gb l (i + 3) = c3) :
    (c0 : Int) * 16777216 + (c1 : Int) * 65536 + (c2 : Int) * 256 + (c3 : Int) = ((grp l i : Nat) : Int) := by
  unfold grp; rw [h0, h1, h2, h3]; omega
theorem upw_at (A B : Nat) (x : Int) (l : List UInt8) (i : Nat) (hA : A < 4294967296) (hB : B < 4294967296) (hx : x = ((grp l i : Nat) : Int)) :
    bits .and .u64 ((A : Int) + x + (B : Int)) 4294967295 = ((stA A B (grp l i) : Nat) : Int) := by
  subst hx; exact upw_is A B _ hA hB (grp_lt _ _)
theorem low_at (A B : Nat) (x : Int) (l : List UInt8) (i : Nat) (hA : A < 4294967296) (hB : B < 4294967296) (hx : x = ((grp l i : Nat) : Int)) :
    bits .and .u64 (bits .or .u64 (IntKind.u64.wrap (bits .and .u64 (IntKind.u64.wrap ((B : Int) + x + bits .and .u64 ((A : Int) + x + (B : Int)) 4294967295)) 4294967295 * 128))
      (bits .and .u64 (IntKind.u64.wrap ((B : Int) + x + bits .and .u64 ((A : Int) + x + (B : Int)) 4294967295)) 4294967295 / 33554432)) 4294967295 = ((stB A B (grp l i) : Nat) : Int) := by
  have e := low_is A B (grp l i)
  unfold low at e
  rw [upw_at A B x l i hA hB hx, hx, e]
  exact rot_is _ (by omega)

theorem or_two (a b : Nat) (ha : a < 4294967296) (hb : b < 4294967296) : bits .or .u64 ((a : Int) * 4294967296) (b : Int) = ((a * 4294967296 + b : Nat) : Int) := by
  have h := or_at b a 32 4294967296 (by decide +kernel) hb (by omega)
  rw [Int.natCast_mul] at h
  exact h

theorem at_c (s : ByteArray) (i c : Nat) (j : Int) (hj : j = (i : Int)) (hc : gb s.data.toList i = c) (w : World) :
    Calls Tryz.prog 117 #[.string s, .int .i64 j] w fun e w' => e = .returned (.int .u64 c) ∧ w = w' := by
  subst hj; subst hc; exact at_any s i w

set_option maxRecDepth 100000 in
set_option maxHeartbeats 800000 in
theorem rsum_any (n : Nat) (hn : n < 18446744073709551616) (s : ByteArray) (hs : s.size ≤ 1000000000000000) (w : World) :
    Calls Tryz.prog 82 #[.int .u64 n, .string s] w fun e w' => e = .returned (.int .u64 (sumN n s.data.toList : Nat)) ∧ w = w' := by
  have hn0 : bits .and .u64 (n : Int) 4294967295 = (n : Int) % 4294967296 := and_low _ (by omega) (by omega)
  go_enter Tryz.func82, Tryz.ntmps82
  go_wp2
  go_loop [5, 6, 7] (fun a b i => ∃ k A B : Nat, k ≤ (s.size + 3) / 4 ∧ i = .int .i64 (4 * k : Nat) ∧ a = .int .u64 A ∧ b = .int .u64 B ∧ A < 4294967296 ∧ B < 4294967296 ∧ st (n / 4294967296) (n % 4294967296) s.data.toList k = (A, B)) (fun _ _ i => s.size + 4 - (intOf i).toNat)
  case atStart => exact ⟨0, n / 4294967296, n % 4294967296, Nat.zero_le _, rfl, by go_num, by go_num, by omega, by omega, rfl⟩
  case round =>
    obtain ⟨k, A, B, hk, rfl, rfl, rfl, hA, hB, hst⟩ := hrel
    have HS := hid hst
    clear hst
    by_cases hlt : 4 * k < s.size
    · obtain ⟨c0, g0, h0⟩ : ∃ c, gb s.data.toList (4 * k) = c ∧ c < 256 := ⟨_, rfl, gb_lt _ _⟩
      obtain ⟨c1, g1, h1⟩ : ∃ c, gb s.data.toList (4 * k + 1) = c ∧ c < 256 := ⟨_, rfl, gb_lt _ _⟩
      obtain ⟨c2, g2, h2⟩ : ∃ c, gb s.data.toList (4 * k + 2) = c ∧ c < 256 := ⟨_, rfl, gb_lt _ _⟩
      obtain ⟨c3, g3, h3⟩ : ∃ c, gb s.data.toList (4 * k + 3) = c ∧ c < 256 := ⟨_, rfl, gb_lt _ _⟩
      have o1 := or_g1 c0 c1 h0 h1
      have o2 := or_g2 c0 c1 c2 h0 h1 h2
      have o3 := or_g3 c0 c1 c2 c3 h0 h1 h2 h3
      have G0 := hid g0; have G1 := hid g1; have G2 := hid g2; have G3 := hid g3
      clear g0 g1 g2 g3
      go_wp2_with fail
      refine (at_c s (4 * k) c0 _ (by omega) G0.out _).mono ?_
      rintro e w1 ⟨rfl, rfl⟩
      go_wp2_with fail
      refine (at_c s (4 * k + 1) c1 _ (by omega) G1.out _).mono ?_
      rintro e w1 ⟨rfl, rfl⟩
      go_wp2_with fail
      refine (at_c s (4 * k + 2) c2 _ (by omega) G2.out _).mono ?_
      rintro e w1 ⟨rfl, rfl⟩
      go_wp2_with fail
      refine (at_c s (4 * k + 3) c3 _ (by omega) G3.out _).mono ?_
      rintro e w1 ⟨rfl, rfl⟩
      go_wp2_with fail
      go_round
      case rel =>
        have hx := grp_c G0.out G1.out G2.out G3.out
        exact ⟨k + 1, _, _, by omega, by go_num, congrArg (Value.int .u64) (upw_at A B _ _ _ hA hB hx), congrArg (Value.int .u64) (low_at A B _ _ _ hA hB hx), stA_lt _ _ _, stB_lt _ _ _, by rw [st, HS.out]⟩
      case measure => simp [intOf]; omega
    · go_wp2
      go_ret
      obtain rfl : k = (s.size + 3) / 4 := by omega
      have e : sumN n s.data.toList = A * 4294967296 + B := by
        have e1 : s.data.toList.length = s.size := by simp
        unfold sumN
        rw [e1, HS.out]
        rfl
      rw [e]
      exact ⟨Num.ret_u (or_two A B hA hB), rfl⟩

end Mix
end Go.Proofs.YtgmbiiocjhkpdaaGreat

/-
  The sum under a name that a walk leaves closed; what it does at joined texts, at noughts, at changed groups.
-/
namespace Go.Proofs.YtgmbiiocjhkpdaaGreat
open Go.RowKit
namespace Mix

/-- The sum: a name that the walk leaves closed. -/
def su (n : Nat) (s : ByteArray) : Nat := sumN n s.data.toList
theorem su_lt (n : Nat) (s : ByteArray) (hn : n < 18446744073709551616) : su n s < 18446744073709551616 := sumN_lt _ _ hn
theorem su_goes (n : Nat) (s t : ByteArray) (hn : n < 18446744073709551616) (h : s.size % 4 = 0) : su n (s ++ t) = su (su n s) t := by
  unfold su
  have e : (s ++ t).data.toList = s.data.toList ++ t.data.toList := by simp
  rw [e]
  exact sumN_goes n _ _ hn (by simpa using h)

theorem su_c (n : Nat) (s : ByteArray) (hn : n < 18446744073709551616) (hs : s.size ≤ 1000000000000000) (w : World) :
    Calls Tryz.prog 99 #[.int .u64 n, .string s] w fun e w' => e = .returned (.int .u64 (su n s)) ∧ Below w.heap.size w w' := sum_any n hn s hs w

/-- A text with j noughts behind it. -/
def pad (s : ByteArray) (j : Nat) : ByteArray := s ++ ⟨Array.replicate j 0⟩
theorem pad_zero (s : ByteArray) : pad s 0 = s := by unfold pad; exact ByteArray.append_empty
theorem pad_size (s : ByteArray) (j : Nat) : (pad s j).size = s.size + j := by
  unfold pad; rw [ByteArray.size_append]; congr 1; simp [ByteArray.size]
theorem pad_list (s : ByteArray) (j : Nat) : (pad s j).data.toList = s.data.toList ++ List.replicate j 0 := by unfold pad; simp
theorem pad_succ (s : ByteArray) (j : Nat) : pad s j ++ ⟨#[0]⟩ = pad s (j + 1) := by
  apply ByteArray.ext
  apply Array.ext'
  have e : (pad s j ++ ⟨#[0]⟩).data.toList = (pad s j).data.toList ++ [0] := by simp
  rw [e, pad_list, pad_list, List.replicate_succ', List.append_assoc]

theorem su_pad (n j : Nat) (s : ByteArray) (h : (s.size + j + 3) / 4 = (s.size + 3) / 4) : su n (pad s j) = su n s := by
  unfold su
  rw [pad_list]
  exact sumN_pad n j _ (by simpa using h)
def four : ByteArray := ⟨#[0, 0, 0, 0]⟩
theorem su_four (n : Nat) (hn : n < 18446744073709551616) : su n four = n ↔ n = 0 := by
  have h := sumN_nought n hn
  unfold su four
  simpa using h

end Mix
end Go.Proofs.YtgmbiiocjhkpdaaGreat
