/-
  Put together: SealMath, SealShelf, SealClose, SealRefClose, SealOpen, SealOpened, SealRefOpen, SealFull.
-/
import Derived.Test.YtgmbiiocjhkpdaaGreatGrpJNum
import Derived.Test.YtgmbiiocjhkpdaaGreatGrpJMix
import Derived.Test.YtgmbiiocjhkpdaaGreatProg
import Derived.Shelf.Pu.Clone
import Derived.Ground.MpProg
import Derived.Deep.QuietTactic
import Derived.BigQuiet
import Derived.Test.YtgmbiiocjhkpdaaGreatQuietTail
/-
  Plain mathematics of layer 4 (seal): the bytes of a sealed sector, what bytes say, there and back, that a changed group tells. No program in sight.
-/
namespace Go.Proofs.YtgmbiiocjhkpdaaGreat
namespace Seal
open Num (fixF unfF)
open Mix (sumN)

/-- The 248 bytes ahead of the sum; the whole sector. -/
def bodyL (K N S : Nat) (d : List UInt8) : List UInt8 := d ++ fixF 4 K ++ fixF 4 N ++ fixF 8 S
def sealL (K N S : Nat) (d : List UInt8) : List UInt8 := bodyL K N S d ++ fixF 8 (sumN 1 (bodyL K N S d))
/-- The number that the bytes from i on say, n of them. -/
def numAt (l : List UInt8) (i n : Nat) : Nat := unfF 0 ((l.drop i).take n)
/-- Whether a sector's sum is right. -/
def right (l : List UInt8) : Prop := numAt l 248 8 = sumN 1 (l.take 248)

theorem fix_unf (l : List UInt8) : fixF l.length (unfF 0 l) = l := by
  have key : ∀ r : List UInt8, fixF r.length (unfF 0 r.reverse) = r.reverse := by
    intro r
    induction r with
    | nil => rfl
    | cons b r ih =>
      have hb : b.toNat < 256 := b.toNat_lt
      rw [List.reverse_cons, Num.unfF_append, List.length_cons, fixF]
      have e1 : (unfF 0 r.reverse * 256 + b.toNat) / 256 = unfF 0 r.reverse := by omega
      have e2 : UInt8.ofNat (unfF 0 r.reverse * 256 + b.toNat) = b := by
        apply UInt8.toNat_inj.1
        rw [Num.ofNat_toNat]; omega
      rw [e1, e2, ih]
  have h := key l.reverse
  simpa using h

theorem unf_inj {l m : List UInt8} (h : l.length = m.length) (e : unfF 0 l = unfF 0 m) : l = m := by
  rw [← fix_unf l, ← fix_unf m, h, e]

theorem numAt_lt (l : List UInt8) (i n : Nat) : numAt l i n < 256 ^ n := by
  have h := Num.unfF_lt ((l.drop i).take n) 0
  have h2 : (256 : Nat) ^ ((l.drop i).take n).length ≤ 256 ^ n := Nat.pow_le_pow_right (by decide) (List.length_take_le _ _)
  unfold numAt
  omega

theorem body_len (K N S : Nat) (d : List UInt8) : (bodyL K N S d).length = d.length + 16 := by
  unfold bodyL; simp [Num.fixF_length]
theorem seal_len (K N S : Nat) (d : List UInt8) : (sealL K N S d).length = d.length + 24 := by
  unfold sealL; simp [Num.fixF_length, body_len]

theorem mid (a b c : List UInt8) (i n : Nat) (hi : a.length = i) (hn : b.length = n) : ((a ++ (b ++ c)).drop i).take n = b := by
  subst hi; subst hn; simp
theorem seal_take (K N S : Nat) (d : List UInt8) (hd : d.length = 232) : (sealL K N S d).take 232 = d := by
  unfold sealL bodyL; rw [List.append_assoc, List.append_assoc, List.append_assoc, ← hd]; simp
theorem seal_body (K N S : Nat) (d : List UInt8) (hd : d.length = 232) : (sealL K N S d).take 248 = bodyL K N S d := by
  unfold sealL
  have : (bodyL K N S d).length = 248 := by rw [body_len]; omega
  rw [← this]; simp
theorem seal_K (K N S : Nat) (d : List UInt8) (hd : d.length = 232) (hK : K < 4294967296) : numAt (sealL K N S d) 232 4 = K := by
  unfold numAt sealL bodyL
  rw [List.append_assoc, List.append_assoc, List.append_assoc, mid _ _ _ _ _ hd (Num.fixF_length 4 K), Num.unf_fix]
  exact Nat.mod_eq_of_lt hK
theorem seal_N (K N S : Nat) (d : List UInt8) (hd : d.length = 232) (hN : N < 4294967296) : numAt (sealL K N S d) 236 4 = N := by
  unfold numAt sealL bodyL
  rw [List.append_assoc, List.append_assoc, mid _ _ _ _ _ (by simp [Num.fixF_length, hd]) (Num.fixF_length 4 N), Num.unf_fix]
  exact Nat.mod_eq_of_lt hN
theorem seal_S (K N S : Nat) (d : List UInt8) (hd : d.length = 232) (hS : S < 18446744073709551616) : numAt (sealL K N S d) 240 8 = S := by
  unfold numAt sealL bodyL
  rw [List.append_assoc, mid _ _ _ _ _ (by simp [Num.fixF_length, hd]) (Num.fixF_length 8 S), Num.unf_fix]
  exact Nat.mod_eq_of_lt hS
theorem sum_lt (l : List UInt8) : sumN 1 l < 18446744073709551616 := Mix.sumN_lt 1 l (by decide)
theorem seal_sum (K N S : Nat) (d : List UInt8) (hd : d.length = 232) : numAt (sealL K N S d) 248 8 = sumN 1 (bodyL K N S d) := by
  unfold numAt sealL
  have e := mid (bodyL K N S d) (fixF 8 (sumN 1 (bodyL K N S d))) [] 248 8 (by rw [body_len]; omega) (Num.fixF_length _ _)
  rw [List.append_nil] at e
  rw [e, Num.unf_fix]
  exact Nat.mod_eq_of_lt (sum_lt _)
theorem seal_right (K N S : Nat) (d : List UInt8) (hd : d.length = 232) : right (sealL K N S d) := by
  unfold right; rw [seal_sum _ _ _ _ hd, seal_body _ _ _ _ hd]

theorem part_back (l : List UInt8) (i n : Nat) (h : i + n ≤ l.length) : fixF n (numAt l i n) = (l.drop i).take n := by
  unfold numAt
  have e : ((l.drop i).take n).length = n := by simp; omega
  have := fix_unf ((l.drop i).take n)
  rwa [e] at this

theorem cut_take (l : List UInt8) (i n : Nat) : l.take (i + n) = l.take i ++ (l.drop i).take n := List.take_add
/-- What a sealed sector says is sealed to it. -/
theorem back (l : List UInt8) (h : l.length = 256) (hr : right l) : sealL (numAt l 232 4) (numAt l 236 4) (numAt l 240 8) (l.take 232) = l := by
  have hb : bodyL (numAt l 232 4) (numAt l 236 4) (numAt l 240 8) (l.take 232) = l.take 248 := by
    unfold bodyL
    rw [part_back _ _ _ (by omega), part_back _ _ _ (by omega), part_back _ _ _ (by omega)]
    rw [← cut_take, ← cut_take, ← cut_take]
  unfold sealL
  rw [hb, ← hr, part_back _ _ _ (by omega), ← cut_take]
  exact List.take_of_length_le (by omega)

/-- A group that is changed: another sector, and none. -/
def turned (l g : List UInt8) (k : Nat) : List UInt8 := l.take k ++ g ++ l.drop (k + 4)
theorem turned_len (l g : List UInt8) (k : Nat) (hg : g.length = 4) (hk : k + 4 ≤ l.length) : (turned l g k).length = l.length := by
  unfold turned; simp; omega
theorem turned_drop (l g : List UInt8) (k : Nat) (hg : g.length = 4) (hk : k + 4 ≤ 248) (hl : l.length = 256) : (turned l g k).drop 248 = l.drop 248 := by
  unfold turned
  rw [List.drop_append, List.drop_append]
  have e1 : (l.take k).drop 248 = [] := List.drop_of_length_le (by simp; omega)
  have e2 : (l.take k).length = k := by simp; omega
  have e3 : g.drop (248 - k) = [] := List.drop_of_length_le (by omega)
  rw [e1, e2, e3, List.length_append, e2, hg, List.drop_drop, show k + 4 + (248 - (k + 4)) = 248 by omega]
  rfl
theorem turned_take (l g : List UInt8) (k : Nat) (hg : g.length = 4) (hk : k + 4 ≤ 248) (hl : l.length = 256) : (turned l g k).take 248 = l.take k ++ g ++ (l.drop (k + 4)).take (248 - (k + 4)) := by
  unfold turned
  rw [List.take_append]
  have e2 : (l.take k ++ g).length = k + 4 := by simp; omega
  rw [e2]
  congr 1
  exact List.take_of_length_le (by omega)
theorem turned_self (l : List UInt8) (k : Nat) (_hk : k + 4 ≤ l.length) : turned l ((l.drop k).take 4) k = l := by
  unfold turned
  rw [← cut_take, List.take_append_drop]

theorem tells (l g : List UInt8) (k : Nat) (hl : l.length = 256) (hr : right l) (hg : g.length = 4) (hk : k % 4 = 0) (hk2 : k + 4 ≤ 256) : right (turned l g k) ↔ turned l g k = l := by
  constructor
  · intro h
    suffices e : g = (l.drop k).take 4 by rw [e]; exact turned_self l k (by omega)
    have hlen : ((l.drop k).take 4).length = 4 := by simp; omega
    by_cases h4 : k + 4 ≤ 248
    · unfold right at h hr
      have e1 : numAt (turned l g k) 248 8 = numAt l 248 8 := by unfold numAt; rw [turned_drop l g k hg h4 hl]
      rw [e1, hr, turned_take l g k hg h4 hl] at h
      have e2 : l.take 248 = l.take k ++ (l.drop k).take 4 ++ (l.drop (k + 4)).take (248 - (k + 4)) := by
        have := turned_take l ((l.drop k).take 4) k hlen h4 hl
        rwa [turned_self l k (by omega)] at this
      rw [e2] at h
      have k1 : (l.take k).length % 4 = 0 := by simp; omega
      have k2 : ∀ r : List UInt8, r.length = 4 → (l.take k ++ r).length % 4 = 0 := by intro r h; simp; omega
      have s0 := Mix.sumN_lt 1 (l.take k) (by decide)
      rw [Mix.sumN_goes 1 _ _ (by decide) (k2 _ hlen), Mix.sumN_goes 1 _ _ (by decide) (k2 _ hg), Mix.sumN_goes 1 _ _ (by decide) k1, Mix.sumN_goes 1 _ _ (by decide) k1] at h
      have := Mix.sumN_inj _ (Mix.sumN_lt _ _ s0) (Mix.sumN_lt _ _ s0) h
      exact (Mix.sumN_inj4 s0 hlen hg this).symm
    · have k248 : 248 ≤ k := by omega
      unfold right at h hr
      have e1 : (turned l g k).take 248 = l.take 248 := by
        unfold turned
        rw [List.take_append, List.take_append, List.take_take, Nat.min_eq_left k248]
        have e2 : (l.take k).length = k := by simp; omega
        rw [e2, List.length_append, e2, show 248 - k = 0 by omega, show 248 - (k + g.length) = 0 by omega]
        simp
      rw [e1, ← hr] at h
      have e3 : ((turned l g k).drop 248).take 8 = (l.drop 248).take 8 := by
        refine unf_inj ?_ h
        simp [turned_len l g k hg (by omega)]
      have e4 : turned l g k = l := by
        rw [← List.take_append_drop 248 (turned l g k), e1]
        have a1 : ((turned l g k).drop 248).take 8 = (turned l g k).drop 248 := List.take_of_length_le (by simp [turned_len l g k hg (by omega)]; omega)
        have a2 : (l.drop 248).take 8 = l.drop 248 := List.take_of_length_le (by simp; omega)
        rw [← a1, e3, a2, List.take_append_drop]
      have e5 : ((turned l g k).drop k).take 4 = g := by
        unfold turned
        rw [List.append_assoc]
        exact mid _ _ _ _ _ (by simp; omega) hg
      rw [← e5, e4]
  · intro h; rw [h]; exact hr

end Seal
end Go.Proofs.YtgmbiiocjhkpdaaGreat

/-
  The library's contracts that this program's functions meet, laid in plain words.
-/
namespace Go.Proofs.YtgmbiiocjhkpdaaGreat
open Go.Shelf
namespace Seal
def Tryz.cloneL_ren : Go.Shelf.Ren := ⟨fun | 25 => 131 | n => n, fun | 9 => 9 | 3 => 3 | 4 => 4 | 37 => 99 | 0 => 0 | 47 => 174 | 5 => 5 | n => n, fun | n => n⟩
theorem Tryz.cloneL : Go.Proofs.LaysPu.n25 Tryz.prog Tryz.cloneL_ren := {
  mixed := by kernel_rfl
  f25 := Tryz.func131.trans (congrArg some (by kernel_rfl))
  t0 := Tryz.underlying0
  a0 := Tryz.isAgg0
  z0 := Tryz.sizeOf0
  v0 := Tryz.zeroValue0
  i0 := by kernel_rfl
  t3 := Tryz.underlying3
  a3 := Tryz.isAgg3
  z3 := Tryz.sizeOf3
  v3 := Tryz.zeroValue3
  i3 := by kernel_rfl
  t4 := Tryz.underlying4
  a4 := Tryz.isAgg4
  z4 := Tryz.sizeOf4
  v4 := Tryz.zeroValue4
  i4 := by kernel_rfl
  t5 := Tryz.underlying5
  a5 := Tryz.isAgg5
  z5 := Tryz.sizeOf5
  v5 := Tryz.zeroValue5
  i5 := by kernel_rfl
  t9 := Tryz.underlying9
  a9 := Tryz.isAgg9
  z9 := Tryz.sizeOf9
  v9 := Tryz.zeroValue9
  i9 := by kernel_rfl
  t37 := Tryz.underlying99
  a37 := Tryz.isAgg99
  z37 := Tryz.sizeOf99
  v37 := Tryz.zeroValue99
  i37 := by kernel_rfl
  t47 := Tryz.underlying174
  a47 := Tryz.isAgg174
  z47 := Tryz.sizeOf174
  v47 := Tryz.zeroValue174
  i47 := by kernel_rfl }
end Seal
end Go.Proofs.YtgmbiiocjhkpdaaGreat

/-
  Contracts of isWord and Close, the project's: what each call returns; the old memory stays.
-/
namespace Go.Proofs.YtgmbiiocjhkpdaaGreat
open Go.RowKit
namespace Seal
open Num (hid fixF unfF)
open Mix (su sumN)

/-- A region that draws its order and whose calls make memory alone: one walk of the text's order, every operation quiet in the class C. -/
theorem wp_region_quiet_in {P : Program} {id : Nat} {Q : Exit → Act → World → Prop} {a : Act} {w : World} {l : List Oper} (C : World → Prop) (hm : P.follows .mixedOrders = true) (hB : Region.lexB .any l.toArray = true) (hC : C w.drew)
    (h : wpQuiet P l.toArray C (fun a' => ∀ w', C w' → Q .normal a' w') l a) : (Code.region id l.toArray true).wp P Q a w :=
  wp_region_quiet (C := C) hm hB hC (by simpa using h)

theorem cell_at {w : World} {b : Nat} {cs : Array Value} {t : TypeId} {f : Nat × Nat} (h : w.heap[b]? = some (.cells cs t f)) (j : Nat) : w.cell? ⟨b, j, none⟩ = cs[j]? := by simp [World.cell?, h]

/-- The bytes of a number, n of them; the bytes of a sector ahead of its sum; the whole: names that a walk leaves closed. -/
def fx (n k : Nat) : ByteArray := ⟨(fixF n k).toArray⟩
def bodyS (K N S : Nat) (d : ByteArray) : ByteArray := d ++ fx 4 K ++ fx 4 N ++ fx 8 S
def sealS (K N S : Nat) (d : ByteArray) : ByteArray := bodyS K N S d ++ fx 8 (su 1 (bodyS K N S d))
theorem fx_list (n k : Nat) : (fx n k).data.toList = fixF n k := rfl
theorem fx_size (n k : Nat) : (fx n k).size = n := by show (fixF n k).toArray.size = n; simp [Num.fixF_length]
theorem bodyS_list (K N S : Nat) (d : ByteArray) : (bodyS K N S d).data.toList = bodyL K N S d.data.toList := by
  unfold bodyS bodyL; simp [fx]
theorem sealS_list (K N S : Nat) (d : ByteArray) : (sealS K N S d).data.toList = sealL K N S d.data.toList := by
  have e : (sealS K N S d).data.toList = (bodyS K N S d).data.toList ++ fixF 8 (su 1 (bodyS K N S d)) := by unfold sealS; simp [fx]
  rw [e, bodyS_list]; unfold sealL su; rw [bodyS_list]
theorem bodyS_size (K N S : Nat) (d : ByteArray) : (bodyS K N S d).size = d.size + 16 := by
  unfold bodyS; simp only [ByteArray.size_append, fx_size]
theorem sealS_size (K N S : Nat) (d : ByteArray) : (sealS K N S d).size = d.size + 24 := by
  unfold sealS; simp only [ByteArray.size_append, fx_size, bodyS_size]

theorem fixed4 (n : Nat) (hn : n < 18446744073709551616) (w : World) :
    Calls Tryz.prog 98 #[.int .u64 n, .int .i64 4] w fun e w' => e = .returned (.string (fx 4 n)) ∧ Below w.heap.size w w' :=
  (Num.fixed_any n hn 4 w).mono fun _ _ h => h
theorem fixed8 (n : Nat) (hn : n < 18446744073709551616) (w : World) :
    Calls Tryz.prog 98 #[.int .u64 n, .int .i64 8] w fun e w' => e = .returned (.string (fx 8 n)) ∧ Below w.heap.size w w' :=
  (Num.fixed_any n hn 8 w).mono fun _ _ h => h
theorem rfixed4 (n : Nat) (hn : n < 18446744073709551616) (w : World) :
    Calls Tryz.prog 81 #[.int .u64 n, .int .i64 4] w fun e w' => e = .returned (.string (fx 4 n)) ∧ Below w.heap.size w w' :=
  (Num.rfixed_any n hn 4 w).mono fun _ _ h => h
theorem rfixed8 (n : Nat) (hn : n < 18446744073709551616) (w : World) :
    Calls Tryz.prog 81 #[.int .u64 n, .int .i64 8] w fun e w' => e = .returned (.string (fx 8 n)) ∧ Below w.heap.size w w' :=
  (Num.rfixed_any n hn 8 w).mono fun _ _ h => h
theorem su_lt (s : ByteArray) : su 1 s < 18446744073709551616 := Mix.su_lt 1 s (by decide)
theorem sum1 (s : ByteArray) (hs : s.size ≤ 1000000000000000) (w : World) :
    Calls Tryz.prog 99 #[.int .u64 1, .string s] w fun e w' => e = .returned (.int .u64 (su 1 s)) ∧ Below w.heap.size w w' := Mix.su_c 1 s (by decide) hs w
theorem rsum1 (s : ByteArray) (hs : s.size ≤ 1000000000000000) (w : World) :
    Calls Tryz.prog 82 #[.int .u64 1, .string s] w fun e w' => e = .returned (.int .u64 (su 1 s)) ∧ w = w' :=
  (Mix.rsum_any 1 (by decide) s hs w).mono fun _ _ h => h

/-- Whether a number has room in four bytes. -/
def wordB (n : Int) : Bool := decide (0 ≤ n ∧ n ≤ 4294967295)
theorem word_yes {n : Int} (h : 0 ≤ n ∧ n ≤ 4294967295) : wordB n = true := decide_eq_true h
theorem word_no {n : Int} (h : ¬ (0 ≤ n ∧ n ≤ 4294967295)) : wordB n = false := decide_eq_false h

theorem isWord_yes (n : Int) (h0 : 0 ≤ n) (h1 : n ≤ 4294967295) (w : World) :
    Calls Tryz.prog 97 #[.int .i64 n] w fun e w' => e = .returned (.bool true) ∧ w = w' := by
  go_enter Tryz.func97, Tryz.ntmps97
  go_wp2
  go_ret
  exact ⟨rfl, rfl⟩
theorem isWord_no (n : Int) (h : ¬ (0 ≤ n ∧ n ≤ 4294967295)) (w : World) :
    Calls Tryz.prog 97 #[.int .i64 n] w fun e w' => e = .returned (.bool false) ∧ w = w' := by
  by_cases h0 : 0 ≤ n
  · have h1 : ¬ n ≤ 4294967295 := fun h1 => h ⟨h0, h1⟩
    clear h
    go_enter Tryz.func97, Tryz.ntmps97
    go_wp2
    go_ret
    exact ⟨rfl, rfl⟩
  · clear h
    go_enter Tryz.func97, Tryz.ntmps97
    go_wp2
    go_ret
    exact ⟨rfl, rfl⟩

/-- The struct that came in, boxed; the old memory. -/
structure Cls (w : World) (K N : Int) (S : Nat) (d : ByteArray) (wx : World) : Prop where
  held : wx.heap[w.heap.size]? = some (.cells #[.int .i64 K, .int .i64 N, .int .u64 S, .string d] 55 (0, 0))
  below : Below w.heap.size w wx
theorem Cls.on {w : World} {K N : Int} {S : Nat} {d : ByteArray} {wx wy : World} (h : Cls w K N S d wx) (hb : Below wx.heap.size wx wy) : Cls w K N S d wy :=
  ⟨(hb.block _ (lt_of_block h.held)).trans h.held, h.below.trans (hb.mono h.below.size)⟩
theorem Cls.drew {w : World} {K N : Int} {S : Nat} {d : ByteArray} {wx : World} (h : Cls w K N S d wx) : Cls w K N S d wx.drew := ⟨h.held, h.below.drew⟩
theorem cls_new (w : World) (K N : Int) (S : Nat) (d : ByteArray) : Cls w K N S d (w.alloc (.cells #[.int .i64 K, .int .i64 N, .int .u64 S, .string d] 55)) :=
  ⟨heap_alloc_new _ _, (Below.refl _ _).alloc (Nat.le_refl _) _⟩

theorem u64_nat (k : Nat) (h : k < 18446744073709551616) : IntKind.u64.wrap (k : Int) = (k : Int) := by rw [Num.wrap_u]; omega

set_option maxRecDepth 100000 in
set_option maxHeartbeats 1000000 in
theorem close_yes (K N S : Nat) (hK : K < 4294967296) (hN : N < 4294967296) (hS : S < 18446744073709551616) (d : ByteArray) (hd : d.size = 232) (w : World) :
    Calls Tryz.prog 58 #[.agg #[.int .i64 K, .int .i64 N, .int .u64 S, .string d]] w fun e w' => e = .returned (.tuple #[.string (sealS K N S d), .int .i64 0]) ∧ Below w.heap.size w w' := by
  have hK1 : (K : Int) ≤ 4294967295 := by omega
  have hN1 : (N : Int) ≤ 4294967295 := by omega
  have hd1 : ((d.size : Int) != 232) = false := by simp; omega
  have HD := hid hd
  have hK64 := hid (u64_nat K (by omega))
  have hN64 := hid (u64_nat N (by omega))
  have HK := hid hK
  have HN := hid hN
  have HS := hid hS
  clear hd hK hN hS
  go_enter Tryz.func58, Tryz.ntmps58
  go_wp2_with fail
  refine (isWord_yes _ (by omega) hK1 _).mono ?_
  rintro e w' ⟨rfl, rfl⟩
  go_wp2_with fail
  refine (isWord_yes _ (by omega) hN1 _).mono ?_
  rintro e w' ⟨rfl, rfl⟩
  go_wp2_with fail
  have z1 : ¬ 9223372036854775807 < d.size + (fx 4 K).size := by rw [fx_size, HD.out]; decide
  have z2 : ¬ 9223372036854775807 < d.size + (fx 4 K).size + (fx 4 N).size := by rw [fx_size, fx_size, HD.out]; decide
  have z3 : ¬ 9223372036854775807 < d.size + (fx 4 K).size + (fx 4 N).size + (fx 8 S).size := by rw [fx_size, fx_size, fx_size, HD.out]; decide
  have C0 := cls_new w K N S d
  refine wp_region_quiet_in (Cls w K N S d) (by kernel_rfl) (by kernel_rfl) C0.drew ?_
  go_big_quiet_want
  go_big_quiet_op
  apply Exists.intro
  refine ⟨fun _ _ => ?_, ?_⟩
  · with_reducible exact Eq.refl _
  go_big_quiet_on
  go_big_quiet_want
  go_big_quiet_op
  refine ⟨.string d, fun wx hx => ?_, ?_⟩
  · have c : wx.cell? ⟨w.heap.size, 3, none⟩ = some (.string d) := cell_at hx.held 3
    simp [go_sem, c]
  go_big_quiet_on
  go_big_quiet_want
  go_big_quiet_op
  apply Exists.intro
  refine ⟨fun _ _ => ?_, ?_⟩
  · with_reducible exact Eq.refl _
  go_big_quiet_on
  go_big_quiet_want
  go_big_quiet_op
  refine ⟨.int .i64 K, fun wx hx => ?_, ?_⟩
  · have c : wx.cell? ⟨w.heap.size, 0, none⟩ = some (.int .i64 K) := cell_at hx.held 0
    simp [go_sem, c]
  go_big_quiet_on
  go_big_quiet_want
  go_big_quiet_op
  apply Exists.intro
  refine ⟨fun _ _ => ?_, ?_⟩
  · with_reducible exact Eq.refl _
  go_big_quiet_on
  go_big_quiet_want
  go_big_quiet_op
  refine ⟨.string (fx 4 K), fun wx hx => ?_, ?_⟩
  · refine (fixed4 K (by have := HK.out; omega) _).mono ?_
    rintro e w3 ⟨rfl, hb3⟩
    exact ⟨rfl, hx.on hb3⟩
  go_big_quiet_on
  go_big_quiet_want
  go_big_quiet_op
  apply Exists.intro
  refine ⟨fun _ _ => ?_, ?_⟩
  · with_reducible exact Eq.refl _
  go_big_quiet_on
  go_big_quiet_want
  go_big_quiet_op
  apply Exists.intro
  refine ⟨fun _ _ => ?_, ?_⟩
  · with_reducible exact Eq.refl _
  go_big_quiet_on
  go_big_quiet_want
  go_big_quiet_op
  refine ⟨.int .i64 N, fun wx hx => ?_, ?_⟩
  · have c : wx.cell? ⟨w.heap.size, 1, none⟩ = some (.int .i64 N) := cell_at hx.held 1
    simp [go_sem, c]
  go_big_quiet_on
  go_big_quiet_want
  go_big_quiet_op
  apply Exists.intro
  refine ⟨fun _ _ => ?_, ?_⟩
  · with_reducible exact Eq.refl _
  go_big_quiet_on
  go_big_quiet_want
  go_big_quiet_op
  refine ⟨.string (fx 4 N), fun wx hx => ?_, ?_⟩
  · refine (fixed4 N (by have := HN.out; omega) _).mono ?_
    rintro e w3 ⟨rfl, hb3⟩
    exact ⟨rfl, hx.on hb3⟩
  go_big_quiet_on
  go_big_quiet_want
  go_big_quiet_op
  apply Exists.intro
  refine ⟨fun _ _ => ?_, ?_⟩
  · with_reducible exact Eq.refl _
  go_big_quiet_on
  go_big_quiet_want
  go_big_quiet_op
  apply Exists.intro
  refine ⟨fun _ _ => ?_, ?_⟩
  · with_reducible exact Eq.refl _
  go_big_quiet_on
  go_big_quiet_want
  go_big_quiet_op
  refine ⟨.int .u64 S, fun wx hx => ?_, ?_⟩
  · have c : wx.cell? ⟨w.heap.size, 2, none⟩ = some (.int .u64 S) := cell_at hx.held 2
    simp [go_sem, c]
  go_big_quiet_on
  go_big_quiet_want
  go_big_quiet_op
  refine ⟨.string (fx 8 S), fun wx hx => ?_, ?_⟩
  · refine (fixed8 S HS.out _).mono ?_
    rintro e w3 ⟨rfl, hb3⟩
    exact ⟨rfl, hx.on hb3⟩
  go_big_quiet_on
  go_big_quiet_want
  go_big_quiet_op
  apply Exists.intro
  refine ⟨fun _ _ => ?_, ?_⟩
  · with_reducible exact Eq.refl _
  go_big_quiet_on
  go_big_quiet_want
  go_big_quiet_op
  go_big_quiet_on
  refine wpQuiet_nil ?_
  intro w2 C2
  have B := C2.below
  clear C2 C0
  have hb : (bodyS K N S d).size ≤ 1000000000000000 := by rw [bodyS_size, HD.out]; decide
  have z4 : ¬ 9223372036854775807 < (bodyS K N S d).size + (fx 8 (su 1 (bodyS K N S d))).size := by rw [bodyS_size, fx_size, HD.out]; decide
  have hsu := hid (su_lt (bodyS K N S d))
  have eb : d ++ fx 4 K ++ fx 4 N ++ fx 8 S = bodyS K N S d := rfl
  rw [eb]
  clear z1 z2 z3
  go_wp2_with fail
  refine (sum1 _ hb _).mono ?_
  rintro e w3 ⟨rfl, hb3⟩
  go_wp2_with fail
  refine (fixed8 _ hsu.out _).mono ?_
  rintro e w4 ⟨rfl, hb4⟩
  go_wp2
  go_ret2
  exact ⟨rfl, (B.trans (hb3.mono B.size)).trans (hb4.mono (Nat.le_trans B.size hb3.size))⟩

/-- Whether a sector can be of these; what Close answers, and its error: names that a walk leaves closed. -/
def fitB (K N : Int) (d : ByteArray) : Bool := decide ((0 ≤ K ∧ K ≤ 4294967295) ∧ (0 ≤ N ∧ N ≤ 4294967295) ∧ d.size = 232)
def closeS (K N : Int) (S : Nat) (d : ByteArray) : ByteArray := if fitB K N d then sealS K.toNat N.toNat S d else ⟨#[]⟩
def closeE (K N : Int) (d : ByteArray) : Int := if fitB K N d then 0 else 1
theorem fit_not {K N : Int} {d : ByteArray} (h : ¬ ((0 ≤ K ∧ K ≤ 4294967295) ∧ (0 ≤ N ∧ N ≤ 4294967295) ∧ d.size = 232)) (S : Nat) : closeS K N S d = ⟨#[]⟩ ∧ closeE K N d = 1 := by
  have e : fitB K N d = false := decide_eq_false h
  unfold closeS closeE
  rw [e]
  exact ⟨rfl, rfl⟩
theorem fit_is (K N S : Nat) (d : ByteArray) (hK : K < 4294967296) (hN : N < 4294967296) (hd : d.size = 232) : closeS K N S d = sealS K N S d ∧ closeE K N d = 0 := by
  have e : fitB K N d = true := decide_eq_true ⟨⟨by omega, by omega⟩, ⟨by omega, by omega⟩, hd⟩
  unfold closeS closeE
  rw [e]
  exact ⟨rfl, rfl⟩

set_option maxRecDepth 100000 in
set_option maxHeartbeats 1000000 in
theorem close_no (K N : Int) (S : Nat) (d : ByteArray) (h : ¬ ((0 ≤ K ∧ K ≤ 4294967295) ∧ (0 ≤ N ∧ N ≤ 4294967295) ∧ d.size = 232)) (w : World) :
    Calls Tryz.prog 58 #[.agg #[.int .i64 K, .int .i64 N, .int .u64 S, .string d]] w fun e w' => e = .returned (.tuple #[.string ⟨#[]⟩, .int .i64 1]) ∧ Below w.heap.size w w' := by
  by_cases hK : 0 ≤ K ∧ K ≤ 4294967295
  · have HK := hid hK
    by_cases hN : 0 ≤ N ∧ N ≤ 4294967295
    · have hd : ((d.size : Int) != 232) = true := by simp; omega
      have HN := hid hN
      clear h hK hN
      go_enter Tryz.func58, Tryz.ntmps58
      go_wp2_with fail
      refine (isWord_yes _ HK.out.1 HK.out.2 _).mono ?_
      rintro e w' ⟨rfl, rfl⟩
      go_wp2_with fail
      refine (isWord_yes _ HN.out.1 HN.out.2 _).mono ?_
      rintro e w' ⟨rfl, rfl⟩
      go_wp2
      go_ret2
      exact ⟨rfl, (Below.refl _ _).alloc (Nat.le_refl _) _⟩
    · have HN := hid hN
      clear h hK hN
      go_enter Tryz.func58, Tryz.ntmps58
      go_wp2_with fail
      refine (isWord_yes _ HK.out.1 HK.out.2 _).mono ?_
      rintro e w' ⟨rfl, rfl⟩
      go_wp2_with fail
      refine (isWord_no _ HN.out _).mono ?_
      rintro e w' ⟨rfl, rfl⟩
      go_wp2
      go_ret2
      exact ⟨rfl, (Below.refl _ _).alloc (Nat.le_refl _) _⟩
  · have HK := hid hK
    clear h hK
    go_enter Tryz.func58, Tryz.ntmps58
    go_wp2_with fail
    refine (isWord_no _ HK.out _).mono ?_
    rintro e w' ⟨rfl, rfl⟩
    go_wp2
    go_ret2
    exact ⟨rfl, (Below.refl _ _).alloc (Nat.le_refl _) _⟩

theorem close_any (K N : Int) (S : Nat) (hS : S < 18446744073709551616) (d : ByteArray) (w : World) :
    Calls Tryz.prog 58 #[.agg #[.int .i64 K, .int .i64 N, .int .u64 S, .string d]] w fun e w' => e = .returned (.tuple #[.string (closeS K N S d), .int .i64 (closeE K N d)]) ∧ Below w.heap.size w w' := by
  by_cases h : (0 ≤ K ∧ K ≤ 4294967295) ∧ (0 ≤ N ∧ N ≤ 4294967295) ∧ d.size = 232
  · obtain ⟨k, rfl⟩ := Int.eq_ofNat_of_zero_le h.1.1
    obtain ⟨n, rfl⟩ := Int.eq_ofNat_of_zero_le h.2.1.1
    obtain ⟨e1, e2⟩ := fit_is k n S d (by omega) (by omega) h.2.2
    rw [e1, e2]
    exact close_yes k n S (by omega) (by omega) hS d h.2.2 w
  · obtain ⟨e1, e2⟩ := fit_not h S
    rw [e1, e2]
    exact close_no K N S d h w

end Seal
end Go.Proofs.YtgmbiiocjhkpdaaGreat

/-
  Contract of Close, the reference's: what each call returns; the old memory stays.
-/
namespace Go.Proofs.YtgmbiiocjhkpdaaGreat
open Go.RowKit
namespace Seal
open Num (hid fixF unfF)
open Mix (su sumN)

set_option maxRecDepth 100000 in
set_option maxHeartbeats 1000000 in
theorem rclose_yes (K N S : Nat) (hK : K < 4294967296) (hN : N < 4294967296) (hS : S < 18446744073709551616) (d : ByteArray) (hd : d.size = 232) (w : World) :
    Calls Tryz.prog 41 #[.agg #[.int .i64 K, .int .i64 N, .int .u64 S, .string d]] w fun e w' => e = .returned (.tuple #[.string (sealS K N S d), .int .i64 0]) ∧ Below w.heap.size w w' := by
  have hK1 : (K : Int) ≤ 4294967295 := by omega
  have hN1 : (N : Int) ≤ 4294967295 := by omega
  have hd1 : ((d.size : Int) != 232) = false := by simp; omega
  have HD := hid hd
  have hK64 := hid (u64_nat K (by omega))
  have hN64 := hid (u64_nat N (by omega))
  have HK := hid hK
  have HN := hid hN
  have HS := hid hS
  clear hd hK hN hS
  go_enter Tryz.func41, Tryz.ntmps41
  go_wp2_with fail
  have z1 : ¬ 9223372036854775807 < d.size + (fx 4 K).size := by rw [fx_size, HD.out]; decide
  have z2 : ¬ 9223372036854775807 < d.size + (fx 4 K).size + (fx 4 N).size := by rw [fx_size, fx_size, HD.out]; decide
  have z3 : ¬ 9223372036854775807 < d.size + (fx 4 K).size + (fx 4 N).size + (fx 8 S).size := by rw [fx_size, fx_size, fx_size, HD.out]; decide
  have C0 := cls_new w K N S d
  refine wp_region_quiet_in (Cls w K N S d) (by kernel_rfl) (by kernel_rfl) C0.drew ?_
  go_big_quiet_want
  go_big_quiet_op
  apply Exists.intro
  refine ⟨fun _ _ => ?_, ?_⟩
  · with_reducible exact Eq.refl _
  go_big_quiet_on
  go_big_quiet_want
  go_big_quiet_op
  refine ⟨.string d, fun wx hx => ?_, ?_⟩
  · have c : wx.cell? ⟨w.heap.size, 3, none⟩ = some (.string d) := cell_at hx.held 3
    simp [go_sem, c]
  go_big_quiet_on
  go_big_quiet_want
  go_big_quiet_op
  apply Exists.intro
  refine ⟨fun _ _ => ?_, ?_⟩
  · with_reducible exact Eq.refl _
  go_big_quiet_on
  go_big_quiet_want
  go_big_quiet_op
  refine ⟨.int .i64 K, fun wx hx => ?_, ?_⟩
  · have c : wx.cell? ⟨w.heap.size, 0, none⟩ = some (.int .i64 K) := cell_at hx.held 0
    simp [go_sem, c]
  go_big_quiet_on
  go_big_quiet_want
  go_big_quiet_op
  apply Exists.intro
  refine ⟨fun _ _ => ?_, ?_⟩
  · with_reducible exact Eq.refl _
  go_big_quiet_on
  go_big_quiet_want
  go_big_quiet_op
  refine ⟨.string (fx 4 K), fun wx hx => ?_, ?_⟩
  · refine (rfixed4 K (by have := HK.out; omega) _).mono ?_
    rintro e w3 ⟨rfl, hb3⟩
    exact ⟨rfl, hx.on hb3⟩
  go_big_quiet_on
  go_big_quiet_want
  go_big_quiet_op
  apply Exists.intro
  refine ⟨fun _ _ => ?_, ?_⟩
  · with_reducible exact Eq.refl _
  go_big_quiet_on
  go_big_quiet_want
  go_big_quiet_op
  apply Exists.intro
  refine ⟨fun _ _ => ?_, ?_⟩
  · with_reducible exact Eq.refl _
  go_big_quiet_on
  go_big_quiet_want
  go_big_quiet_op
  refine ⟨.int .i64 N, fun wx hx => ?_, ?_⟩
  · have c : wx.cell? ⟨w.heap.size, 1, none⟩ = some (.int .i64 N) := cell_at hx.held 1
    simp [go_sem, c]
  go_big_quiet_on
  go_big_quiet_want
  go_big_quiet_op
  apply Exists.intro
  refine ⟨fun _ _ => ?_, ?_⟩
  · with_reducible exact Eq.refl _
  go_big_quiet_on
  go_big_quiet_want
  go_big_quiet_op
  refine ⟨.string (fx 4 N), fun wx hx => ?_, ?_⟩
  · refine (rfixed4 N (by have := HN.out; omega) _).mono ?_
    rintro e w3 ⟨rfl, hb3⟩
    exact ⟨rfl, hx.on hb3⟩
  go_big_quiet_on
  go_big_quiet_want
  go_big_quiet_op
  apply Exists.intro
  refine ⟨fun _ _ => ?_, ?_⟩
  · with_reducible exact Eq.refl _
  go_big_quiet_on
  go_big_quiet_want
  go_big_quiet_op
  apply Exists.intro
  refine ⟨fun _ _ => ?_, ?_⟩
  · with_reducible exact Eq.refl _
  go_big_quiet_on
  go_big_quiet_want
  go_big_quiet_op
  refine ⟨.int .u64 S, fun wx hx => ?_, ?_⟩
  · have c : wx.cell? ⟨w.heap.size, 2, none⟩ = some (.int .u64 S) := cell_at hx.held 2
    simp [go_sem, c]
  go_big_quiet_on
  go_big_quiet_want
  go_big_quiet_op
  refine ⟨.string (fx 8 S), fun wx hx => ?_, ?_⟩
  · refine (rfixed8 S HS.out _).mono ?_
    rintro e w3 ⟨rfl, hb3⟩
    exact ⟨rfl, hx.on hb3⟩
  go_big_quiet_on
  go_big_quiet_want
  go_big_quiet_op
  apply Exists.intro
  refine ⟨fun _ _ => ?_, ?_⟩
  · with_reducible exact Eq.refl _
  go_big_quiet_on
  go_big_quiet_want
  go_big_quiet_op
  go_big_quiet_on
  refine wpQuiet_nil ?_
  intro w2 C2
  have B := C2.below
  clear C2 C0
  have hb : (bodyS K N S d).size ≤ 1000000000000000 := by rw [bodyS_size, HD.out]; decide
  have z4 : ¬ 9223372036854775807 < (bodyS K N S d).size + (fx 8 (su 1 (bodyS K N S d))).size := by rw [bodyS_size, fx_size, HD.out]; decide
  have hsu := hid (su_lt (bodyS K N S d))
  have eb : d ++ fx 4 K ++ fx 4 N ++ fx 8 S = bodyS K N S d := rfl
  rw [eb]
  clear z1 z2 z3
  go_wp2_with fail
  refine (rsum1 _ hb _).mono ?_
  rintro e w3 ⟨rfl, rfl⟩
  go_wp2_with fail
  refine (rfixed8 _ hsu.out _).mono ?_
  rintro e w4 ⟨rfl, hb4⟩
  go_wp2
  go_ret2
  exact ⟨rfl, B.trans (hb4.mono B.size)⟩

set_option maxRecDepth 100000 in
set_option maxHeartbeats 1000000 in
theorem rclose_no (K N : Int) (S : Nat) (d : ByteArray) (h : ¬ ((0 ≤ K ∧ K ≤ 4294967295) ∧ (0 ≤ N ∧ N ≤ 4294967295) ∧ d.size = 232)) (w : World) :
    Calls Tryz.prog 41 #[.agg #[.int .i64 K, .int .i64 N, .int .u64 S, .string d]] w fun e w' => e = .returned (.tuple #[.string ⟨#[]⟩, .int .i64 1]) ∧ Below w.heap.size w w' := by
  have ways : K < 0 ∨ (¬ K < 0 ∧ 4294967295 < K) ∨ (¬ K < 0 ∧ ¬ 4294967295 < K ∧ N < 0) ∨ (¬ K < 0 ∧ ¬ 4294967295 < K ∧ ¬ N < 0 ∧ 4294967295 < N) ∨ (¬ K < 0 ∧ ¬ 4294967295 < K ∧ ¬ N < 0 ∧ ¬ 4294967295 < N ∧ ((d.size : Int) != 232) = true) := by simp; omega
  clear h
  rcases ways with h1 | ⟨h1, h2⟩ | ⟨h1, h2, h3⟩ | ⟨h1, h2, h3, h4⟩ | ⟨h1, h2, h3, h4, h5⟩
  all_goals
    go_enter Tryz.func41, Tryz.ntmps41
    go_wp2
    go_ret2
    exact ⟨rfl, (Below.refl _ _).alloc (Nat.le_refl _) _⟩

theorem rclose_any (K N : Int) (S : Nat) (hS : S < 18446744073709551616) (d : ByteArray) (w : World) :
    Calls Tryz.prog 41 #[.agg #[.int .i64 K, .int .i64 N, .int .u64 S, .string d]] w fun e w' => e = .returned (.tuple #[.string (closeS K N S d), .int .i64 (closeE K N d)]) ∧ Below w.heap.size w w' := by
  by_cases h : (0 ≤ K ∧ K ≤ 4294967295) ∧ (0 ≤ N ∧ N ≤ 4294967295) ∧ d.size = 232
  · obtain ⟨k, rfl⟩ := Int.eq_ofNat_of_zero_le h.1.1
    obtain ⟨n, rfl⟩ := Int.eq_ofNat_of_zero_le h.2.1.1
    obtain ⟨e1, e2⟩ := fit_is k n S d (by omega) (by omega) h.2.2
    rw [e1, e2]
    exact rclose_yes k n S (by omega) (by omega) hS d h.2.2 w
  · obtain ⟨e1, e2⟩ := fit_not h S
    rw [e1, e2]
    exact rclose_no K N S d h w

end Seal
end Go.Proofs.YtgmbiiocjhkpdaaGreat

/-
  Contracts of number and Sum, the project's, and of the reference's Sum: what each call returns; the world stays. What Open answers, as plain functions.
-/
namespace Go.Proofs.YtgmbiiocjhkpdaaGreat
open Go.RowKit
namespace Seal
open Num (hid fixF unfF)
open Mix (su sumN)

/-- The number that the bytes from i to j of a sector say: a name that a walk leaves closed. -/
def part (s : ByteArray) (i j : Nat) : Nat := numAt s.data.toList i (j - i)
theorem part_is (s : ByteArray) (i j : Nat) (hi : i < j) (h8 : j ≤ i + 8) (hj : j ≤ s.size) : Num.unfixL (s.extract i j).data.toList = (part s i j, 0) := by
  have e : (s.extract i j).data.toList = (s.data.toList.drop i).take (j - i) := by
    simp [ByteArray.data_extract]
  unfold Num.unfixL part numAt
  rw [e, if_pos (by simp; omega)]
theorem part_lt (s : ByteArray) (i j : Nat) : part s i j < 256 ^ (j - i) := numAt_lt _ _ _

theorem number_at (s : ByteArray) (i j : Nat) (hi : i < j) (h8 : j ≤ i + 8) (hj : j ≤ s.size) (w : World) :
    Calls Tryz.prog 100 #[.string (s.extract i j)] w fun e w' => e = .returned (.int .u64 (part s i j)) ∧ w = w' := by
  have hu := Num.unfixed_any (s.extract i j)
  rw [part_is s i j hi h8 hj] at hu
  go_enter Tryz.func100, Tryz.ntmps100
  go_wp2_with fail
  refine (hu _).mono ?_
  rintro e w' ⟨rfl, rfl⟩
  go_wp2
  go_ret
  exact ⟨rfl, rfl⟩
theorem runfixed_at (s : ByteArray) (i j : Nat) (hi : i < j) (h8 : j ≤ i + 8) (hj : j ≤ s.size) (w : World) :
    Calls Tryz.prog 83 #[.string (s.extract i j)] w fun e w' => e = .returned (.tuple #[.int .u64 (part s i j), .int .i64 0]) ∧ w = w' := by
  have hu := Num.runfixed_any (s.extract i j) w
  rw [part_is s i j hi h8 hj] at hu
  exact hu.mono fun _ _ h => h

/-- Sum's answer. -/
def sumOf (s : ByteArray) : Nat := if s.size = 256 then part s 248 256 else 0
theorem sumOf_yes {s : ByteArray} (h : s.size = 256) : sumOf s = part s 248 256 := if_pos h
theorem sumOf_no {s : ByteArray} (h : ¬ s.size = 256) : sumOf s = 0 := if_neg h
theorem sumOf_lt (s : ByteArray) : sumOf s < 18446744073709551616 := by
  unfold sumOf
  split
  · exact part_lt s 248 256
  · decide

set_option maxHeartbeats 400000 in
theorem sum_any (s : ByteArray) (w : World) :
    Calls Tryz.prog 63 #[.string s] w fun e w' => e = .returned (.int .u64 (sumOf s)) ∧ w = w' := by
  by_cases h : s.size = 256
  · rw [sumOf_yes h]
    have hn := number_at s 248 256 (by decide) (by decide) (by omega)
    have ht : ((s.size : Int) != 256) = false := by simp; omega
    have hs : (248 : Int) ≤ (s.size : Int) := by omega
    have es : s.size = 256 := h
    have HS := hid h
    clear h es
    go_enter Tryz.func63, Tryz.ntmps63
    go_wp2_with fail
    rw [HS.out]
    refine (hn _).mono ?_
    rintro e w' ⟨rfl, rfl⟩
    go_wp2
    go_ret
    exact ⟨rfl, rfl⟩
  · rw [sumOf_no h]
    have ht : ((s.size : Int) != 256) = true := by simp; omega
    clear h
    go_enter Tryz.func63, Tryz.ntmps63
    go_wp2
    go_ret
    exact ⟨rfl, rfl⟩
set_option maxHeartbeats 400000 in
theorem rsum_any (s : ByteArray) (w : World) :
    Calls Tryz.prog 42 #[.string s] w fun e w' => e = .returned (.int .u64 (sumOf s)) ∧ w = w' := by
  by_cases h : s.size = 256
  · rw [sumOf_yes h]
    have hn := runfixed_at s 248 256 (by decide) (by decide) (by omega)
    have ht : ((s.size : Int) != 256) = false := by simp; omega
    have hs : (248 : Int) ≤ (s.size : Int) := by omega
    have HS := hid h
    clear h
    go_enter Tryz.func42, Tryz.ntmps42
    go_wp2_with fail
    rw [HS.out]
    refine (hn _).mono ?_
    rintro e w' ⟨rfl, rfl⟩
    go_wp2
    go_ret
    exact ⟨rfl, rfl⟩
  · rw [sumOf_no h]
    have ht : ((s.size : Int) != 256) = true := by simp; omega
    clear h
    go_enter Tryz.func42, Tryz.ntmps42
    go_wp2
    go_ret
    exact ⟨rfl, rfl⟩

/-- Whether bytes are a sealed sector; what Open answers. -/
instance (l : List UInt8) : Decidable (right l) := by unfold right; infer_instance
def rightB (s : ByteArray) : Bool := decide (s.size = 256 ∧ right s.data.toList)
def zeroV : Value := .agg #[.int .i64 0, .int .i64 0, .int .u64 0, .string ⟨#[]⟩]
def saysV (s : ByteArray) : Value := .agg #[.int .i64 (part s 232 236 : Nat), .int .i64 (part s 236 240 : Nat), .int .u64 (part s 240 248 : Nat), .string (s.extract 0 232)]
def openV (s : ByteArray) : Value := if rightB s then saysV s else zeroV
def openE (s : ByteArray) : Int := if s.size = 256 then (if rightB s then 0 else 20) else 1
theorem open_size {s : ByteArray} (h : ¬ s.size = 256) : openV s = zeroV ∧ openE s = 1 := by
  have e : rightB s = false := decide_eq_false (fun hh => h hh.1)
  unfold openV openE
  rw [e, if_neg h]
  exact ⟨rfl, rfl⟩
theorem open_seal {s : ByteArray} (h : s.size = 256) (hr : ¬ right s.data.toList) : openV s = zeroV ∧ openE s = 20 := by
  have e : rightB s = false := decide_eq_false (fun hh => hr hh.2)
  unfold openV openE
  rw [e, if_pos h]
  exact ⟨rfl, rfl⟩
theorem open_says {s : ByteArray} (h : s.size = 256) (hr : right s.data.toList) : openV s = saysV s ∧ openE s = 0 := by
  have e : rightB s = true := decide_eq_true ⟨h, hr⟩
  unfold openV openE
  rw [e, if_pos h]
  exact ⟨rfl, rfl⟩
theorem sum_of_right {s : ByteArray} : right s.data.toList ↔ part s 248 256 = su 1 (s.extract 0 248) := by
  unfold right part su
  have e : (s.extract 0 248).data.toList = s.data.toList.take 248 := by simp [ByteArray.data_extract]
  rw [e]

end Seal
end Go.Proofs.YtgmbiiocjhkpdaaGreat

/-
  Contracts of Open, the project's and the reference's: what each call returns; the old memory stays.
-/
namespace Go.Proofs.YtgmbiiocjhkpdaaGreat
open Go.RowKit
namespace Seal
open Num (hid fixF unfF)
open Mix (su sumN)

theorem liteClone (s : ByteArray) (hs : s.size ≤ 281474976710656) (w : World) :
    Calls Tryz.prog 131 #[.string s] w fun e w' => e = .returned (.string s) ∧ Below w.heap.size w w' :=
  AnyPu.stringslite_Clone Tryz.cloneL s w hs
theorem clone_any (s : ByteArray) (hs : s.size ≤ 281474976710656) (w : World) :
    Calls Tryz.prog 106 #[.string s] w fun e w' => e = .returned (.string s) ∧ Below w.heap.size w w' := by
  go_enter Tryz.func106, Tryz.ntmps106
  go_wp2_with fail
  refine (liteClone s hs _).mono ?_
  rintro e w1 ⟨rfl, hb⟩
  go_wp2
  go_ret
  exact ⟨rfl, hb⟩

theorem beq_nat (x y : Nat) : ((x : Int) == (y : Int)) = decide (x = y) := by
  by_cases h : x = y
  · subst h; simp
  · have : ((x : Int) == (y : Int)) = false := by simp; omega
    rw [this, decide_eq_false h]

set_option maxRecDepth 100000 in
set_option maxHeartbeats 1000000 in
theorem open_no (s : ByteArray) (h : ¬ s.size = 256) (w : World) :
    Calls Tryz.prog 68 #[.string s] w fun e w' => e = .returned (.tuple #[zeroV, .int .i64 1]) ∧ Below w.heap.size w w' := by
  have ht : ((s.size : Int) != 256) = true := by simp; omega
  clear h
  go_enter Tryz.func68, Tryz.ntmps68
  go_wp2
  exact bodyPost_ret (v := .tuple #[zeroV, .int .i64 1]) (by simp [results, zeroV, go_sem]) rfl ⟨rfl, (Below.refl _ _).alloc (Nat.le_refl _) _⟩


theorem bcell {W w1 : World} (hb : Below W.heap.size W w1) : (∀ b o, b < W.heap.size → w1.cell? ⟨b, o, none⟩ = W.cell? ⟨b, o, none⟩) ∧ (∀ b o, b < W.heap.size → w1.frozen? ⟨b, o, none⟩ = W.frozen? ⟨b, o, none⟩) :=
  ⟨fun b o h => hb.cell (p := ⟨b, o, none⟩) h, fun b o h => hb.frozen (p := ⟨b, o, none⟩) h⟩

set_option maxRecDepth 100000 in
set_option maxHeartbeats 1000000 in
theorem open_bad (s : ByteArray) (h : s.size = 256) (hr : ¬ right s.data.toList) (w : World) :
    Calls Tryz.prog 68 #[.string s] w fun e w' => e = .returned (.tuple #[zeroV, .int .i64 20]) ∧ Below w.heap.size w w' := by
  have ht : ((s.size : Int) != 256) = false := by simp; omega
  have hs : (248 : Int) ≤ (s.size : Int) := by omega
  have hne : (((su 1 (s.extract 0 248) : Nat) : Int) != ((sumOf s : Nat) : Int)) = true := by
    rw [sumOf_yes h]
    have := mt sum_of_right.2 hr
    simp; omega
  have hq : (s.extract 0 248).size ≤ 1000000000000000 := by simp; omega
  clear h hr
  go_enter Tryz.func68, Tryz.ntmps68
  go_wp2_with fail
  refine (sum1 _ hq _).mono ?_
  rintro e w1 ⟨rfl, hb1⟩
  obtain ⟨hc, hf⟩ := bcell hb1
  go_wp2_with fail
  refine (sum_any _ _).mono ?_
  rintro e w' ⟨rfl, rfl⟩
  go_wp2
  have B : Below w.heap.size w w1 := ((Below.refl _ _).alloc (Nat.le_refl _) _).trans (hb1.mono (by simp))
  exact bodyPost_ret (v := .tuple #[zeroV, .int .i64 20]) (by simp [results, zeroV, go_sem, hc]) rfl ⟨rfl, (((B.setCell (Nat.le_refl _) _).setCell (Nat.le_refl _) _).setCell (Nat.le_refl _) _).setCell (Nat.le_refl _) _⟩

theorem blk_free {w : World} {b : Nat} {c : Array Value} {t : TypeId} (h : w.heap[b]? = some (.cells c t (0, 0))) (i : Nat) : w.frozen? ⟨b, i, none⟩ = false := by simp [World.frozen?, h]
theorem nought {w wx : World} (C : Cls w 0 0 0 ⟨#[]⟩ wx) : wx.cell? ⟨w.heap.size, 0, none⟩ = some (.int .i64 0) ∧ wx.cell? ⟨w.heap.size, 1, none⟩ = some (.int .i64 0) ∧ wx.cell? ⟨w.heap.size, 2, none⟩ = some (.int .u64 0) ∧ wx.cell? ⟨w.heap.size, 3, none⟩ = some (.string ⟨#[]⟩) ∧
    wx.frozen? ⟨w.heap.size, 0, none⟩ = false ∧ wx.frozen? ⟨w.heap.size, 1, none⟩ = false ∧ wx.frozen? ⟨w.heap.size, 2, none⟩ = false ∧ wx.frozen? ⟨w.heap.size, 3, none⟩ = false ∧ w.heap.size < wx.heap.size :=
  ⟨cell_at C.held 0, cell_at C.held 1, cell_at C.held 2, cell_at C.held 3, blk_free C.held 0, blk_free C.held 1, blk_free C.held 2, blk_free C.held 3, lt_of_block C.held⟩

set_option maxRecDepth 100000 in
set_option maxHeartbeats 1000000 in
theorem open_good (s : ByteArray) (h : s.size = 256) (hr : right s.data.toList) (w : World) :
    Calls Tryz.prog 68 #[.string s] w fun e w' => e = .returned (.tuple #[saysV s, .int .i64 0]) ∧ Below w.heap.size w w' := by
  have ht : ((s.size : Int) != 256) = false := by simp; omega
  have hs : (248 : Int) ≤ (s.size : Int) := by omega
  have hne : (((su 1 (s.extract 0 248) : Nat) : Int) != ((sumOf s : Nat) : Int)) = false := by
    rw [sumOf_yes h]
    have := sum_of_right.1 hr
    simp; omega
  have hq : (s.extract 0 248).size ≤ 1000000000000000 := by simp; omega
  have hq2 : (s.extract 0 232).size ≤ 281474976710656 := by simp; omega
  have b1 := part_lt s 232 236
  have b2 := part_lt s 236 240
  have c1 : ((part s 232 236 : Nat) : Int) ≤ 4294967295 := by omega
  have c2 : ((part s 236 240 : Nat) : Int) ≤ 4294967295 := by omega
  have h256 : 256 ≤ s.size := by omega
  clear h hr b1 b2
  go_enter Tryz.func68, Tryz.ntmps68
  go_wp2_with fail
  refine (sum1 _ hq _).mono ?_
  rintro e w1 ⟨rfl, hb1⟩
  have C1 : Cls w 0 0 0 ⟨#[]⟩ w1 := (cls_new w 0 0 0 ⟨#[]⟩).on hb1
  clear hb1
  go_wp2_with fail
  refine (sum_any _ _).mono ?_
  rintro e w' ⟨rfl, rfl⟩
  go_wp2_with fail
  refine Tail.wp_region_quiet_tail 15 (Cls w 0 0 0 ⟨#[]⟩) (by kernel_rfl) (by kernel_rfl) C1.drew ?_
  simp only [List.take_succ_cons, List.take_zero, List.drop_succ_cons, List.drop_zero]
  go_big_quiet_want
  go_big_quiet_op
  go_big_quiet_on
  go_big_quiet_want
  go_big_quiet_op
  apply Exists.intro
  refine ⟨fun _ _ => ?_, ?_⟩
  · with_reducible exact Eq.refl _
  go_big_quiet_on
  go_big_quiet_want
  go_big_quiet_op
  refine ⟨.int .u64 (part s 232 236 : Nat), fun wx hx => ?_, ?_⟩
  · refine (number_at s 232 236 (by decide) (by decide) (by omega) _).mono ?_
    rintro e w3 ⟨rfl, rfl⟩
    exact ⟨rfl, hx⟩
  go_big_quiet_on
  go_big_quiet_want
  go_big_quiet_op
  apply Exists.intro
  refine ⟨fun _ _ => ?_, ?_⟩
  · with_reducible exact Eq.refl _
  go_big_quiet_on
  go_big_quiet_want
  go_big_quiet_op
  go_big_quiet_on
  go_big_quiet_want
  go_big_quiet_op
  apply Exists.intro
  refine ⟨fun _ _ => ?_, ?_⟩
  · with_reducible exact Eq.refl _
  go_big_quiet_on
  go_big_quiet_want
  go_big_quiet_op
  refine ⟨.int .u64 (part s 236 240 : Nat), fun wx hx => ?_, ?_⟩
  · refine (number_at s 236 240 (by decide) (by decide) (by omega) _).mono ?_
    rintro e w3 ⟨rfl, rfl⟩
    exact ⟨rfl, hx⟩
  go_big_quiet_on
  go_big_quiet_want
  go_big_quiet_op
  apply Exists.intro
  refine ⟨fun _ _ => ?_, ?_⟩
  · with_reducible exact Eq.refl _
  go_big_quiet_on
  go_big_quiet_want
  go_big_quiet_op
  go_big_quiet_on
  go_big_quiet_want
  go_big_quiet_op
  apply Exists.intro
  refine ⟨fun _ _ => ?_, ?_⟩
  · with_reducible exact Eq.refl _
  go_big_quiet_on
  go_big_quiet_want
  go_big_quiet_op
  refine ⟨.int .u64 (part s 240 248 : Nat), fun wx hx => ?_, ?_⟩
  · refine (number_at s 240 248 (by decide) (by decide) (by omega) _).mono ?_
    rintro e w3 ⟨rfl, rfl⟩
    exact ⟨rfl, hx⟩
  go_big_quiet_on
  go_big_quiet_want
  go_big_quiet_op
  go_big_quiet_on
  go_big_quiet_want
  go_big_quiet_op
  apply Exists.intro
  refine ⟨fun _ _ => ?_, ?_⟩
  · with_reducible exact Eq.refl _
  go_big_quiet_on
  go_big_quiet_want
  go_big_quiet_op
  refine ⟨.string (s.extract 0 232), fun wx hx => ?_, ?_⟩
  · refine (clone_any _ hq2 _).mono ?_
    rintro e w3 ⟨rfl, hb3⟩
    exact ⟨rfl, hx.on hb3⟩
  go_big_quiet_on
  go_big_quiet_want
  go_big_quiet_op
  apply Exists.intro
  refine ⟨fun _ _ => ?_, ?_⟩
  · with_reducible exact Eq.refl _
  go_big_quiet_on
  refine wpQuiet_nil ?_
  intro w2 C2
  obtain ⟨k0, k1, k2, k3, z0, z1, z2, z3, zs⟩ := nought C2
  have B := C2.below
  clear C1 C2
  go_wp2
  exact bodyPost_ret (v := .tuple #[saysV s, .int .i64 0]) (by simp [results, saysV, go_sem, k0, k1, k2, k3]) rfl ⟨rfl, (((B.setCell (Nat.le_refl _) _).setCell (Nat.le_refl _) _).setCell (Nat.le_refl _) _).setCell (Nat.le_refl _) _⟩

theorem open_any (s : ByteArray) (w : World) :
    Calls Tryz.prog 68 #[.string s] w fun e w' => e = .returned (.tuple #[openV s, .int .i64 (openE s)]) ∧ Below w.heap.size w w' := by
  by_cases h : s.size = 256
  · by_cases hr : right s.data.toList
    · obtain ⟨e1, e2⟩ := open_says h hr
      rw [e1, e2]
      exact open_good s h hr w
    · obtain ⟨e1, e2⟩ := open_seal h hr
      rw [e1, e2]
      exact open_bad s h hr w
  · obtain ⟨e1, e2⟩ := open_size h
    rw [e1, e2]
    exact open_no s h w

end Seal
end Go.Proofs.YtgmbiiocjhkpdaaGreat

/-
  Contract of Open, the reference's: what each call returns; the old memory stays.
-/
namespace Go.Proofs.YtgmbiiocjhkpdaaGreat
open Go.RowKit
namespace Seal
open Num (hid fixF unfF)
open Mix (su sumN)

set_option maxRecDepth 100000 in
set_option maxHeartbeats 1000000 in
theorem ropen_no (s : ByteArray) (h : ¬ s.size = 256) (w : World) :
    Calls Tryz.prog 53 #[.string s] w fun e w' => e = .returned (.tuple #[zeroV, .int .i64 1]) ∧ Below w.heap.size w w' := by
  have ht : ((s.size : Int) != 256) = true := by simp; omega
  clear h
  go_enter Tryz.func53, Tryz.ntmps53
  go_wp2
  exact bodyPost_ret (v := .tuple #[zeroV, .int .i64 1]) (by simp [results, zeroV, go_sem]) rfl ⟨rfl, (Below.refl _ _).alloc (Nat.le_refl _) _⟩

set_option maxRecDepth 100000 in
set_option maxHeartbeats 1000000 in
theorem ropen_bad (s : ByteArray) (h : s.size = 256) (hr : ¬ right s.data.toList) (w : World) :
    Calls Tryz.prog 53 #[.string s] w fun e w' => e = .returned (.tuple #[zeroV, .int .i64 20]) ∧ Below w.heap.size w w' := by
  have ht : ((s.size : Int) != 256) = false := by simp; omega
  have hs : (248 : Int) ≤ (s.size : Int) := by omega
  have hne : (((sumOf s : Nat) : Int) != ((su 1 (s.extract 0 248) : Nat) : Int)) = true := by
    rw [sumOf_yes h]
    have := mt sum_of_right.2 hr
    simp; omega
  have hq : (s.extract 0 248).size ≤ 1000000000000000 := by simp; omega
  clear h hr
  go_enter Tryz.func53, Tryz.ntmps53
  go_wp2_with fail
  refine wp_region_quiet_in (Cls w 0 0 0 ⟨#[]⟩) (by kernel_rfl) (by kernel_rfl) (cls_new w 0 0 0 ⟨#[]⟩).drew ?_
  go_big_quiet_want
  go_big_quiet_op
  go_big_quiet_on
  go_big_quiet_want
  go_big_quiet_op
  refine ⟨.int .u64 (sumOf s), fun wx hx => ?_, ?_⟩
  · refine (rsum_any _ _).mono ?_
    rintro e w3 ⟨rfl, rfl⟩
    exact ⟨rfl, hx⟩
  go_big_quiet_on
  go_big_quiet_want
  go_big_quiet_op
  go_big_quiet_on
  go_big_quiet_want
  go_big_quiet_op
  apply Exists.intro
  refine ⟨fun _ _ => ?_, ?_⟩
  · with_reducible exact Eq.refl _
  go_big_quiet_on
  go_big_quiet_want
  go_big_quiet_op
  refine ⟨.int .u64 (su 1 (s.extract 0 248)), fun wx hx => ?_, ?_⟩
  · refine (rsum1 _ hq _).mono ?_
    rintro e w3 ⟨rfl, rfl⟩
    exact ⟨rfl, hx⟩
  go_big_quiet_on
  go_big_quiet_want
  go_big_quiet_op
  apply Exists.intro
  refine ⟨fun _ _ => ?_, ?_⟩
  · with_reducible exact Eq.refl _
  go_big_quiet_on
  refine wpQuiet_nil ?_
  intro w2 C2
  obtain ⟨k0, k1, k2, k3, z0, z1, z2, z3, zs⟩ := nought C2
  have B := C2.below
  clear C2
  go_wp2
  exact bodyPost_ret (v := .tuple #[zeroV, .int .i64 20]) (by simp [results, zeroV, go_sem, k0, k1, k2, k3]) rfl ⟨rfl, (((B.setCell (Nat.le_refl _) _).setCell (Nat.le_refl _) _).setCell (Nat.le_refl _) _).setCell (Nat.le_refl _) _⟩

set_option maxRecDepth 100000 in
set_option maxHeartbeats 1000000 in
theorem ropen_good (s : ByteArray) (h : s.size = 256) (hr : right s.data.toList) (w : World) :
    Calls Tryz.prog 53 #[.string s] w fun e w' => e = .returned (.tuple #[saysV s, .int .i64 0]) ∧ Below w.heap.size w w' := by
  have ht : ((s.size : Int) != 256) = false := by simp; omega
  have hs : (248 : Int) ≤ (s.size : Int) := by omega
  have hne : (((sumOf s : Nat) : Int) != ((su 1 (s.extract 0 248) : Nat) : Int)) = false := by
    rw [sumOf_yes h]
    have := sum_of_right.1 hr
    simp; omega
  have hq : (s.extract 0 248).size ≤ 1000000000000000 := by simp; omega
  have b1 := part_lt s 232 236
  have b2 := part_lt s 236 240
  have c1 : ((part s 232 236 : Nat) : Int) ≤ 4294967295 := by omega
  have c2 : ((part s 236 240 : Nat) : Int) ≤ 4294967295 := by omega
  have h256 : 256 ≤ s.size := by omega
  clear h hr b1 b2
  go_enter Tryz.func53, Tryz.ntmps53
  go_wp2_with fail
  refine wp_region_quiet_in (Cls w 0 0 0 ⟨#[]⟩) (by kernel_rfl) (by kernel_rfl) (cls_new w 0 0 0 ⟨#[]⟩).drew ?_
  go_big_quiet_want
  go_big_quiet_op
  go_big_quiet_on
  go_big_quiet_want
  go_big_quiet_op
  refine ⟨.int .u64 (sumOf s), fun wx hx => ?_, ?_⟩
  · refine (rsum_any _ _).mono ?_
    rintro e w3 ⟨rfl, rfl⟩
    exact ⟨rfl, hx⟩
  go_big_quiet_on
  go_big_quiet_want
  go_big_quiet_op
  go_big_quiet_on
  go_big_quiet_want
  go_big_quiet_op
  apply Exists.intro
  refine ⟨fun _ _ => ?_, ?_⟩
  · with_reducible exact Eq.refl _
  go_big_quiet_on
  go_big_quiet_want
  go_big_quiet_op
  refine ⟨.int .u64 (su 1 (s.extract 0 248)), fun wx hx => ?_, ?_⟩
  · refine (rsum1 _ hq _).mono ?_
    rintro e w3 ⟨rfl, rfl⟩
    exact ⟨rfl, hx⟩
  go_big_quiet_on
  go_big_quiet_want
  go_big_quiet_op
  apply Exists.intro
  refine ⟨fun _ _ => ?_, ?_⟩
  · with_reducible exact Eq.refl _
  go_big_quiet_on
  refine wpQuiet_nil ?_
  intro w2 C2
  obtain ⟨k0, k1, k2, k3, z0, z1, z2, z3, zs⟩ := nought C2
  have B := C2.below
  clear C2
  go_wp2_with fail
  refine (runfixed_at s 232 236 (by decide) (by decide) (by omega) _).mono ?_
  rintro e w' ⟨rfl, rfl⟩
  go_wp2_with fail
  refine (runfixed_at s 236 240 (by decide) (by decide) (by omega) _).mono ?_
  rintro e w' ⟨rfl, rfl⟩
  go_wp2_with fail
  refine (runfixed_at s 240 248 (by decide) (by decide) (by omega) _).mono ?_
  rintro e w' ⟨rfl, rfl⟩
  go_wp2
  exact bodyPost_ret (v := .tuple #[saysV s, .int .i64 0]) (by simp [results, saysV, go_sem, k0, k1, k2, k3]) rfl ⟨rfl, (((B.setCell (Nat.le_refl _) _).setCell (Nat.le_refl _) _).setCell (Nat.le_refl _) _).setCell (Nat.le_refl _) _⟩

theorem ropen_any (s : ByteArray) (w : World) :
    Calls Tryz.prog 53 #[.string s] w fun e w' => e = .returned (.tuple #[openV s, .int .i64 (openE s)]) ∧ Below w.heap.size w w' := by
  by_cases h : s.size = 256
  · by_cases hr : right s.data.toList
    · obtain ⟨e1, e2⟩ := open_says h hr
      rw [e1, e2]
      exact ropen_good s h hr w
    · obtain ⟨e1, e2⟩ := open_seal h hr
      rw [e1, e2]
      exact ropen_bad s h hr w
  · obtain ⟨e1, e2⟩ := open_size h
    rw [e1, e2]
    exact ropen_no s h w

end Seal
end Go.Proofs.YtgmbiiocjhkpdaaGreat

/-
  Contract of Full: the bytes of a page; the old memory stays. And of the statements' own awake: it answers true.
-/
namespace Go.Proofs.YtgmbiiocjhkpdaaGreat
open Go.RowKit
namespace Seal
open Num (hid fixF unfF bcells)
open Mix (su sumN)

def zerosL (n : Nat) : List UInt8 := List.replicate n 0
def zerosS (n : Nat) : ByteArray := ⟨(zerosL n).toArray⟩
theorem zerosS_size (n : Nat) : (zerosS n).size = n := by show (zerosL n).toArray.size = n; simp [zerosL]
/-- A made row of noughts. -/
theorem make_row (w : World) (n : Nat) (hn : n ≤ 1000000) : ∃ w', (Instr.makeSlice 99 (.int .i64 (n : Int)) (.int .i64 (n : Int))).run Tryz.prog w = .ok (.slice (some ⟨w.heap.size, 0, none⟩) n n) w' ∧
    w'.ownsRow w.heap.size 5 1 (.slice (some ⟨w.heap.size, 0, none⟩) n n) n (bcells (zerosL n)) ∧ Below w.heap.size w w' := by
  obtain ⟨i, hi, h0, h1, h2⟩ := info_parts Num.Tryz.info5
  obtain ⟨w', hr, ho, hg⟩ := run_make_full (P := Tryz.prog) w w.heap.size 99 5 i _ 1 Tryz.underlying99 hi h0 h1 .i64 .i64 n (by rw [h2]; omega) (by unfold maxLen; omega) (Nat.le_refl _)
  rw [Nat.mul_one] at ho
  have hz := Num.made_zero ho
  rw [List.append_nil] at hz
  exact ⟨w', hr, hz, (Below.refl _ w).grown hg (Nat.le_refl _) (fun k hk => by cases hk)⟩
/-- string(make([]byte, n)) in two steps. -/
theorem make_conv (w : World) (n : Nat) (h1 : 1 ≤ n) (hn : n ≤ 1000000) : ∃ w', (Instr.makeSlice 99 (.int .i64 (n : Int)) (.int .i64 (n : Int))).run Tryz.prog w = .ok (.slice (some ⟨w.heap.size, 0, none⟩) n n) w' ∧
    (convert 99 9 (.slice (some ⟨w.heap.size, 0, none⟩) n n)).run Tryz.prog w' = .ok (.string (zerosS n)) w' ∧ Below w.heap.size w w' := by
  obtain ⟨w', hr, ho, hb⟩ := make_row w n hn
  exact ⟨w', hr, Num.conv_own (P := Tryz.prog) (l := zerosL n) (n := n) 99 9 5 Tryz.underlying99 Tryz.underlying5 Tryz.underlying9 (by simp [zerosL]) (by simp [zerosL]; omega) ho, hb⟩

def full (s : ByteArray) : ByteArray := if 232 ≤ s.size then s.extract 0 232 else s ++ zerosS (232 - s.size)
theorem full_size (s : ByteArray) : (full s).size = 232 := by
  unfold full
  split
  · rename_i h; rw [ByteArray.size_extract]; omega
  · rename_i h; rw [ByteArray.size_append, zerosS_size]; omega

set_option maxRecDepth 100000 in
set_option maxHeartbeats 400000 in
theorem full_any (s : ByteArray) (w : World) :
    Calls Tryz.prog 40 #[.string s] w fun e w' => e = .returned (.string (full s)) ∧ Below w.heap.size w w' := by
  by_cases h : 232 ≤ s.size
  · have hf : full s = s.extract 0 232 := if_pos h
    rw [hf]
    have h1 : (232 : Int) ≤ (s.size : Int) := by omega
    have h2 : 232 ≤ s.size := h
    clear h hf
    go_enter Tryz.func40, Tryz.ntmps40
    go_wp2
    go_ret
    exact ⟨rfl, Below.refl _ _⟩
  · have hf : full s = s ++ zerosS (232 - s.size) := if_neg h
    rw [hf]
    have h1 : ¬ (232 : Int) ≤ (s.size : Int) := by omega
    obtain ⟨w1, hmk, hcv, hb⟩ := make_conv w (232 - s.size) (by omega) (by omega)
    have e : (((232 - s.size : Nat) : Int)) = 232 - (s.size : Int) := by omega
    rw [e] at hmk
    have hz : ¬ 9223372036854775807 < s.size + (zerosS (232 - s.size)).size := by rw [zerosS_size]; omega
    clear h hf e
    go_enter Tryz.func40, Tryz.ntmps40
    go_wp2
    go_ret
    exact ⟨rfl, hb⟩

end Seal
end Go.Proofs.YtgmbiiocjhkpdaaGreat
