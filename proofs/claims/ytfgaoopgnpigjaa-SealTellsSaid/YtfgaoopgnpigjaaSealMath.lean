/-
  Plain mathematics of layer 4 (seal): the bytes of a sealed sector, what bytes say, there and back, that a changed group tells. No program in sight.
-/
import Derived.Test.YtfgaoopgnpigjaaNumMath
import Derived.Test.YtfgaoopgnpigjaaMixMath
namespace Go.Proofs.Ytfgaoopgnpigjaa
namespace Seal
open Num (fixF unfF)
open Mix (sumN)

/-- The 248 bytes ahead of the sum; the whole sector. -/
def bodyL (K N S : Nat) (d : List UInt8) : List UInt8 := d ++ fixF 4 K ++ fixF 4 N ++ fixF 8 S
def sealL (K N S : Nat) (d : List UInt8) : List UInt8 := bodyL K N S d ++ fixF 8 (sumN 1 (bodyL K N S d))
/-- The number that the bytes from i on say, n of them. -/
def numAt (l : List UInt8) (i n : Nat) : Nat := unfF 0 ((l.drop i).take n)
/-- Whether a sector's sum is right. -/
def right (l : List UInt8) : Prop := numAt l 248 8 = sumN 1 (l.take 248)

theorem fix_unf (l : List UInt8) : fixF l.length (unfF 0 l) = l := by
  have key : ∀ r : List UInt8, fixF r.length (unfF 0 r.reverse) = r.reverse := by
    intro r
    induction r with
    | nil => rfl
    | cons b r ih =>
      have hb : b.toNat < 256 := b.toNat_lt
      rw [List.reverse_cons, Num.unfF_append, List.length_cons, fixF]
      have e1 : (unfF 0 r.reverse * 256 + b.toNat) / 256 = unfF 0 r.reverse := by omega
      have e2 : UInt8.ofNat (unfF 0 r.reverse * 256 + b.toNat) = b := by
        apply UInt8.toNat_inj.1
        rw [Num.ofNat_toNat]; omega
      rw [e1, e2, ih]
  have h := key l.reverse
  simpa using h

theorem unf_inj {l m : List UInt8} (h : l.length = m.length) (e : unfF 0 l = unfF 0 m) : l = m := by
  rw [← fix_unf l, ← fix_unf m, h, e]

theorem numAt_lt (l : List UInt8) (i n : Nat) : numAt l i n < 256 ^ n := by
  have h := Num.unfF_lt ((l.drop i).take n) 0
  have h2 : (256 : Nat) ^ ((l.drop i).take n).length ≤ 256 ^ n := Nat.pow_le_pow_right (by decide) (List.length_take_le _ _)
  unfold numAt
  omega

theorem body_len (K N S : Nat) (d : List UInt8) : (bodyL K N S d).length = d.length + 16 := by
  unfold bodyL; simp [Num.fixF_length]
theorem seal_len (K N S : Nat) (d : List UInt8) : (sealL K N S d).length = d.length + 24 := by
  unfold sealL; simp [Num.fixF_length, body_len]

theorem mid (a b c : List UInt8) (i n : Nat) (hi : a.length = i) (hn : b.length = n) : ((a ++ (b ++ c)).drop i).take n = b := by
  subst hi; subst hn; simp
theorem seal_take (K N S : Nat) (d : List UInt8) (hd : d.length = 232) : (sealL K N S d).take 232 = d := by
  unfold sealL bodyL; rw [List.append_assoc, List.append_assoc, List.append_assoc, ← hd]; simp
theorem seal_body (K N S : Nat) (d : List UInt8) (hd : d.length = 232) : (sealL K N S d).take 248 = bodyL K N S d := by
  unfold sealL
  have : (bodyL K N S d).length = 248 := by rw [body_len]; omega
  rw [← this]; simp
theorem seal_K (K N S : Nat) (d : List UInt8) (hd : d.length = 232) (hK : K < 4294967296) : numAt (sealL K N S d) 232 4 = K := by
  unfold numAt sealL bodyL
  rw [List.append_assoc, List.append_assoc, List.append_assoc, mid _ _ _ _ _ hd (Num.fixF_length 4 K), Num.unf_fix]
  exact Nat.mod_eq_of_lt hK
theorem seal_N (K N S : Nat) (d : List UInt8) (hd : d.length = 232) (hN : N < 4294967296) : numAt (sealL K N S d) 236 4 = N := by
  unfold numAt sealL bodyL
  rw [List.append_assoc, List.append_assoc, mid _ _ _ _ _ (by simp [Num.fixF_length, hd]) (Num.fixF_length 4 N), Num.unf_fix]
  exact Nat.mod_eq_of_lt hN
theorem seal_S (K N S : Nat) (d : List UInt8) (hd : d.length = 232) (hS : S < 18446744073709551616) : numAt (sealL K N S d) 240 8 = S := by
  unfold numAt sealL bodyL
  rw [List.append_assoc, mid _ _ _ _ _ (by simp [Num.fixF_length, hd]) (Num.fixF_length 8 S), Num.unf_fix]
  exact Nat.mod_eq_of_lt hS
theorem sum_lt (l : List UInt8) : sumN 1 l < 18446744073709551616 := Mix.sumN_lt 1 l (by decide)
theorem seal_sum (K N S : Nat) (d : List UInt8) (hd : d.length = 232) : numAt (sealL K N S d) 248 8 = sumN 1 (bodyL K N S d) := by
  unfold numAt sealL
  have e := mid (bodyL K N S d) (fixF 8 (sumN 1 (bodyL K N S d))) [] 248 8 (by rw [body_len]; omega) (Num.fixF_length _ _)
  rw [List.append_nil] at e
  rw [e, Num.unf_fix]
  exact Nat.mod_eq_of_lt (sum_lt _)
theorem seal_right (K N S : Nat) (d : List UInt8) (hd : d.length = 232) : right (sealL K N S d) := by
  unfold right; rw [seal_sum _ _ _ _ hd, seal_body _ _ _ _ hd]

theorem part_back (l : List UInt8) (i n : Nat) (h : i + n ≤ l.length) : fixF n (numAt l i n) = (l.drop i).take n := by
  unfold numAt
  have e : ((l.drop i).take n).length = n := by simp; omega
  have := fix_unf ((l.drop i).take n)
  rwa [e] at this

theorem cut_take (l : List UInt8) (i n : Nat) : l.take (i + n) = l.take i ++ (l.drop i).take n := List.take_add
/-- What a sealed sector says is sealed to it. -/
theorem back (l : List UInt8) (h : l.length = 256) (hr : right l) : sealL (numAt l 232 4) (numAt l 236 4) (numAt l 240 8) (l.take 232) = l := by
  have hb : bodyL (numAt l 232 4) (numAt l 236 4) (numAt l 240 8) (l.take 232) = l.take 248 := by
    unfold bodyL
    rw [part_back _ _ _ (by omega), part_back _ _ _ (by omega), part_back _ _ _ (by omega)]
    rw [← cut_take, ← cut_take, ← cut_take]
  unfold sealL
  rw [hb, ← hr, part_back _ _ _ (by omega), ← cut_take]
  exact List.take_of_length_le (by omega)

/-- A group that is changed: another sector, and none. -/
def turned (l g : List UInt8) (k : Nat) : List UInt8 := l.take k ++ g ++ l.drop (k + 4)
theorem turned_len (l g : List UInt8) (k : Nat) (hg : g.length = 4) (hk : k + 4 ≤ l.length) : (turned l g k).length = l.length := by
  unfold turned; simp; omega
theorem turned_drop (l g : List UInt8) (k : Nat) (hg : g.length = 4) (hk : k + 4 ≤ 248) (hl : l.length = 256) : (turned l g k).drop 248 = l.drop 248 := by
  unfold turned
  rw [List.drop_append, List.drop_append]
  have e1 : (l.take k).drop 248 = [] := List.drop_of_length_le (by simp; omega)
  have e2 : (l.take k).length = k := by simp; omega
  have e3 : g.drop (248 - k) = [] := List.drop_of_length_le (by omega)
  rw [e1, e2, e3, List.length_append, e2, hg, List.drop_drop, show k + 4 + (248 - (k + 4)) = 248 by omega]
  rfl
theorem turned_take (l g : List UInt8) (k : Nat) (hg : g.length = 4) (hk : k + 4 ≤ 248) (hl : l.length = 256) : (turned l g k).take 248 = l.take k ++ g ++ (l.drop (k + 4)).take (248 - (k + 4)) := by
  unfold turned
  rw [List.take_append]
  have e2 : (l.take k ++ g).length = k + 4 := by simp; omega
  rw [e2]
  congr 1
  exact List.take_of_length_le (by omega)
theorem turned_self (l : List UInt8) (k : Nat) (_hk : k + 4 ≤ l.length) : turned l ((l.drop k).take 4) k = l := by
  unfold turned
  rw [← cut_take, List.take_append_drop]

theorem tells (l g : List UInt8) (k : Nat) (hl : l.length = 256) (hr : right l) (hg : g.length = 4) (hk : k % 4 = 0) (hk2 : k + 4 ≤ 256) : right (turned l g k) ↔ turned l g k = l := by
  constructor
  · intro h
    suffices e : g = (l.drop k).take 4 by rw [e]; exact turned_self l k (by omega)
    have hlen : ((l.drop k).take 4).length = 4 := by simp; omega
    by_cases h4 : k + 4 ≤ 248
    · unfold right at h hr
      have e1 : numAt (turned l g k) 248 8 = numAt l 248 8 := by unfold numAt; rw [turned_drop l g k hg h4 hl]
      rw [e1, hr, turned_take l g k hg h4 hl] at h
      have e2 : l.take 248 = l.take k ++ (l.drop k).take 4 ++ (l.drop (k + 4)).take (248 - (k + 4)) := by
        have := turned_take l ((l.drop k).take 4) k hlen h4 hl
        rwa [turned_self l k (by omega)] at this
      rw [e2] at h
      have k1 : (l.take k).length % 4 = 0 := by simp; omega
      have k2 : ∀ r : List UInt8, r.length = 4 → (l.take k ++ r).length % 4 = 0 := by intro r h; simp; omega
      have s0 := Mix.sumN_lt 1 (l.take k) (by decide)
      rw [Mix.sumN_goes 1 _ _ (by decide) (k2 _ hlen), Mix.sumN_goes 1 _ _ (by decide) (k2 _ hg), Mix.sumN_goes 1 _ _ (by decide) k1, Mix.sumN_goes 1 _ _ (by decide) k1] at h
      have := Mix.sumN_inj _ (Mix.sumN_lt _ _ s0) (Mix.sumN_lt _ _ s0) h
      exact (Mix.sumN_inj4 s0 hlen hg this).symm
    · have k248 : 248 ≤ k := by omega
      unfold right at h hr
      have e1 : (turned l g k).take 248 = l.take 248 := by
        unfold turned
        rw [List.take_append, List.take_append, List.take_take, Nat.min_eq_left k248]
        have e2 : (l.take k).length = k := by simp; omega
        rw [e2, List.length_append, e2, show 248 - k = 0 by omega, show 248 - (k + g.length) = 0 by omega]
        simp
      rw [e1, ← hr] at h
      have e3 : ((turned l g k).drop 248).take 8 = (l.drop 248).take 8 := by
        refine unf_inj ?_ h
        simp [turned_len l g k hg (by omega)]
      have e4 : turned l g k = l := by
        rw [← List.take_append_drop 248 (turned l g k), e1]
        have a1 : ((turned l g k).drop 248).take 8 = (turned l g k).drop 248 := List.take_of_length_le (by simp [turned_len l g k hg (by omega)]; omega)
        have a2 : (l.drop 248).take 8 = l.drop 248 := List.take_of_length_le (by simp; omega)
        rw [← a1, e3, a2, List.take_append_drop]
      have e5 : ((turned l g k).drop k).take 4 = g := by
        unfold turned
        rw [List.append_assoc]
        exact mid _ _ _ _ _ (by simp; omega) hg
      rw [← e5, e4]
  · intro h; rw [h]; exact hr

end Seal
end Go.Proofs.Ytfgaoopgnpigjaa
