/-
  Plain mathematics of layer 6 (value): what Good, Compare, Key, Unkey, Show and Parse compute, as functions on numbers and lists of bytes. No program in sight.
-/
import Derived.Test.YtpabhekbkdpkiaaDoorNumMath
import Derived.Lib.ItoaNum
import Derived.Lib.AtoiAllCases
import Derived.Lib.Bytealg
import Derived.Lib.Small
namespace Go.Proofs.YtpabhekbkdpkiaaDoor
namespace Va
open Num (fixF unfF fixF_length)
abbrev Bs := List UInt8

/-! ### Good, Compare -/
def Good (K N : Int) (S : Bs) : Prop := (K = 0 ∧ N = 0 ∧ S = []) ∨ (K = 1 ∧ S = []) ∨ ((K = 2 ∨ K = 3) ∧ N = 0 ∧ S.length ≤ 2000)
instance (K N : Int) (S : Bs) : Decidable (Good K N S) := by unfold Good; infer_instance
theorem good_null : Good 0 0 [] := Or.inl ⟨rfl, rfl, rfl⟩
theorem good_int (N : Int) : Good 1 N [] := Or.inr (Or.inl ⟨rfl, rfl⟩)
theorem good_text {S : Bs} (h : S.length ≤ 2000) : Good 2 0 S := Or.inr (Or.inr ⟨Or.inl rfl, rfl, h⟩)
theorem good_blob {S : Bs} (h : S.length ≤ 2000) : Good 3 0 S := Or.inr (Or.inr ⟨Or.inr rfl, rfl, h⟩)
def cmpI (a b : Int) : Int := if a < b then -1 else if b < a then 1 else 0
def cmpB (a b : Bs) : Int := Lib.compareBytes a b
def orI (a b : Int) : Int := if a = 0 then b else a
def cmpV (K N : Int) (S : Bs) (K' N' : Int) (S' : Bs) : Int := orI (cmpI K K') (orI (cmpI N N') (cmpB S S'))
def compareL (K N : Int) (S : Bs) (K' N' : Int) (S' : Bs) : Int := if Good K N S ∧ Good K' N' S' then cmpV K N S K' N' S' else 0

theorem cmpI_self (a : Int) : cmpI a a = 0 := by unfold cmpI; simp
theorem cmpI_zero {a b : Int} : cmpI a b = 0 ↔ a = b := by unfold cmpI; split <;> (try split) <;> omega
theorem cmpI_neg {a b : Int} : cmpI a b < 0 ↔ a < b := by unfold cmpI; split <;> (try split) <;> omega
theorem cmpI_anti (a b : Int) : cmpI a b = -cmpI b a := by unfold cmpI; split <;> split <;> (try split) <;> (try split) <;> omega
theorem cmpB_self : ∀ a : Bs, cmpB a a = 0
  | [] => rfl
  | a :: as => by unfold cmpB Lib.compareBytes; simp; exact cmpB_self as
theorem cmpB_anti : ∀ a b : Bs, cmpB a b = -cmpB b a
  | [], [] => rfl
  | [], _ :: _ => rfl
  | _ :: _, [] => rfl
  | a :: as, b :: bs => by
    unfold cmpB Lib.compareBytes
    by_cases h1 : a < b
    · have h2 : ¬ b < a := fun h => by have := UInt8.lt_iff_toNat_lt.1 h; have := UInt8.lt_iff_toNat_lt.1 h1; omega
      simp [h1, h2]
    · by_cases h2 : b < a
      · simp [h1, h2]
      · simp only [h1, h2, if_false]; exact cmpB_anti as bs
theorem cmpB_zero : ∀ a b : Bs, cmpB a b = 0 ↔ a = b
  | [], [] => by simp [cmpB, Lib.compareBytes]
  | [], _ :: _ => by simp [cmpB, Lib.compareBytes]
  | _ :: _, [] => by simp [cmpB, Lib.compareBytes]
  | a :: as, b :: bs => by
    unfold cmpB Lib.compareBytes
    by_cases h1 : a < b
    · have : a ≠ b := fun e => by subst e; exact absurd (UInt8.lt_iff_toNat_lt.1 h1) (by omega)
      simp [h1, this]
    · by_cases h2 : b < a
      · have : a ≠ b := fun e => by subst e; exact h1 h2
        simp [h1, h2, this]
      · have : a = b := by
          apply UInt8.toNat_inj.1
          have h1' : ¬ a.toNat < b.toNat := fun h => h1 (UInt8.lt_iff_toNat_lt.2 h)
          have h2' : ¬ b.toNat < a.toNat := fun h => h2 (UInt8.lt_iff_toNat_lt.2 h)
          omega
        simp only [h1, h2, if_false]
        rw [show (Lib.compareBytes as bs = 0) = (cmpB as bs = 0) from rfl, cmpB_zero as bs]
        simp [this]
theorem cmpB_ways (a b : Bs) : cmpB a b = -1 ∨ cmpB a b = 0 ∨ cmpB a b = 1 := by
  induction a generalizing b with
  | nil => cases b <;> simp [cmpB, Lib.compareBytes]
  | cons a as ih =>
    cases b with
    | nil => simp [cmpB, Lib.compareBytes]
    | cons b bs =>
      unfold cmpB Lib.compareBytes
      split
      · exact Or.inl rfl
      · split
        · exact Or.inr (Or.inr rfl)
        · exact ih bs
theorem cmpB_trans : ∀ a b c : Bs, cmpB a b ≤ 0 → cmpB b c ≤ 0 → cmpB a c ≤ 0 ∧ (cmpB a c < 0 ↔ (cmpB a b < 0 ∨ cmpB b c < 0))
  | [], [], c, _, h2 => by cases c <;> simp [cmpB, Lib.compareBytes] at *
  | [], b :: bs, [], _, h2 => by simp [cmpB, Lib.compareBytes] at h2
  | [], b :: bs, c :: cs, _, h2 => by simp [cmpB, Lib.compareBytes]
  | a :: as, [], c, h1, _ => by simp [cmpB, Lib.compareBytes] at h1
  | a :: as, b :: bs, [], h1, h2 => by simp [cmpB, Lib.compareBytes] at h2
  | a :: as, b :: bs, c :: cs, h1, h2 => by
    have ih := cmpB_trans as bs cs
    unfold cmpB at *
    simp only [Lib.compareBytes, UInt8.lt_iff_toNat_lt] at *
    by_cases hab : a.toNat < b.toNat
    · by_cases hbc : b.toNat < c.toNat
      · rw [if_pos (by omega : a.toNat < c.toNat), if_pos hab]; simp
      · by_cases hcb : c.toNat < b.toNat
        · rw [if_neg hbc, if_pos hcb] at h2; omega
        · rw [if_pos (by omega : a.toNat < c.toNat), if_pos hab]; simp
    · by_cases hba : b.toNat < a.toNat
      · rw [if_neg hab, if_pos hba] at h1; omega
      · rw [if_neg hab, if_neg hba] at h1 ⊢
        by_cases hbc : b.toNat < c.toNat
        · rw [if_pos (by omega : a.toNat < c.toNat), if_pos hbc]; simp
        · by_cases hcb : c.toNat < b.toNat
          · rw [if_neg hbc, if_pos hcb] at h2; omega
          · rw [if_neg hbc, if_neg hcb] at h2 ⊢
            rw [if_neg (by omega : ¬ a.toNat < c.toNat), if_neg (by omega : ¬ c.toNat < a.toNat)]
            exact ih h1 h2
theorem cmpI_trans (a b c : Int) (h1 : cmpI a b ≤ 0) (h2 : cmpI b c ≤ 0) : cmpI a c ≤ 0 ∧ (cmpI a c < 0 ↔ (cmpI a b < 0 ∨ cmpI b c < 0)) := by
  unfold cmpI at *
  split at h1 <;> split at h2 <;> (try split at h1) <;> (try split at h2) <;> first | omega | (repeat' split) <;> omega
theorem cmpI_ways (a b : Int) : cmpI a b = -1 ∨ cmpI a b = 0 ∨ cmpI a b = 1 := by unfold cmpI; split <;> (try split) <;> simp
theorem cmpV_ways (K N : Int) (S : Bs) (K' N' : Int) (S' : Bs) : cmpV K N S K' N' S' = -1 ∨ cmpV K N S K' N' S' = 0 ∨ cmpV K N S K' N' S' = 1 := by
  unfold cmpV orI
  have h1 := cmpI_ways K K'
  have h2 := cmpI_ways N N'
  have h3 := cmpB_ways S S'
  split
  · split
    · exact h3
    · exact h2
  · exact h1
theorem cmpV_anti (K N : Int) (S : Bs) (K' N' : Int) (S' : Bs) : cmpV K N S K' N' S' = -cmpV K' N' S' K N S := by
  unfold cmpV orI
  have h1 := cmpI_anti K K'
  have h2 := cmpI_anti N N'
  have h3 := cmpB_anti S S'
  split <;> split <;> (try split) <;> (try split) <;> omega
theorem cmpV_self (K N : Int) (S : Bs) : cmpV K N S K N S = 0 := by unfold cmpV orI; simp [cmpI_self, cmpB_self]
theorem cmpV_zero (K N : Int) (S : Bs) (K' N' : Int) (S' : Bs) : cmpV K N S K' N' S' = 0 ↔ (K = K' ∧ N = N' ∧ S = S') := by
  unfold cmpV orI
  rw [← cmpI_zero (a := K), ← cmpI_zero (a := N), ← cmpB_zero S S']
  split
  · rename_i h
    split
    · rename_i h2; simp [h, h2]
    · rename_i h2; simp [h, h2]
  · rename_i h; simp [h]
theorem cmpV_trans (K N : Int) (S : Bs) (K' N' : Int) (S' : Bs) (K2 N2 : Int) (S2 : Bs) (h1 : cmpV K N S K' N' S' ≤ 0) (h2 : cmpV K' N' S' K2 N2 S2 ≤ 0) :
    cmpV K N S K2 N2 S2 ≤ 0 ∧ (cmpV K N S K2 N2 S2 < 0 ↔ (cmpV K N S K' N' S' < 0 ∨ cmpV K' N' S' K2 N2 S2 < 0)) := by
  have tK := cmpI_trans K K' K2
  have tN := cmpI_trans N N' N2
  have tS := cmpB_trans S S' S2
  unfold cmpV orI at *
  generalize cmpI K K' = k1 at *
  generalize cmpI K' K2 = k2 at *
  generalize cmpI K K2 = k3 at *
  generalize cmpI N N' = n1 at *
  generalize cmpI N' N2 = n2 at *
  generalize cmpI N N2 = n3 at *
  generalize cmpB S S' = s1 at *
  generalize cmpB S' S2 = s2 at *
  generalize cmpB S S2 = s3 at *
  have tK' : k1 ≤ 0 → k2 ≤ 0 → k3 ≤ 0 ∧ (k3 < 0 ↔ k1 < 0 ∨ k2 < 0) := tK
  have tN' : n1 ≤ 0 → n2 ≤ 0 → n3 ≤ 0 ∧ (n3 < 0 ↔ n1 < 0 ∨ n2 < 0) := tN
  have tS' : s1 ≤ 0 → s2 ≤ 0 → s3 ≤ 0 ∧ (s3 < 0 ↔ s1 < 0 ∨ s2 < 0) := tS
  by_cases a1 : k1 = 0 <;> by_cases a2 : k2 = 0 <;> by_cases b1 : n1 = 0 <;> by_cases b2 : n2 = 0 <;> simp only [a1, a2, b1, b2, if_true, if_false] at h1 h2 ⊢ <;> by_cases a3 : k3 = 0 <;> by_cases b3 : n3 = 0 <;> simp only [a3, b3, if_true, if_false] <;> omega

/-! ### Key, Unkey -/
def stuff : Bs → Bs
  | [] => []
  | b :: l => if b = 0 then 0 :: 255 :: stuff l else b :: stuff l
def off (N : Int) : Nat := (N + 9223372036854775808).toNat
def keyL (K N : Int) (S : Bs) : Bs := if Good K N S then (if K = 0 then [0] else if K = 1 then 1 :: fixF 8 (off N) else UInt8.ofNat K.toNat :: (stuff S ++ [0, 1])) else []
/-- How bytes behind a Kind are read: the bytes and how many they stand for. -/
inductive Rd where
  | ok (out : Bs) (n : Nat)
  | short
  | form
def Rd.on (pre : Bs) (k : Nat) : Rd → Rd
  | .ok out n => .ok (pre ++ out) (k + n)
  | .short => .short
  | .form => .form
def unst : Nat → Bs → Rd
  | _, [] => .short
  | 0, b :: l =>
    if b = 0 then match l with
      | [] => .short
      | c :: _ => if c = 1 then .ok [] 2 else .form
    else .form
  | k + 1, b :: l =>
    if b = 0 then match l with
      | [] => .short
      | c :: l' => if c = 1 then .ok [] 2 else if c = 255 then (unst k l').on [0] 2 else .form
    else (unst k l).on [b] 1
structure Un where
  K : Int
  N : Int
  S : Bs
  n : Nat
  e : Int
def unTail (K : Int) : Rd → Un
  | .ok out n => ⟨K, 0, out, 1 + n, 0⟩
  | .short => ⟨0, 0, [], 0, 3⟩
  | .form => ⟨0, 0, [], 0, 4⟩
def unkeyL : Bs → Un
  | [] => ⟨0, 0, [], 0, 3⟩
  | k :: r =>
    if k = 0 then ⟨0, 0, [], 1, 0⟩
    else if k = 1 then (if r.length < 8 then ⟨0, 0, [], 0, 3⟩ else ⟨1, (unfF 0 (r.take 8) : Int) - 9223372036854775808, [], 9, 0⟩)
    else if k = 2 ∨ k = 3 then unTail k.toNat (unst 2000 r)
    else ⟨0, 0, [], 0, 4⟩

/-! ### Show, Parse -/
def odd (b : UInt8) : Bool := decide (b.toNat < 32) || decide (126 < b.toNat) || decide (b.toNat = 92)
def hexc (n : Nat) : UInt8 := if n < 10 then UInt8.ofNat (48 + n) else UInt8.ofNat (87 + n)
def shb (b : UInt8) : Bs := if b.toNat = 39 then [39, 39] else if odd b then [92, hexc (b.toNat / 16), hexc (b.toNat % 16)] else [b]
def showS : Bs → Bs
  | [] => []
  | b :: l => shb b ++ showS l
def nullL : Bs := [110, 117, 108, 108]
def openL (K : Int) : Bs := if K = 2 then [39] else [120, 39]
def showL (K N : Int) (S : Bs) : Bs := if Good K N S then (if K = 0 then nullL else if K = 1 then Lib.itoa N else openL K ++ showS S ++ [39]) else []
/-- The number of a digit of base 16, small letters; 16: it is none. -/
def hexv (c : UInt8) : Nat := if 48 ≤ c.toNat ∧ c.toNat ≤ 57 then c.toNat - 48 else if 97 ≤ c.toNat ∧ c.toNat ≤ 102 then c.toNat - 87 else 16
/-- The byte that is written at the beginning, and by how many bytes. -/
def pbyte : Bs → Option (UInt8 × Nat)
  | [] => none
  | c :: l =>
    if c.toNat = 39 then match l with
      | [] => none
      | d :: _ => if d.toNat = 39 then some (39, 2) else none
    else if c.toNat = 92 then match l with
      | a :: b :: _ => if hexv a < 16 ∧ hexv b < 16 ∧ odd (UInt8.ofNat (16 * hexv a + hexv b)) then some (UInt8.ofNat (16 * hexv a + hexv b), 3) else none
      | _ => none
    else if odd c then none else some (c, 1)
def pq : Nat → Bs → Option (Bs × Nat)
  | 0, l => match pbyte l with
    | some _ => none
    | none => if l.head? = some 39 then some ([], 1) else none
  | k + 1, l => match pbyte l with
    | some (b, n) => (pq k (l.drop n)).map fun x => (b :: x.1, n + x.2)
    | none => if l.head? = some 39 then some ([], 1) else none
/-- The number whose digits these bytes are. -/
def intAt (l : Bs) : Option Int := match Lib.atoiAll l with
  | .ok n => if Lib.itoa n = l then some n else none
  | _ => none
def pint : Nat → Bs → Option (Int × Nat)
  | 0, _ => none
  | m + 1, s => match intAt (s.take (m + 1)) with
    | some n => some (n, m + 1)
    | none => pint m s
def noneU : Un := ⟨0, 0, [], 0, 4⟩
def quotedU (K : Int) (from' : Nat) : Option (Bs × Nat) → Un
  | some (out, n) => ⟨K, 0, out, from' + n, 0⟩
  | none => noneU
def numU : Option (Int × Nat) → Un
  | some (n, m) => ⟨1, n, [], m, 0⟩
  | none => noneU
def parseL (s : Bs) : Un :=
  if nullL.isPrefixOf s then ⟨0, 0, [], 4, 0⟩
  else if [39].isPrefixOf s then quotedU 2 1 (pq 2000 (s.drop 1))
  else if [120, 39].isPrefixOf s then quotedU 3 2 (pq 2000 (s.drop 2))
  else numU (pint (min s.length 20) s)
end Va
end Go.Proofs.YtpabhekbkdpkiaaDoor
