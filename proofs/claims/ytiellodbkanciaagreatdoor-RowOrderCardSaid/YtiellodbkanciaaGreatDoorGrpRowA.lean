/-
  Put together: RowMath, RowLaws, RowShow, RowMem.
-/
import Derived.Test.YtiellodbkanciaaGreatDoorGrpValB
import Derived.Lib.Join
import Derived.Test.YtiellodbkanciaaGreatDoorGrpValA
/-
  Plain mathematics of layer 7 (row): what Good, Compare, Key, Encode, Decode, Show and Parse compute, as functions on lists of values and of bytes. No program in sight.
-/
namespace Go.Proofs.YtiellodbkanciaaGreatDoor
namespace Ro
open Va
open Num (varB unvL foldI unfoldI)

structure V where
  K : Int
  N : Int
  S : ByteArray
def V.good (v : V) : Bool := goodB v.K v.N v.S
def V.wide (v : V) : Prop := InI v.N
abbrev Vs := List V
def goodR (r : Vs) : Bool := decide (r.length ≤ 16) && r.all V.good
def Wide (r : Vs) : Prop := ∀ v ∈ r, InI v.N
def cmp2 (a b : V) : Int := cmpV a.K a.N (bl a.S) b.K b.N (bl b.S)
def lexV : Vs → Vs → Int
  | [], [] => 0
  | [], _ :: _ => -1
  | _ :: _, [] => 1
  | x :: a, y :: b => orI (cmp2 x y) (lexV a b)
def cmpR (a b : Vs) : Int := if goodR a = true ∧ goodR b = true then lexV a b else 0
def keyV (v : V) : Bs := keyL v.K v.N (bl v.S)
def keysV (r : Vs) : Bs := r.flatMap keyV
def keyR (r : Vs) : Bs := if goodR r then keysV r else []
/-- What stands behind a value's Kind. -/
def tailV (v : V) : Bs := if v.K = 1 then varB (foldI v.N).toNat else if v.K = 2 ∨ v.K = 3 then varB v.S.size ++ bl v.S else []
def encV (v : V) : Bs := UInt8.ofNat v.K.toNat :: tailV v
def encsV (r : Vs) : Bs := r.flatMap encV
def encL (r : Vs) : Bs := varB r.length ++ encsV r
def showV (v : V) : Bs := showL v.K v.N (bl v.S)
def sepL : Bs := [44, 32]
def showR (r : Vs) : Bs := if goodR r then 40 :: (Lib.join (r.map showV) sepL ++ [41]) else []

/-! ### Decode -/
inductive Dv where
  | ok (v : V) (rest : Bs)
  | no (e : Int)
def decV : Bs → Dv
  | [] => .no 3
  | k :: l =>
    if 3 < k.toNat then .no 4
    else if k.toNat = 0 then .ok ⟨0, 0, bs []⟩ l
    else if (unvL 0 0 l).2.2 ≠ 0 then .no (unvL 0 0 l).2.2
    else if k.toNat = 1 then .ok ⟨1, unfoldI (unvL 0 0 l).1, bs []⟩ (l.drop (unvL 0 0 l).2.1)
    else if 2000 < (unvL 0 0 l).1 then .no 4
    else if (l.drop (unvL 0 0 l).2.1).length < (unvL 0 0 l).1 then .no 3
    else .ok ⟨k.toNat, 0, bs ((l.drop (unvL 0 0 l).2.1).take (unvL 0 0 l).1)⟩ ((l.drop (unvL 0 0 l).2.1).drop (unvL 0 0 l).1)
inductive Ds where
  | ok (r : Vs) (rest : Bs)
  | no (e : Int)
def Ds.on (pre : Vs) : Ds → Ds
  | .ok r t => .ok (pre ++ r) t
  | .no e => .no e
def Dv.on : Dv → (Bs → Ds) → Ds
  | .ok v t, f => (f t).on [v]
  | .no e, _ => .no e
def decN : Nat → Bs → Ds
  | 0, s => .ok [] s
  | n + 1, s => (decV s).on (decN n)
structure Rr where
  r : Vs
  e : Int
def Ds.fin : Ds → Rr
  | .ok r [] => ⟨r, 0⟩
  | .ok _ (_ :: _) => ⟨[], 4⟩
  | .no e => ⟨[], e⟩
def decR (s : Bs) : Rr :=
  if (unvL 0 0 s).2.2 ≠ 0 then ⟨[], (unvL 0 0 s).2.2⟩
  else if 16 < (unvL 0 0 s).1 then ⟨[], 4⟩
  else (decN (unvL 0 0 s).1 (s.drop (unvL 0 0 s).2.1)).fin

/-! ### Parse -/
def uOf (u : Un) : V := ⟨u.K, u.N, bs u.S⟩
structure Pr where
  r : Vs
  n : Nat
  e : Int
inductive Ps where
  | ok (r : Vs) (n : Nat)
  | no
def Ps.on (pre : Vs) (k : Nat) : Ps → Ps
  | .ok r n => .ok (pre ++ r) (k + n)
  | .no => .no
def parN : Nat → Bs → Ps
  | 0, _ => .no
  | k + 1, s =>
    if (parseL s).e ≠ 0 then .no
    else if [41].isPrefixOf (s.drop (parseL s).n) then .ok [uOf (parseL s)] ((parseL s).n + 1)
    else if sepL.isPrefixOf (s.drop (parseL s).n) then (parN k ((s.drop (parseL s).n).drop 2)).on [uOf (parseL s)] ((parseL s).n + 2)
    else .no
def Ps.fin : Ps → Pr
  | .ok r n => ⟨r, 1 + n, 0⟩
  | .no => ⟨[], 0, 4⟩
def parR (s : Bs) : Pr :=
  if [40].isPrefixOf s then (if [41].isPrefixOf (s.drop 1) then ⟨[], 2, 0⟩ else (parN 16 (s.drop 1)).fin) else ⟨[], 0, 4⟩

theorem good_nil : goodR [] = true := rfl
theorem goodR_iff (r : Vs) : goodR r = true ↔ r.length ≤ 16 ∧ ∀ v ∈ r, v.good = true := by
  unfold goodR
  simp [List.all_eq_true]
theorem V.ofGood {v : V} (h : v.good = true) : Va.Good v.K v.N (bl v.S) := good_of h
theorem V.good_ways {v : V} (h : v.good = true) : v = ⟨0, 0, bs []⟩ ∨ (v = ⟨1, v.N, bs []⟩) ∨ ((v.K = 2 ∨ v.K = 3) ∧ v = ⟨v.K, 0, v.S⟩ ∧ v.S.size ≤ 2000) := by
  obtain ⟨K, N, S⟩ := v
  have e : S = bs (bl S) := (bs_bl S).symm
  rcases V.ofGood h with ⟨h1, h2, h3⟩ | ⟨h1, h2⟩ | ⟨h1, h2, h3⟩
  · left
    simp only at h1 h2 h3
    rw [e, h3, h1, h2]
  · right; left
    simp only at h1 h2
    rw [e, h2, h1]
  · right; right
    simp only at h1 h2 h3
    refine ⟨h1, by rw [h2], ?_⟩
    rw [bl_len] at h3
    exact h3
end Ro
end Go.Proofs.YtiellodbkanciaaGreatDoor

/-
  Laws of layer 7's plain functions: bytes there and back, keys and the order.
-/
namespace Go.Proofs.YtiellodbkanciaaGreatDoor
namespace Ro
open Va
open Num (varB unvL foldI unfoldI)

theorem good_cases {P : V → Prop} (h0 : P ⟨0, 0, bs []⟩) (h1 : ∀ N, P ⟨1, N, bs []⟩) (h2 : ∀ K S, (K = 2 ∨ K = 3) → S.size ≤ 2000 → P ⟨K, 0, S⟩) {v : V} (h : v.good = true) : P v := by
  rcases V.good_ways h with e | e | ⟨hK, e, hS⟩
  · rw [e]; exact h0
  · rw [e]; exact h1 _
  · rw [e]; exact h2 _ _ hK hS
theorem fold_nat {N : Int} (h : InI N) : ((foldI N).toNat : Int) = foldI N ∧ (foldI N).toNat < 18446744073709551616 := by
  unfold InI at h
  unfold foldI
  split <;> omega
theorem unv_of (n : Nat) (h : n < 18446744073709551616) (t : Bs) : unvL 0 0 (varB n ++ t) = (n, (varB n).length, 0) := Num.unv_varB n t h
theorem byte_nat {K : Int} (h : 0 ≤ K) (h2 : K ≤ 3) : ((UInt8.ofNat K.toNat).toNat : Int) = K := by rw [Num.ofNat_toNat]; omega
theorem wide_0 : InI 0 := by unfold InI; decide

theorem decV_enc {v : V} (h : v.good = true) (hN : InI v.N) (t : Bs) : decV (encV v ++ t) = .ok v t := by
  revert hN
  refine good_cases (P := fun v => InI v.N → decV (encV v ++ t) = .ok v t) ?_ ?_ ?_ h
  · intro _; simp [encV, tailV, decV]
  · intro N hN
    obtain ⟨e1, e2⟩ := fold_nat hN
    have hu := unv_of (foldI N).toNat e2 t
    simp [encV, tailV, decV, hu, e1, Num.unfold_fold]
  · intro K S hK hS _
    have hu := unv_of S.size (by omega) (bl S ++ t)
    have hl := bl_len S
    have hd : List.drop (varB S.size).length (varB S.size ++ (bl S ++ t)) = bl S ++ t := List.drop_left
    have ht : List.take S.size (bl S ++ t) = bl S := by rw [← hl]; exact List.take_left
    have hd2 : List.drop S.size (bl S ++ t) = t := by rw [← hl]; exact List.drop_left
    have hb := byte_nat (K := K) (by omega) (by omega)
    have hk1 : ¬ K = 1 := by omega
    have c1 : ¬ 3 < (UInt8.ofNat K.toNat).toNat := by omega
    have c2 : ¬ (UInt8.ofNat K.toNat).toNat = 0 := by omega
    have c3 : ¬ (UInt8.ofNat K.toNat).toNat = 1 := by omega
    have e : encV ⟨K, 0, S⟩ ++ t = UInt8.ofNat K.toNat :: (varB S.size ++ (bl S ++ t)) := by
      unfold encV tailV
      simp only [if_neg hk1, if_pos hK, List.cons_append, List.append_assoc]
    rw [e]
    unfold decV
    simp only [hu, hd, ht, hd2]
    rw [if_neg c1, if_neg c2, if_neg (by decide), if_neg c3, if_neg (by omega), if_neg (by rw [List.length_append]; omega), hb]
    rfl
theorem decN_enc : ∀ (r : Vs) (t : Bs), (∀ v ∈ r, v.good = true ∧ InI v.N) → decN r.length (encsV r ++ t) = .ok r t
  | [], _, _ => rfl
  | v :: r, t, h => by
    have hv := h v (by simp)
    have ih := decN_enc r t (fun x hx => h x (by simp [hx]))
    show decN (r.length + 1) (encV v ++ encsV r ++ t) = _
    rw [List.append_assoc]
    unfold decN
    rw [decV_enc hv.1 hv.2]
    show (decN r.length (encsV r ++ t)).on [v] = _
    rw [ih]
    rfl
theorem good_each {r : Vs} (h : goodR r = true) (hw : Wide r) : ∀ v ∈ r, v.good = true ∧ InI v.N := fun v hv => ⟨((goodR_iff r).1 h).2 v hv, hw v hv⟩
theorem decR_enc {r : Vs} (h : goodR r = true) (hw : Wide r) (t : Bs) : decR (encL r ++ t) = (Ds.ok r t).fin := by
  have hl := ((goodR_iff r).1 h).1
  have e : encL r ++ t = varB r.length ++ (encsV r ++ t) := List.append_assoc ..
  rw [e]
  unfold decR
  simp only [unv_of r.length (by omega) (encsV r ++ t), List.drop_left]
  rw [if_neg (by decide), if_neg (by omega), decN_enc r t (good_each h hw)]
theorem decV_cut {v : V} (h : v.good = true) (hN : InI v.N) (k : Nat) : k < (encV v).length → decV ((encV v).take k) = .no 3 := by
  revert hN
  refine good_cases (P := fun v => InI v.N → k < (encV v).length → decV ((encV v).take k) = .no 3) ?_ ?_ ?_ h
  · intro _ hk
    have : k = 0 := by simp [encV, tailV] at hk; omega
    subst this
    rfl
  · intro N hN hk
    cases k with
    | zero => rfl
    | succ k =>
      have hk' : k < (varB (foldI N).toNat).length := by simpa [encV, tailV] using hk
      have hu := Num.unv_cutB _ _ hk'
      simp [encV, tailV, decV, hu]
  · intro K S hK hS _ hk
    have hk1 : ¬ K = 1 := by omega
    have e : encV ⟨K, 0, S⟩ = UInt8.ofNat K.toNat :: (varB S.size ++ bl S) := by
      unfold encV tailV
      simp only [if_neg hk1, if_pos hK]
    rw [e] at hk ⊢
    have hb := byte_nat (K := K) (by omega) (by omega)
    have c1 : ¬ 3 < (UInt8.ofNat K.toNat).toNat := by omega
    have c2 : ¬ (UInt8.ofNat K.toNat).toNat = 0 := by omega
    have c3 : ¬ (UInt8.ofNat K.toNat).toNat = 1 := by omega
    cases k with
    | zero => rfl
    | succ k =>
      rw [List.take_succ_cons]
      unfold decV
      by_cases hkv : k < (varB S.size).length
      · have e2 : (varB S.size ++ bl S).take k = (varB S.size).take k := List.take_append_of_le_length (by omega)
        rw [e2]
        simp only [Num.unv_cutB _ _ hkv]
        rw [if_neg c1, if_neg c2, if_pos (by decide)]
      · obtain ⟨j, rfl⟩ : ∃ j, k = (varB S.size).length + j := ⟨k - (varB S.size).length, by omega⟩
        rw [List.take_length_add_append]
        have hj : j < S.size := by
          rw [List.length_cons, List.length_append, bl_len] at hk
          omega
        simp only [unv_of S.size (by omega) ((bl S).take j), List.drop_left]
        rw [if_neg c1, if_neg c2, if_neg (by decide), if_neg c3, if_neg (by omega), if_pos (by rw [List.length_take]; omega)]
theorem decN_cut : ∀ (r : Vs) (k : Nat), (∀ v ∈ r, v.good = true ∧ InI v.N) → k < (encsV r).length → decN r.length ((encsV r).take k) = .no 3
  | [], k, _, hk => absurd hk (Nat.not_lt_zero _)
  | v :: r, k, h, hk => by
    have hv := h v (by simp)
    have e : encsV (v :: r) = encV v ++ encsV r := rfl
    rw [e] at hk ⊢
    show (decV _).on (decN r.length) = _
    by_cases hkv : k < (encV v).length
    · rw [List.take_append_of_le_length (by omega), decV_cut hv.1 hv.2 k hkv]
      rfl
    · obtain ⟨j, rfl⟩ : ∃ j, k = (encV v).length + j := ⟨k - (encV v).length, by omega⟩
      have ih := decN_cut r j (fun x hx => h x (by simp [hx])) (by rw [List.length_append] at hk; omega)
      rw [List.take_length_add_append, decV_enc hv.1 hv.2]
      show (decN r.length _).on [v] = _
      rw [ih]
      rfl
theorem decR_cut {r : Vs} (h : goodR r = true) (hw : Wide r) (k : Nat) (hk : k < (encL r).length) : decR ((encL r).take k) = ⟨[], 3⟩ := by
  have hl := ((goodR_iff r).1 h).1
  have hk2 := hk
  unfold encL at hk2 ⊢
  unfold decR
  by_cases hkv : k < (varB r.length).length
  · rw [List.take_append_of_le_length (by omega)]
    simp only [Num.unv_cutB _ _ hkv]
    rw [if_pos (by decide)]
  · obtain ⟨j, rfl⟩ : ∃ j, k = (varB r.length).length + j := ⟨k - (varB r.length).length, by omega⟩
    rw [List.take_length_add_append]
    simp only [unv_of r.length (by omega) ((encsV r).take j), List.drop_left]
    rw [if_neg (by decide), if_neg (by omega), decN_cut r j (good_each h hw) (by rw [List.length_append] at hk2; omega)]
    rfl

/-! ### and back -/
theorem unv_is {s : Bs} (h : (unvL 0 0 s).2.2 = 0) : (unvL 0 0 s).1 < 18446744073709551616 ∧ (unvL 0 0 s).2.1 ≤ s.length ∧ varB (unvL 0 0 s).1 = s.take (unvL 0 0 s).2.1 := by
  have e : unvL 0 0 s = ((unvL 0 0 s).1, (unvL 0 0 s).2.1, 0) := by rw [← h]
  obtain ⟨n, hb, -, hn, -, hm, hv⟩ := Num.unv_back s 0 0 _ _ 9 rfl e
  have : (unvL 0 0 s).1 = n := by omega
  rw [this]
  exact ⟨by omega, by omega, hv⟩
theorem wide_unfold {n : Nat} (h : n < 18446744073709551616) : InI (unfoldI n) := by
  unfold InI unfoldI
  split <;> omega
theorem good_1N (N : Int) : V.good ⟨1, N, bs []⟩ = true := by unfold V.good goodB; rw [decide_eq_true_iff]; exact good_int N
theorem good_0 : V.good ⟨0, 0, bs []⟩ = true := by unfold V.good goodB; rw [decide_eq_true_iff]; exact good_null
theorem good_K {K : Int} {S : ByteArray} (hK : K = 2 ∨ K = 3) (hS : S.size ≤ 2000) : V.good ⟨K, 0, S⟩ = true := by
  unfold V.good goodB
  rw [decide_eq_true_iff]
  exact Or.inr (Or.inr ⟨hK, rfl, by rw [bl_len]; exact hS⟩)
theorem decV_cons (k : UInt8) (l : Bs) : decV (k :: l) = if 3 < k.toNat then .no 4
    else if k.toNat = 0 then .ok ⟨0, 0, bs []⟩ l
    else if (unvL 0 0 l).2.2 ≠ 0 then .no (unvL 0 0 l).2.2
    else if k.toNat = 1 then .ok ⟨1, unfoldI (unvL 0 0 l).1, bs []⟩ (l.drop (unvL 0 0 l).2.1)
    else if 2000 < (unvL 0 0 l).1 then .no 4
    else if (l.drop (unvL 0 0 l).2.1).length < (unvL 0 0 l).1 then .no 3
    else .ok ⟨k.toNat, 0, bs ((l.drop (unvL 0 0 l).2.1).take (unvL 0 0 l).1)⟩ ((l.drop (unvL 0 0 l).2.1).drop (unvL 0 0 l).1) := rfl
theorem decV_back (s : Bs) (v : V) (t : Bs) (h : decV s = .ok v t) : v.good = true ∧ InI v.N ∧ s = encV v ++ t := by
  match s, h with
  | [], h => cases h
  | k :: l, h =>
    rw [decV_cons] at h
    by_cases c1 : 3 < k.toNat
    · rw [if_pos c1] at h; cases h
    rw [if_neg c1] at h
    have ek : ∀ n : Nat, k.toNat = n → k = UInt8.ofNat n := fun n e => by rw [← e]; simp
    by_cases c2 : k.toNat = 0
    · rw [if_pos c2] at h
      cases h
      refine ⟨good_0, wide_0, ?_⟩
      rw [ek 0 c2]
      rfl
    rw [if_neg c2] at h
    by_cases c3 : (unvL 0 0 l).2.2 = 0
    · rw [if_neg (by simpa using c3)] at h
      obtain ⟨u1, u2, u3⟩ := unv_is c3
      by_cases c4 : k.toNat = 1
      · rw [if_pos c4] at h
        cases h
        refine ⟨good_1N _, wide_unfold u1, ?_⟩
        have e : encV ⟨1, unfoldI (unvL 0 0 l).1, bs []⟩ = UInt8.ofNat 1 :: varB (unvL 0 0 l).1 := by
          unfold encV tailV
          rw [if_pos rfl]
          rw [Num.fold_unfold _ (by omega)]
          rfl
        rw [e, ek 1 c4, u3, List.cons_append, List.take_append_drop]
      · rw [if_neg c4] at h
        by_cases c5 : 2000 < (unvL 0 0 l).1
        · rw [if_pos c5] at h; cases h
        rw [if_neg c5] at h
        by_cases c6 : (l.drop (unvL 0 0 l).2.1).length < (unvL 0 0 l).1
        · rw [if_pos c6] at h; cases h
        rw [if_neg c6] at h
        cases h
        generalize unvL 0 0 l = u at *
        have hsz : (bs ((l.drop u.2.1).take u.1)).size = u.1 := by
          rw [bs_size, List.length_take]; omega
        have hK : (k.toNat : Int) = 2 ∨ (k.toNat : Int) = 3 := by omega
        refine ⟨good_K hK (by omega), wide_0, ?_⟩
        have e : encV ⟨k.toNat, 0, bs ((l.drop u.2.1).take u.1)⟩ = k :: (varB u.1 ++ (l.drop u.2.1).take u.1) := by
          unfold encV tailV
          simp only
          rw [if_neg (by omega), if_pos hK, hsz]
          simp [bl_bs]
        rw [e, u3, List.cons_append, List.append_assoc, List.take_append_drop, List.take_append_drop]
    · rw [if_pos (by simpa using c3)] at h; cases h
theorem on_back {d : Ds} {p r : Vs} {t : Bs} (h : d.on p = .ok r t) : ∃ r', d = .ok r' t ∧ r = p ++ r' := by
  cases d with
  | no e => cases h
  | ok r' t' => cases h; exact ⟨r', rfl, rfl⟩
theorem decN_back : ∀ (n : Nat) (s : Bs) (r : Vs) (t : Bs), decN n s = .ok r t → r.length = n ∧ (∀ v ∈ r, v.good = true ∧ InI v.N) ∧ s = encsV r ++ t
  | 0, s, r, t, h => by cases h; exact ⟨rfl, fun _ h => (by cases h), rfl⟩
  | n + 1, s, r, t, h => by
    unfold decN at h
    cases hd : decV s with
    | no e => rw [hd] at h; cases h
    | ok v t' =>
      rw [hd] at h
      obtain ⟨r', h1, rfl⟩ := on_back h
      obtain ⟨g1, g2, g3⟩ := decN_back n t' r' t h1
      obtain ⟨k1, k2, k3⟩ := decV_back s v t' hd
      refine ⟨by simp [g1], ?_, ?_⟩
      · intro x hx
        rcases List.mem_cons.1 hx with rfl | hx
        · exact ⟨k1, k2⟩
        · exact g2 x hx
      · rw [k3, g3]
        show _ = encV v ++ encsV r' ++ t
        rw [List.append_assoc]
theorem decV_no (s : Bs) (e : Int) (h : decV s = .no e) : e = 3 ∨ e = 4 := by
  match s, h with
  | [], h => cases h; exact Or.inl rfl
  | k :: l, h =>
    rw [decV_cons] at h
    by_cases c1 : 3 < k.toNat
    · rw [if_pos c1] at h; cases h; exact Or.inr rfl
    rw [if_neg c1] at h
    by_cases c2 : k.toNat = 0
    · rw [if_pos c2] at h; cases h
    rw [if_neg c2] at h
    by_cases c3 : (unvL 0 0 l).2.2 = 0
    · rw [if_neg (by simpa using c3)] at h
      by_cases c4 : k.toNat = 1
      · rw [if_pos c4] at h; cases h
      rw [if_neg c4] at h
      by_cases c5 : 2000 < (unvL 0 0 l).1
      · rw [if_pos c5] at h; cases h; exact Or.inr rfl
      rw [if_neg c5] at h
      by_cases c6 : (l.drop (unvL 0 0 l).2.1).length < (unvL 0 0 l).1
      · rw [if_pos c6] at h; cases h; exact Or.inl rfl
      rw [if_neg c6] at h; cases h
    · rw [if_pos (by simpa using c3)] at h
      have he : (unvL 0 0 l).2.2 = e := by cases h; rfl
      have := (Num.unv_lt l).2.2
      omega
theorem decN_no : ∀ (n : Nat) (s : Bs) (e : Int), decN n s = .no e → e = 3 ∨ e = 4
  | 0, s, e, h => by cases h
  | n + 1, s, e, h => by
    unfold decN at h
    cases hd : decV s with
    | no e' =>
      rw [hd] at h
      cases h
      exact decV_no s e hd
    | ok v t =>
      rw [hd] at h
      have h' : (decN n t).on [v] = .no e := h
      cases hn : decN n t with
      | ok r u => rw [hn] at h'; cases h'
      | no e' =>
        rw [hn] at h'
        cases h'
        exact decN_no n t e hn
theorem decR_back (s : Bs) (h : (decR s).e = 0) : goodR (decR s).r = true ∧ Wide (decR s).r ∧ encL (decR s).r = s := by
  unfold decR at h ⊢
  by_cases c1 : (unvL 0 0 s).2.2 = 0
  · have c1' : ¬ (unvL 0 0 s).2.2 ≠ 0 := by simpa using c1
    rw [if_neg c1'] at h ⊢
    by_cases c2 : 16 < (unvL 0 0 s).1
    · rw [if_pos c2] at h; cases h
    rw [if_neg c2] at h ⊢
    obtain ⟨u1, u2, u3⟩ := unv_is c1
    cases hd : decN (unvL 0 0 s).1 (s.drop (unvL 0 0 s).2.1) with
    | no e =>
      rw [hd] at h
      exfalso
      have h' : e = 0 := h
      rcases decN_no _ _ _ hd with h2 | h2 <;> omega
    | ok r t =>
      rw [hd] at h
      match t, h, hd with
      | [], _, hd =>
        obtain ⟨g1, g2, g3⟩ := decN_back _ _ _ _ hd
        refine ⟨(goodR_iff r).2 ⟨by omega, fun v hv => (g2 v hv).1⟩, fun v hv => (g2 v hv).2, ?_⟩
        show varB r.length ++ encsV r = s
        rw [List.append_nil] at g3
        rw [g1, ← g3, u3, List.take_append_drop]
      | _ :: _, h, _ => cases h
  · have c1' : (unvL 0 0 s).2.2 ≠ 0 := c1
    rw [if_pos c1'] at h
    exact absurd h c1
theorem decR_bare (s : Bs) (h : (decR s).e ≠ 0) : (decR s).r = [] := by
  unfold decR at h ⊢
  split
  · rfl
  · split
    · rfl
    · rename_i c1 c2
      rw [if_neg c1, if_neg c2] at h
      cases hd : decN (unvL 0 0 s).1 (s.drop (unvL 0 0 s).2.1) with
      | no e => rfl
      | ok r t =>
        rw [hd] at h
        match t, h with
        | [], h => exact absurd rfl h
        | _ :: _, _ => rfl

/-! ### keys and the order -/
theorem keys_of : ∀ (a b : Vs), (∀ v ∈ a, v.good = true ∧ InI v.N) → (∀ v ∈ b, v.good = true ∧ InI v.N) → a.length = b.length →
    (Op.bytesLess (keysV a) (keysV b) = decide (lexV a b < 0)) ∧ (keysV a = keysV b ↔ lexV a b = 0)
  | [], [], _, _, _ => by constructor <;> decide
  | [], _ :: _, _, _, h => by simp at h
  | _ :: _, [], _, _, h => by simp at h
  | x :: a, y :: b, ha, hb, hl => by
    have hx := ha x (by simp)
    have hy := hb y (by simp)
    have ih := keys_of a b (fun v hv => ha v (by simp [hv])) (fun v hv => hb v (by simp [hv])) (by simpa using hl)
    have ea : keysV (x :: a) = keyV x ++ keysV a := rfl
    have eb : keysV (y :: b) = keyV y ++ keysV b := rfl
    have el : lexV (x :: a) (y :: b) = orI (cmp2 x y) (lexV a b) := rfl
    rw [ea, eb, el]
    by_cases hc : cmp2 x y = 0
    · have e : keyV x = keyV y := by
        obtain ⟨h1, h2, h3⟩ := (cmpV_zero _ _ _ _ _ _).1 hc
        unfold keyV
        rw [h1, h2, h3]
      have eo : orI (cmp2 x y) (lexV a b) = lexV a b := if_pos hc
      rw [e, eo, less_pre]
      exact ⟨ih.1, by rw [List.append_cancel_left_eq]; exact ih.2⟩
    · have hp : Part (keyV x) (keyV y) (cmp2 x y < 0) := part_key (V.ofGood hx.1) (V.ofGood hy.1) hx.2 hy.2 hc
      have eo : orI (cmp2 x y) (lexV a b) = cmp2 x y := if_neg hc
      rw [eo]
      refine ⟨hp.less _ _, ?_⟩
      constructor
      · intro h
        exfalso
        obtain ⟨p, c, d, x', y', e1, e2, hne, -⟩ := hp
        rw [e1, e2, List.append_assoc, List.append_assoc] at h
        have := List.append_cancel_left h
        simp only [List.cons_append, List.cons.injEq] at this
        exact hne this.1
      · intro h; exact absurd h hc
theorem cmp2_self (a : V) : cmp2 a a = 0 := cmpV_self _ _ _
theorem cmp2_anti (a b : V) : cmp2 a b = -cmp2 b a := cmpV_anti _ _ _ _ _ _
theorem cmp2_ways (a b : V) : cmp2 a b = -1 ∨ cmp2 a b = 0 ∨ cmp2 a b = 1 := cmpV_ways _ _ _ _ _ _
theorem lexV_self : ∀ a : Vs, lexV a a = 0
  | [] => rfl
  | x :: a => by show orI (cmp2 x x) (lexV a a) = 0; rw [cmp2_self]; exact lexV_self a
theorem lexV_anti : ∀ a b : Vs, lexV a b = -lexV b a
  | [], [] => rfl
  | [], _ :: _ => rfl
  | _ :: _, [] => rfl
  | x :: a, y :: b => by
    show orI (cmp2 x y) (lexV a b) = -orI (cmp2 y x) (lexV b a)
    have h := cmp2_anti x y
    have ih := lexV_anti a b
    unfold orI
    split <;> split <;> omega
theorem lexV_ways : ∀ a b : Vs, lexV a b = -1 ∨ lexV a b = 0 ∨ lexV a b = 1
  | [], [] => Or.inr (Or.inl rfl)
  | [], _ :: _ => Or.inl rfl
  | _ :: _, [] => Or.inr (Or.inr rfl)
  | x :: a, y :: b => by
    show orI (cmp2 x y) (lexV a b) = -1 ∨ orI (cmp2 x y) (lexV a b) = 0 ∨ orI (cmp2 x y) (lexV a b) = 1
    unfold orI
    split
    · exact lexV_ways a b
    · exact cmp2_ways x y
theorem lex_left (x : V) (a : Vs) : lexV [] (x :: a) = -1 := rfl
theorem lex_right (x : V) (a : Vs) : lexV (x :: a) [] = 1 := rfl
theorem lexV_trans : ∀ a b c : Vs, lexV a b ≤ 0 → lexV b c ≤ 0 → lexV a c ≤ 0 ∧ (lexV a c < 0 ↔ (lexV a b < 0 ∨ lexV b c < 0))
  | [], [], c, _, h2 => by
    have e : lexV [] [] = 0 := rfl
    rw [e]
    refine ⟨h2, by omega⟩
  | [], _ :: _, [], _, h2 => by rw [lex_right] at h2; omega
  | [], _ :: _, _ :: _, _, _ => by
    rw [lex_left, lex_left]
    omega
  | _ :: _, [], _, h1, _ => by rw [lex_right] at h1; omega
  | _ :: _, _ :: _, [], _, h2 => by rw [lex_right] at h2; omega
  | x :: a, y :: b, z :: c, h1, h2 => by
    have t := cmpV_trans x.K x.N (bl x.S) y.K y.N (bl y.S) z.K z.N (bl z.S)
    have ih := lexV_trans a b c
    have e1 : lexV (x :: a) (y :: b) = orI (cmp2 x y) (lexV a b) := rfl
    have e2 : lexV (y :: b) (z :: c) = orI (cmp2 y z) (lexV b c) := rfl
    have e3 : lexV (x :: a) (z :: c) = orI (cmp2 x z) (lexV a c) := rfl
    rw [e1] at h1
    rw [e2] at h2
    rw [e1, e2, e3]
    have t' : cmp2 x y ≤ 0 → cmp2 y z ≤ 0 → cmp2 x z ≤ 0 ∧ (cmp2 x z < 0 ↔ cmp2 x y < 0 ∨ cmp2 y z < 0) := t
    clear t e1 e2 e3
    unfold orI at *
    generalize cmp2 x y = p at *
    generalize cmp2 y z = q at *
    generalize cmp2 x z = s at *
    generalize lexV a b = i at *
    generalize lexV b c = j at *
    generalize lexV a c = k at *
    by_cases hp : p = 0 <;> by_cases hq : q = 0 <;> by_cases hs : s = 0 <;> simp only [hp, hq, hs, if_true, if_false] at h1 h2 ⊢ <;> omega
theorem lexV_pre : ∀ (c a b : Vs), lexV (c ++ a) (c ++ b) = lexV a b
  | [], _, _ => rfl
  | x :: c, a, b => by
    show orI (cmp2 x x) (lexV (c ++ a) (c ++ b)) = _
    rw [cmp2_self]
    exact lexV_pre c a b
theorem good_take {r : Vs} (h : goodR r = true) (n : Nat) : goodR (r.take n) = true := by
  obtain ⟨h1, h2⟩ := (goodR_iff r).1 h
  exact (goodR_iff _).2 ⟨by rw [List.length_take]; omega, fun v hv => h2 v (List.mem_of_mem_take hv)⟩
theorem good_drop {r : Vs} (h : goodR r = true) (n : Nat) : goodR (r.drop n) = true := by
  obtain ⟨h1, h2⟩ := (goodR_iff r).1 h
  exact (goodR_iff _).2 ⟨by rw [List.length_drop]; omega, fun v hv => h2 v (List.mem_of_mem_drop hv)⟩
theorem good_append {a b : Vs} (h : goodR a = true) (h' : goodR b = true) (hl : a.length + b.length ≤ 16) : goodR (a ++ b) = true := by
  obtain ⟨h1, h2⟩ := (goodR_iff a).1 h
  obtain ⟨h3, h4⟩ := (goodR_iff b).1 h'
  refine (goodR_iff _).2 ⟨by rw [List.length_append]; exact hl, fun v hv => ?_⟩
  rcases List.mem_append.1 hv with h | h
  · exact h2 v h
  · exact h4 v h
theorem keyR_cut {r : Vs} (h : goodR r = true) (n : Nat) : keyR (r.take n) ++ keyR (r.drop n) = keyR r := by
  unfold keyR
  rw [if_pos (good_take h n), if_pos (good_drop h n), if_pos h]
  unfold keysV
  rw [← List.flatMap_append, List.take_append_drop]
end Ro
end Go.Proofs.YtiellodbkanciaaGreatDoor

/-
  Laws of layer 7's plain functions: texts there and back.
-/
namespace Go.Proofs.YtiellodbkanciaaGreatDoor
namespace Ro
open Va

/-- What stands behind a value in a row's text. -/
def Stop (d : UInt8) : Prop := d.toNat = 41 ∨ d.toNat = 44
theorem pint_show2 {n : Int} (h : InI n) {d : UInt8} (hd : Stop d) (r : Bs) : pintL (Lib.itoa n ++ d :: r) = some (n, (Lib.itoa n).length) := by
  have h20 := itoa_le h
  refine pint_is _ _ _ _ (itoa_pos n) ?_ ?_ ?_
  · simp only [List.length_append, List.length_cons]; omega
  · rw [List.take_left, intAt_itoa h]
  · intro j hj _
    cases hx : intAt (List.take j (Lib.itoa n ++ d :: r)) with
    | none => rfl
    | some k =>
      obtain ⟨_, hk⟩ := intAt_back hx
      have hall := itoa_all k d
      rw [hk] at hall
      have hm : d ∈ List.take j (Lib.itoa n ++ d :: r) := by
        obtain ⟨i, rfl⟩ : ∃ i, j = (Lib.itoa n).length + (i + 1) := ⟨j - (Lib.itoa n).length - 1, by omega⟩
        rw [List.take_length_add_append]
        simp
      have := hall hm
      unfold Stop at hd
      omega
theorem parse_show2 {K N : Int} {S : Bs} (h : Va.Good K N S) (hN : InI N) {d : UInt8} (hd : Stop d) (r : Bs) : parseL (showL K N S ++ d :: r) = ⟨K, N, S, (showL K N S).length, 0⟩ := by
  have hne : d ≠ 39 := fun e => by subst e; revert hd; unfold Stop; decide
  have h41 : ∀ r : Bs, (d :: r).head? ≠ some 39 := fun r => by simpa using hne
  rw [parse_eq]
  rcases h with ⟨rfl, rfl, rfl⟩ | ⟨rfl, rfl⟩ | ⟨rfl | rfl, rfl, hS⟩
  · rw [show_null, if_pos (by simp [nullL, List.isPrefixOf])]
    rfl
  · obtain ⟨c, t, hc, h1⟩ := itoa_head N (d :: r)
    have e110 : c ≠ 110 := fun e => by subst e; revert h1; decide
    have e39 : c ≠ 39 := fun e => by subst e; revert h1; decide
    have e120 : c ≠ 120 := fun e => by subst e; revert h1; decide
    rw [show_int, pint_show2 hN hd]
    rw [hc, if_neg (by simp [nullL, List.isPrefixOf, Ne.symm e110]), if_neg (by simp [List.isPrefixOf, Ne.symm e39]), if_neg (by simp [List.isPrefixOf, Ne.symm e120])]
    rfl
  · rw [show_text hS, if_neg (by simp [nullL, List.isPrefixOf]), if_pos (by simp [List.isPrefixOf])]
    have e : List.drop 1 (39 :: (showS S ++ [39]) ++ d :: r) = showS S ++ 39 :: d :: r := by simp
    rw [e, pq_show S 2000 _ hS (h41 r)]
    simp only [quotedU, List.length_append, List.length_cons, List.length_nil, Un.mk.injEq, true_and, and_true]
    omega
  · rw [show_blob hS, if_neg (by simp [nullL, List.isPrefixOf]), if_neg (by simp [List.isPrefixOf]), if_pos (by simp [List.isPrefixOf])]
    have e : List.drop 2 (120 :: 39 :: (showS S ++ [39]) ++ d :: r) = showS S ++ 39 :: d :: r := by simp
    rw [e, pq_show S 2000 _ hS (h41 r)]
    simp only [quotedU, List.length_append, List.length_cons, List.length_nil, Un.mk.injEq, true_and, and_true]
    omega
theorem show_first {v : V} (h : v.good = true) : ∃ c t, showV v = c :: t ∧ c ≠ 41 := by
  refine good_cases (P := fun v => ∃ c t, showV v = c :: t ∧ c ≠ 41) ?_ ?_ ?_ h
  · exact ⟨110, _, show_null, by decide⟩
  · intro N
    obtain ⟨c, t, hc, h1⟩ := itoa_head N []
    refine ⟨c, t, ?_, fun e => by subst e; revert h1; decide⟩
    show showL 1 N [] = _
    rw [show_int, ← hc, List.append_nil]
  · intro K S hK hS
    have hl : (bl S).length ≤ 2000 := by rw [bl_len]; exact hS
    rcases hK with rfl | rfl
    · exact ⟨39, _, show_text hl, by decide⟩
    · exact ⟨120, _, show_blob hl, by decide⟩
theorem stop41 : Stop 41 := Or.inl rfl
theorem stop44 : Stop 44 := Or.inr rfl
theorem uOf_is (v : V) (n : Nat) : uOf ⟨v.K, v.N, bl v.S, n, 0⟩ = v := rfl
/-- The texts of values, the closing bracket, whatever stands behind. -/
theorem parN_show : ∀ (r : Vs) (v : V) (k : Nat) (s : Bs), (∀ x ∈ v :: r, x.good = true ∧ InI x.N) → r.length < k →
    parN k (showV v ++ (Lib.joinTail sepL (r.map showV) ++ 41 :: s)) = .ok (v :: r) ((showV v).length + ((Lib.joinTail sepL (r.map showV)).length + 1))
  | [], v, k, s, h, hk => by
    obtain ⟨k, rfl⟩ : ∃ j, k = j + 1 := ⟨k - 1, by omega⟩
    obtain ⟨g1, g2⟩ := h v (by simp)
    have hp : parseL (showV v ++ 41 :: s) = ⟨v.K, v.N, bl v.S, (showV v).length, 0⟩ := parse_show2 (V.ofGood g1) g2 stop41 s
    have e : showV v ++ (Lib.joinTail sepL (([] : Vs).map showV) ++ 41 :: s) = showV v ++ 41 :: s := rfl
    rw [e]
    unfold parN
    simp only [hp, List.drop_left]
    rw [if_neg (by simp), if_pos (by simp [List.isPrefixOf]), uOf_is]
    rfl
  | x :: r, v, k, s, h, hk => by
    obtain ⟨k, rfl⟩ : ∃ j, k = j + 1 := ⟨k - 1, by omega⟩
    obtain ⟨g1, g2⟩ := h v (by simp)
    have ih := parN_show r x k s (fun y hy => h y (by simp at hy ⊢; exact Or.inr hy)) (by simpa using hk)
    have e : showV v ++ (Lib.joinTail sepL ((x :: r).map showV) ++ 41 :: s) = showV v ++ 44 :: (32 :: (showV x ++ (Lib.joinTail sepL (r.map showV) ++ 41 :: s))) := by
      simp [Lib.joinTail, sepL]
    have hp : parseL (showV v ++ 44 :: (32 :: (showV x ++ (Lib.joinTail sepL (r.map showV) ++ 41 :: s)))) = ⟨v.K, v.N, bl v.S, (showV v).length, 0⟩ := parse_show2 (V.ofGood g1) g2 stop44 _
    rw [e]
    unfold parN
    simp only [hp, List.drop_left]
    rw [if_neg (by simp), if_neg (by simp [List.isPrefixOf]), if_pos (by simp [sepL, List.isPrefixOf]), uOf_is]
    show (parN k (showV x ++ (Lib.joinTail sepL (r.map showV) ++ 41 :: s))).on [v] ((showV v).length + 2) = _
    rw [ih]
    have el : (Lib.joinTail sepL ((x :: r).map showV)).length = 2 + (showV x).length + (Lib.joinTail sepL (r.map showV)).length := by
      simp [Lib.joinTail, sepL]
      omega
    rw [el]
    show Ps.ok ([v] ++ (x :: r)) _ = Ps.ok (v :: x :: r) _
    congr 1
    omega
theorem parR_show {r : Vs} (h : goodR r = true) (hw : Wide r) (s : Bs) : parR (showR r ++ s) = ⟨r, (showR r).length, 0⟩ := by
  have hl := ((goodR_iff r).1 h).1
  have hg := good_each h hw
  have e : showR r = 40 :: (Lib.join (r.map showV) sepL ++ [41]) := if_pos h
  rw [e]
  match r, hl, hg with
  | [], _, _ =>
    show parR (40 :: 41 :: s) = ⟨[], 2, 0⟩
    unfold parR
    rw [if_pos (by simp [List.isPrefixOf]), if_pos (by simp [List.isPrefixOf])]
  | v :: r, hl, hg =>
    have ej : Lib.join ((v :: r).map showV) sepL = showV v ++ Lib.joinTail sepL (r.map showV) := Lib.join_cons _ _ _
    have es : 40 :: (Lib.join ((v :: r).map showV) sepL ++ [41]) ++ s = 40 :: (showV v ++ (Lib.joinTail sepL (r.map showV) ++ 41 :: s)) := by
      rw [ej]; simp
    rw [es, ej]
    obtain ⟨c, t, hc, hne⟩ := show_first (hg v (by simp)).1
    have hp := parN_show r v 16 s hg (by simp at hl; omega)
    unfold parR
    have ed : List.drop 1 (40 :: (showV v ++ (Lib.joinTail sepL (r.map showV) ++ 41 :: s))) = showV v ++ (Lib.joinTail sepL (r.map showV) ++ 41 :: s) := rfl
    rw [ed, if_pos (by simp [List.isPrefixOf]), if_neg (by rw [hc]; simp [List.isPrefixOf, Ne.symm hne]), hp]
    show Pr.mk (v :: r) (1 + _) 0 = _
    congr 1
    simp only [List.length_cons, List.length_append, List.length_nil]
    omega
theorem pon_back {d : Ps} {p r : Vs} {k n : Nat} (h : d.on p k = .ok r n) : ∃ r' n', d = .ok r' n' ∧ r = p ++ r' ∧ n = k + n' := by
  cases d with
  | no => cases h
  | ok r' n' => cases h; exact ⟨r', n', rfl, rfl, rfl⟩
theorem good_u {s : Bs} (h : (parseL s).e = 0) : (uOf (parseL s)).good = true ∧ InI (uOf (parseL s)).N ∧ 1 ≤ (parseL s).n ∧ (parseL s).n ≤ s.length ∧ showV (uOf (parseL s)) = s.take (parseL s).n := by
  obtain ⟨h1, h2, h3, h4, h5⟩ := parse_back s h
  refine ⟨?_, h3, h1, h2, h5⟩
  unfold V.good goodB
  rw [decide_eq_true_iff]
  exact h4
theorem parN_back : ∀ (k : Nat) (s : Bs) (r : Vs) (n : Nat), parN k s = .ok r n →
    r ≠ [] ∧ r.length ≤ k ∧ (∀ v ∈ r, v.good = true ∧ InI v.N) ∧ 1 ≤ n ∧ n ≤ s.length ∧ s.take n = Lib.join (r.map showV) sepL ++ [41]
  | 0, s, r, n, h => by cases h
  | k + 1, s, r, n, h => by
    unfold parN at h
    by_cases c1 : (parseL s).e = 0
    · rw [if_neg (by simpa using c1)] at h
      obtain ⟨g1, g2, g3, g4, g5⟩ := good_u c1
      generalize parseL s = u at *
      by_cases c2 : [41].isPrefixOf (s.drop u.n) = true
      · rw [if_pos c2] at h
        cases h
        have hl := prefix_len c2
        have ht := prefix_take c2
        rw [List.length_drop] at hl
        have hl' : 1 ≤ s.length - u.n := hl
        have ht' : (s.drop u.n).take 1 = [41] := ht
        refine ⟨by simp, by simp, ?_, by omega, by omega, ?_⟩
        · intro v hv
          simp only [List.mem_singleton] at hv
          subst hv
          exact ⟨g1, g2⟩
        · rw [List.take_add, ht', List.map_cons, List.map_nil, Lib.join_one, g5]
      · rw [if_neg c2] at h
        by_cases c3 : sepL.isPrefixOf (s.drop u.n) = true
        · rw [if_pos c3] at h
          obtain ⟨r', n', h1, rfl, rfl⟩ := pon_back h
          obtain ⟨k1, k2, k3, k4, k5, k6⟩ := parN_back k _ r' n' h1
          have hl := prefix_len c3
          have ht := prefix_take c3
          rw [List.length_drop] at hl
          have hl' : 2 ≤ s.length - u.n := hl
          have ht' : (s.drop u.n).take 2 = sepL := ht
          rw [List.length_drop, List.length_drop] at k5
          refine ⟨by simp, by simp; omega, ?_, by omega, by omega, ?_⟩
          · intro v hv
            rcases List.mem_cons.1 hv with rfl | hv
            · exact ⟨g1, g2⟩
            · exact k3 v hv
          · match r', k1, k6 with
            | y :: r', _, k6 =>
              rw [List.take_add, List.take_add, ht', ← g5, ← List.drop_drop, k6]
              show _ = Lib.join (showV (uOf u) :: (y :: r').map showV) sepL ++ [41]
              rw [Lib.join_cons, List.map_cons, Lib.join_cons]
              simp [Lib.joinTail]
        · rw [if_neg c3] at h; cases h
    · rw [if_pos (by simpa using c1)] at h; cases h
theorem parR_back (s : Bs) (h : (parR s).e = 0) : goodR (parR s).r = true ∧ Wide (parR s).r ∧ 2 ≤ (parR s).n ∧ (parR s).n ≤ s.length ∧ showR (parR s).r = s.take (parR s).n := by
  unfold parR at h ⊢
  by_cases c1 : [40].isPrefixOf s = true
  · rw [if_pos c1] at h ⊢
    have hl := prefix_len c1
    have ht : s.take 1 = [40] := prefix_take c1
    have hl1 : 1 ≤ s.length := hl
    by_cases c2 : [41].isPrefixOf (s.drop 1) = true
    · rw [if_pos c2] at h ⊢
      have hl2 := prefix_len c2
      have ht2 : (s.drop 1).take 1 = [41] := prefix_take c2
      rw [List.length_drop] at hl2
      have hl3 : 1 ≤ s.length - 1 := hl2
      refine ⟨rfl, fun _ h => (by cases h), Nat.le_refl _, (show 2 ≤ s.length by omega), ?_⟩
      show [40, 41] = s.take (1 + 1)
      rw [List.take_add, ht, ht2]
      rfl
    · rw [if_neg c2] at h ⊢
      cases hp : parN 16 (s.drop 1) with
      | no => rw [hp] at h; cases h
      | ok r n =>
        obtain ⟨k1, k2, k3, k4, k5, k6⟩ := parN_back 16 _ r n hp
        rw [List.length_drop] at k5
        have hg : goodR r = true := (goodR_iff r).2 ⟨k2, fun v hv => (k3 v hv).1⟩
        refine ⟨hg, fun v hv => (k3 v hv).2, ?_, ?_, ?_⟩
        · show 2 ≤ 1 + n; omega
        · show 1 + n ≤ s.length; omega
        · show showR r = s.take (1 + n)
          rw [List.take_add, ht, k6]
          exact if_pos hg
  · rw [if_neg c1] at h; cases h
theorem parR_bare (s : Bs) (h : (parR s).e ≠ 0) : (parR s).n = 0 ∧ (parR s).r = [] := by
  unfold parR at h ⊢
  split
  · rename_i c1
    rw [if_pos c1] at h
    split
    · rename_i c2; rw [if_pos c2] at h; exact absurd rfl h
    · rename_i c2
      rw [if_neg c2] at h
      cases hp : parN 16 (s.drop 1) with
      | no => exact ⟨rfl, rfl⟩
      | ok r n => rw [hp] at h; exact absurd rfl h
  · exact ⟨rfl, rfl⟩
end Ro
end Go.Proofs.YtiellodbkanciaaGreatDoor

/-
  Rows of values in memory: a slice as it is read; a row that the call itself makes.
-/
namespace Go.Proofs.YtiellodbkanciaaGreatDoor
open Go.RowKit
namespace Ro
open Va
open Num (hid)
abbrev tV : TypeId := 78
abbrev tR : TypeId := 41
def V.agg (v : V) : Value := .agg #[.int .i64 v.K, .int .i64 v.N, .string v.S]
/-- A value's three cells at an address. -/
def At3 (w : World) (b o : Nat) (v : V) : Prop := w.cell? ⟨b, o, none⟩ = some (.int .i64 v.K) ∧ w.cell? ⟨b, o + 1, none⟩ = some (.int .i64 v.N) ∧ w.cell? ⟨b, o + 2, none⟩ = some (.string v.S)
/-- A slice of values, as it is read. -/
def RowAt (w : World) (x : Value) (l : Vs) : Prop :=
  ((∃ ao cap, x = .slice ao 0 cap ∧ l = []) ∨ ∃ b o cap, x = .slice (some ⟨b, o, none⟩) l.length cap ∧ l.length ≤ cap ∧ b < w.heap.size ∧ ∀ j (h : j < l.length), At3 w b (o + j * 3) l[j]) ∧ l.length ≤ maxLen
theorem At3.on {w w' : World} {b o : Nat} {v : V} (h : At3 w b o v) (hb : Below w.heap.size w w') (hlt : b < w.heap.size) : At3 w' b o v :=
  ⟨(hb.cell (p := ⟨b, o, none⟩) hlt).trans h.1, (hb.cell (p := ⟨b, o + 1, none⟩) hlt).trans h.2.1, (hb.cell (p := ⟨b, o + 2, none⟩) hlt).trans h.2.2⟩
theorem RowAt.on {w w' : World} {x : Value} {l : Vs} (h : RowAt w x l) (hb : Below w.heap.size w w') : RowAt w' x l := by
  obtain ⟨h1, h2⟩ := h
  refine ⟨?_, h2⟩
  rcases h1 with h1 | ⟨b, o, cap, hv, hc, hlt, hj⟩
  · exact Or.inl h1
  · exact Or.inr ⟨b, o, cap, hv, hc, Nat.lt_of_lt_of_le hlt hb.size, fun j h => (hj j h).on hb hlt⟩
/-- The slice, and the cells of its values. -/
theorem RowAt.ways {w : World} {x : Value} {l : Vs} (h : RowAt w x l) : (∃ ao cap, x = .slice ao l.length cap ∧ l.length ≤ maxLen ∧ ∀ j (hj : j < l.length), ∃ b o, ao = some ⟨b, o, none⟩ ∧ b < w.heap.size ∧ At3 w b (o + j * 3) l[j]) := by
  obtain ⟨h1, h2⟩ := h
  rcases h1 with ⟨ao, cap, rfl, rfl⟩ | ⟨b, o, cap, rfl, hc, hlt, hj⟩
  · exact ⟨ao, cap, rfl, h2, fun j hj => absurd hj (Nat.not_lt_zero _)⟩
  · exact ⟨_, cap, rfl, h2, fun j h => ⟨b, o, rfl, hlt, hj j h⟩⟩
theorem RowAt.nil (w : World) (ao : Option Addr) (cap : Nat) : RowAt w (.slice ao 0 cap) [] := ⟨Or.inl ⟨ao, cap, rfl, rfl⟩, Nat.zero_le _⟩
/-- The cells of a list of values. -/
def vcells (l : Vs) : List Value := l.flatMap fun v => [.int .i64 v.K, .int .i64 v.N, .string v.S]
theorem vcells_len (l : Vs) : (vcells l).length = l.length * 3 := by
  induction l with
  | nil => rfl
  | cons v l ih => show (_ :: _ :: _ :: vcells l).length = _; simp only [List.length_cons, ih]; omega
theorem vcells_append (a b : Vs) : vcells (a ++ b) = vcells a ++ vcells b := List.flatMap_append ..
theorem vcells_at : ∀ (l : Vs) (j : Nat) (h : j < l.length), (vcells l)[j * 3]? = some (.int .i64 l[j].K) ∧ (vcells l)[j * 3 + 1]? = some (.int .i64 l[j].N) ∧ (vcells l)[j * 3 + 2]? = some (.string l[j].S)
  | v :: l, 0, _ => ⟨rfl, rfl, rfl⟩
  | v :: l, j + 1, h => by
    have ih := vcells_at l j (by simpa using h)
    have e : vcells (v :: l) = .int .i64 v.K :: .int .i64 v.N :: .string v.S :: vcells l := rfl
    rw [e, show (j + 1) * 3 = j * 3 + 1 + 1 + 1 by omega]
    simpa using ih
/-- A row of the call's own. -/
abbrev OwnR (w : World) (base : Nat) (x : Value) (l : Vs) : Prop := w.ownsRow base tV 3 x l.length (vcells l)
theorem OwnR.row {w : World} {base : Nat} {x : Value} {l : Vs} (h : OwnR w base x l) (hl : l.length ≤ maxLen) : RowAt w x l := by
  refine ⟨?_, hl⟩
  rcases h.2 with ⟨rfl, h0⟩ | ⟨g, cap, cur, rfl, h1, h2, h3, h4, h5, h6⟩
  · exact Or.inl ⟨none, 0, rfl, List.length_eq_zero_iff.1 h0⟩
  · refine Or.inr ⟨g, 0, cap, rfl, h3, lt_of_block h2, fun j hj => ?_⟩
    obtain ⟨c0, c1, c2⟩ := vcells_at l j hj
    rw [Nat.zero_add]
    exact ⟨(h.cellAt _ (by omega)).trans c0, (h.cellAt _ (by omega)).trans c1, (h.cellAt _ (by omega)).trans c2⟩
end Ro
end Go.Proofs.YtiellodbkanciaaGreatDoor
