/-
  Laws between Key and Unkey, Show and Parse of layer 6; how keys stand. No program in sight.
-/
import Derived.Test.YtpabhekbkdpkiaaDoorValMath
import Derived.Lib.ReplaceLaws
import Derived.Lib.SplitLaws
namespace Go.Proofs.YtpabhekbkdpkiaaDoor
namespace Va
open Num (fixF unfF fixF_length)

/-! ### strings.ReplaceAll of byte 0 -/
theorem stuff_cons (b : UInt8) (l : Bs) : stuff (b :: l) = (if b = 0 then [0, 255] else [b]) ++ stuff l := by
  rw [stuff]; split <;> rfl
theorem index_zero (l : Bs) : Lib.index (0 :: l) [0] = 0 := by simp [Lib.index, List.isPrefixOf]
theorem index_other (b : UInt8) (l : Bs) (hb : b ≠ 0) : Lib.index (b :: l) [0] = if Lib.index l [0] == -1 then -1 else Lib.index l [0] + 1 := by
  rw [Lib.index]
  simp [List.isPrefixOf, Ne.symm hb]
theorem replaceK_other (k : Nat) (b : UInt8) (l : Bs) (hb : b ≠ 0) : Lib.replaceK [0] [0, 255] k (b :: l) = b :: Lib.replaceK [0] [0, 255] k l := by
  cases k with
  | zero => rfl
  | succ k =>
    have hge := Lib.index_ge l [0]
    by_cases hm : Lib.index l [0] = -1
    · have h1 : Lib.index (b :: l) [0] = -1 := by rw [index_other b l hb, hm]; rfl
      rw [Lib.replaceK, Lib.replaceK, h1, hm]
      rfl
    · obtain ⟨i, hi⟩ : ∃ i : Nat, Lib.index l [0] = i := ⟨(Lib.index l [0]).toNat, by omega⟩
      have h1 : Lib.index (b :: l) [0] = ((i + 1 : Nat) : Int) := by
        rw [index_other b l hb, if_neg (by simpa using hm), hi]; rfl
      rw [Lib.replaceK_hit _ _ _ _ _ h1, Lib.replaceK_hit _ _ _ _ _ hi]
      simp
theorem replaceK_stuff : ∀ S : Bs, Lib.replaceK [0] [0, 255] (S.count 0) S = stuff S
  | [] => rfl
  | b :: l => by
    by_cases hb : b = 0
    · subst hb
      rw [List.count_cons_self, Lib.replaceK_hit _ _ _ _ 0 (index_zero l)]
      simp only [List.take_zero, List.nil_append, Nat.zero_add, List.length_cons, List.length_nil, List.drop_succ_cons, List.drop_zero]
      rw [replaceK_stuff l, stuff_cons, if_pos rfl]
    · rw [List.count_cons_of_ne (by simpa using hb), replaceK_other _ b l hb, replaceK_stuff l, stuff_cons, if_neg hb]
      rfl
theorem replaceAll_stuff (S : Bs) : Lib.replaceAll S [0] [0, 255] = stuff S := by
  unfold Lib.replaceAll Lib.replace Lib.replaceNum
  rw [if_neg (by decide), if_pos (by omega), Lib.count_one, replaceK_stuff]
theorem stuff_length (S : Bs) : (stuff S).length ≤ 2 * S.length := by
  induction S with
  | nil => simp [stuff]
  | cons b l ih => rw [stuff_cons]; split <;> simp <;> omega

/-! ### Key and Unkey -/
theorem unst_stuff : ∀ (S : Bs) (k : Nat) (r : Bs), S.length ≤ k → unst k (stuff S ++ 0 :: 1 :: r) = .ok S ((stuff S).length + 2)
  | [], k, r, _ => by cases k <;> simp [stuff, unst]
  | b :: l, k, r, h => by
    obtain ⟨k, rfl⟩ : ∃ j, k = j + 1 := ⟨k - 1, by simp at h; omega⟩
    have ih := unst_stuff l k r (by simpa using h)
    by_cases hb : b = 0
    · subst hb
      simp only [stuff, if_true, List.cons_append, unst, if_neg (by decide : ¬ (255 : UInt8) = 1), ih, Rd.on]
      simp; omega
    · simp only [stuff, hb, if_false, List.cons_append, unst, ih, Rd.on]
      simp; omega
theorem on_ok {pre : Bs} {k : Nat} {x : Rd} {S : Bs} {n : Nat} (h : x.on pre k = .ok S n) : ∃ S' n', x = .ok S' n' ∧ S = pre ++ S' ∧ n = k + n' := by
  cases x with
  | ok S' n' => simp only [Rd.on, Rd.ok.injEq] at h; exact ⟨S', n', rfl, h.1.symm, h.2.symm⟩
  | short => cases h
  | form => cases h
theorem unst_back : ∀ (k : Nat) (l S : Bs) (n : Nat), unst k l = .ok S n → n ≤ l.length ∧ S.length ≤ k ∧ l.take n = stuff S ++ [0, 1]
  | 0, l, S, n, h => by
    match l with
    | [] => simp [unst] at h
    | b :: l =>
      simp only [unst] at h
      split at h
      · rename_i hb
        subst hb
        match l with
        | [] => simp at h
        | c :: l =>
          simp only at h
          split at h
          · rename_i hc
            subst hc
            simp only [Rd.ok.injEq] at h
            obtain ⟨rfl, rfl⟩ := h
            simp [stuff]
          · cases h
      · cases h
  | k + 1, l, S, n, h => by
    match l with
    | [] => simp [unst] at h
    | b :: l =>
      simp only [unst] at h
      split at h
      · rename_i hb
        subst hb
        match l with
        | [] => simp at h
        | c :: l =>
          simp only at h
          split at h
          · rename_i hc
            subst hc
            simp only [Rd.ok.injEq] at h
            obtain ⟨rfl, rfl⟩ := h
            simp [stuff]
          · split at h
            · rename_i hc
              subst hc
              obtain ⟨S', n', h', rfl, rfl⟩ := on_ok h
              obtain ⟨h1, h2, h3⟩ := unst_back k l S' n' h'
              refine ⟨by simp; omega, by simpa using h2, ?_⟩
              rw [show 2 + n' = n' + 2 by omega]
              simp [stuff, h3]
            · cases h
      · rename_i hb
        obtain ⟨S', n', h', rfl, rfl⟩ := on_ok h
        obtain ⟨h1, h2, h3⟩ := unst_back k l S' n' h'
        refine ⟨by simp; omega, by simpa using h2, ?_⟩
        rw [show 1 + n' = n' + 1 by omega]
        simp [stuff, hb, h3]
def InI (N : Int) : Prop := -9223372036854775808 ≤ N ∧ N ≤ 9223372036854775807
theorem off_lt {N : Int} (h : InI N) : off N < 18446744073709551616 := by unfold InI at h; unfold off; omega
theorem off_back {N : Int} (h : InI N) : ((off N : Nat) : Int) - 9223372036854775808 = N := by unfold InI at h; unfold off; omega
theorem unf_off {N : Int} (h : InI N) : unfF 0 (fixF 8 (off N)) = off N := by
  rw [Num.unf_fix, show (256 : Nat) ^ 8 = 18446744073709551616 by decide]; exact Nat.mod_eq_of_lt (off_lt h)
theorem unkey_key {K N : Int} {S : Bs} (h : Good K N S) (hN : InI N) (r : Bs) : unkeyL (keyL K N S ++ r) = ⟨K, N, S, (keyL K N S).length, 0⟩ := by
  unfold keyL
  rw [if_pos h]
  rcases h with ⟨rfl, rfl, rfl⟩ | ⟨rfl, rfl⟩ | ⟨rfl | rfl, rfl, hS⟩
  · simp [unkeyL]
  · have hl := fixF_length 8 (off N)
    rw [if_neg (by decide), if_pos rfl]
    simp only [List.cons_append, unkeyL, if_neg (by decide : ¬ (1 : UInt8) = 0), if_true, List.length_append, hl]
    rw [if_neg (by omega), List.take_append_of_le_length (by omega), List.take_of_length_le (by omega), unf_off hN, off_back hN]
    simp [hl]
  · rw [if_neg (by decide), if_neg (by decide)]
    have e : UInt8.ofNat (2 : Int).toNat = 2 := rfl
    simp only [e, List.cons_append, List.append_assoc, List.nil_append, unkeyL, if_neg (by decide : ¬ (2 : UInt8) = 0), if_neg (by decide : ¬ (2 : UInt8) = 1)]
    rw [if_pos (by decide), unst_stuff S 2000 r hS]
    have e2 : ((2 : UInt8).toNat : Int) = 2 := rfl
    simp only [unTail, e2, List.length_cons, List.length_append, List.length_nil, Un.mk.injEq, true_and, and_true]
    omega
  · rw [if_neg (by decide), if_neg (by decide)]
    have e : UInt8.ofNat (3 : Int).toNat = 3 := rfl
    simp only [e, List.cons_append, List.append_assoc, List.nil_append, unkeyL, if_neg (by decide : ¬ (3 : UInt8) = 0), if_neg (by decide : ¬ (3 : UInt8) = 1)]
    rw [if_pos (by decide), unst_stuff S 2000 r hS]
    have e2 : ((3 : UInt8).toNat : Int) = 3 := rfl
    simp only [unTail, e2, List.length_cons, List.length_append, List.length_nil, Un.mk.injEq, true_and, and_true]
    omega
theorem fix_unf (l : Bs) : fixF l.length (unfF 0 l) = l := by
  have key : ∀ r : Bs, fixF r.length (unfF 0 r.reverse) = r.reverse := by
    intro r
    induction r with
    | nil => rfl
    | cons b r ih =>
      have hb : b.toNat < 256 := b.toNat_lt
      rw [List.reverse_cons, Num.unfF_append, List.length_cons, fixF]
      have e1 : (unfF 0 r.reverse * 256 + b.toNat) / 256 = unfF 0 r.reverse := by omega
      have e2 : UInt8.ofNat (unfF 0 r.reverse * 256 + b.toNat) = b := by
        apply UInt8.toNat_inj.1
        rw [Num.ofNat_toNat]; omega
      rw [e1, e2, ih]
  have h := key l.reverse
  simpa using h
theorem unf8_lt (l : Bs) (h : l.length = 8) : unfF 0 l < 18446744073709551616 := by
  have := Num.unfF_lt l 0
  rw [h, show (256 : Nat) ^ 8 = 18446744073709551616 by decide] at this
  omega
theorem off_of (n : Nat) : off ((n : Int) - 9223372036854775808) = n := by unfold off; omega
/-- What an answer that tells an error holds beside it. -/
def Un.Bare (u : Un) : Prop := u.K = 0 ∧ u.N = 0 ∧ u.S = [] ∧ u.n = 0
theorem unTail_bare (K : Int) (x : Rd) (h : (unTail K x).e ≠ 0) : (unTail K x).Bare := by
  cases x with
  | ok => exact absurd rfl h
  | short => exact ⟨rfl, rfl, rfl, rfl⟩
  | form => exact ⟨rfl, rfl, rfl, rfl⟩
theorem unkey_bare (s : Bs) (h : (unkeyL s).e ≠ 0) : (unkeyL s).Bare := by
  unfold unkeyL at h ⊢
  match s with
  | [] => exact ⟨rfl, rfl, rfl, rfl⟩
  | k :: r =>
    simp only at h ⊢
    split
    · rename_i h0; rw [if_pos h0] at h; exact absurd rfl h
    · rename_i h0
      rw [if_neg h0] at h
      split
      · rename_i h1
        rw [if_pos h1] at h
        split
        · exact ⟨rfl, rfl, rfl, rfl⟩
        · rename_i h2; rw [if_neg h2] at h; exact absurd rfl h
      · rename_i h1
        rw [if_neg h1] at h
        split
        · rename_i h2; rw [if_pos h2] at h; exact unTail_bare _ _ h
        · exact ⟨rfl, rfl, rfl, rfl⟩
theorem unkey_back (s : Bs) (h : (unkeyL s).e = 0) : 1 ≤ (unkeyL s).n ∧ (unkeyL s).n ≤ s.length ∧ InI (unkeyL s).N ∧ Good (unkeyL s).K (unkeyL s).N (unkeyL s).S ∧ keyL (unkeyL s).K (unkeyL s).N (unkeyL s).S = s.take (unkeyL s).n := by
  unfold unkeyL at h ⊢
  match s with
  | [] => simp at h
  | k :: r =>
    simp only at h ⊢
    split
    · rename_i h0
      subst h0
      exact ⟨Nat.le_refl _, by simp, by unfold InI; simp, good_null, by simp [keyL, good_null]⟩
    · rename_i h0
      rw [if_neg h0] at h
      split
      · rename_i h1
        subst h1
        rw [if_pos rfl] at h
        split
        · rename_i h2; rw [if_pos h2] at h; simp at h
        · rename_i h2
          have hl : (r.take 8).length = 8 := by simp; omega
          have hlt := unf8_lt _ hl
          refine ⟨by simp, by simp; omega, by unfold InI; simp only; omega, good_int _, ?_⟩
          simp only [keyL, if_pos (good_int _), if_neg (by decide : ¬ (1 : Int) = 0), if_true, off_of]
          have hfu := fix_unf (r.take 8)
          rw [hl] at hfu
          rw [hfu]
          rfl
      · rename_i h1
        rw [if_neg h1] at h
        split
        · rename_i h2
          rw [if_pos h2] at h
          cases hx : unst 2000 r with
          | short => rw [hx] at h; simp [unTail] at h
          | form => rw [hx] at h; simp [unTail] at h
          | ok S n =>
            obtain ⟨g1, g2, g3⟩ := unst_back _ _ _ _ hx
            rcases h2 with rfl | rfl
            · have e2 : ((2 : UInt8).toNat : Int) = 2 := rfl
              have e3 : UInt8.ofNat (2 : Int).toNat = 2 := rfl
              simp only [unTail, e2]
              refine ⟨by omega, by simp; omega, by unfold InI; decide, good_text g2, ?_⟩
              simp only [keyL, if_pos (good_text g2), if_neg (by decide : ¬ (2 : Int) = 0), if_neg (by decide : ¬ (2 : Int) = 1), e3]
              rw [Nat.add_comm 1 n, List.take_succ_cons, g3]
            · have e2 : ((3 : UInt8).toNat : Int) = 3 := rfl
              have e3 : UInt8.ofNat (3 : Int).toNat = 3 := rfl
              simp only [unTail, e2]
              refine ⟨by omega, by simp; omega, by unfold InI; decide, good_blob g2, ?_⟩
              simp only [keyL, if_pos (good_blob g2), if_neg (by decide : ¬ (3 : Int) = 0), if_neg (by decide : ¬ (3 : Int) = 1), e3]
              rw [Nat.add_comm 1 n, List.take_succ_cons, g3]
        · rename_i h2
          rw [if_neg h2] at h
          simp at h

/-! ### How keys stand -/
/-- Two texts part at a byte: the first one is below, or above. -/
def Part (x y : Bs) (lt : Prop) : Prop := ∃ (p : Bs) (c d : UInt8) (x' y' : Bs), x = p ++ c :: x' ∧ y = p ++ d :: y' ∧ c ≠ d ∧ (c < d ↔ lt)
theorem Part.cons {x y : Bs} {lt : Prop} (q : Bs) (h : Part x y lt) : Part (q ++ x) (q ++ y) lt := by
  obtain ⟨p, c, d, x', y', rfl, rfl, h1, h2⟩ := h
  exact ⟨q ++ p, c, d, x', y', by simp, by simp, h1, h2⟩
theorem less_pre : ∀ (p x y : Bs), Op.bytesLess (p ++ x) (p ++ y) = Op.bytesLess x y
  | [], _, _ => rfl
  | b :: p, x, y => by
    have : ¬ b < b := fun h => by have := UInt8.lt_iff_toNat_lt.1 h; omega
    simp only [List.cons_append, Op.bytesLess]
    rw [less_pre p x y]
    simp
theorem Part.less {x y : Bs} {lt : Prop} [Decidable lt] (h : Part x y lt) (u v : Bs) : Op.bytesLess (x ++ u) (y ++ v) = decide lt := by
  obtain ⟨p, c, d, x', y', rfl, rfl, h1, h2⟩ := h
  rw [List.append_assoc, List.append_assoc, less_pre]
  simp only [List.cons_append, Op.bytesLess]
  have : (c == d) = false := by simpa using h1
  rw [this]
  simp [h2]
theorem Part.ne {x y : Bs} {lt : Prop} (h : Part x y lt) : x ≠ y := by
  obtain ⟨p, c, d, x', y', rfl, rfl, h1, h2⟩ := h
  intro e
  have := List.append_cancel_left e
  simp at this
  exact h1 this.1
theorem Part.no_pre {x y : Bs} {lt : Prop} (h : Part x y lt) : y.take x.length ≠ x := by
  obtain ⟨p, c, d, x', y', rfl, rfl, h1, h2⟩ := h
  intro e
  have h3 := congrArg (fun l => l[p.length]?) e
  simp only [List.getElem?_take] at h3
  rw [if_pos (by simp)] at h3
  simp at h3
  exact h1 h3.symm
theorem Part.no_pre' {x y : Bs} {lt : Prop} (h : Part x y lt) : x.take y.length ≠ y := by
  obtain ⟨p, c, d, x', y', rfl, rfl, h1, h2⟩ := h
  intro e
  have h3 := congrArg (fun l => l[p.length]?) e
  simp only [List.getElem?_take] at h3
  rw [if_pos (by simp)] at h3
  simp at h3
  exact h1 h3
theorem part_same : ∀ (x y : Bs), x.length = y.length → x ≠ y → Part x y (Op.bytesLess x y = true)
  | [], [], _, h => absurd rfl h
  | [], _ :: _, h, _ => by simp at h
  | _ :: _, [], h, _ => by simp at h
  | a :: x, b :: y, h, hne => by
    by_cases hab : a = b
    · subst hab
      have h1 := part_same x y (by simpa using h) (fun e => hne (by rw [e]))
      have h2 := h1.cons [a]
      have e : Op.bytesLess (a :: x) (a :: y) = Op.bytesLess x y := less_pre [a] x y
      rw [e]
      exact h2
    · refine ⟨[], a, b, x, y, rfl, rfl, hab, ?_⟩
      have : (a == b) = false := by simpa using hab
      simp [Op.bytesLess, this]
theorem fix_off_less {N N' : Int} (h : InI N) (h' : InI N') : Op.bytesLess (fixF 8 (off N)) (fixF 8 (off N')) = decide (N < N') := by
  have e := Num.fix8_less (off N) (off N') (off_lt h) (off_lt h')
  unfold Num.fix8 at e
  rw [e]
  unfold InI at h h'
  unfold off
  apply decide_eq_decide.2
  omega
theorem part_stuff : ∀ (S S' : Bs), S ≠ S' → Part (stuff S ++ [0, 1]) (stuff S' ++ [0, 1]) (cmpB S S' < 0)
  | [], [], h => absurd rfl h
  | [], b :: l, _ => by
    have hc : cmpB [] (b :: l) < 0 := by simp [cmpB, Lib.compareBytes]
    by_cases hb : b = 0
    · subst hb
      exact ⟨[0], 1, 255, [], stuff l ++ [0, 1], rfl, by simp [stuff], by decide, iff_of_true (by decide) hc⟩
    · exact ⟨[], 0, b, [1], stuff l ++ [0, 1], rfl, by simp [stuff, hb], Ne.symm hb, iff_of_true (by
        apply UInt8.lt_iff_toNat_lt.2
        have : b.toNat ≠ 0 := fun e => hb (UInt8.toNat_inj.1 e)
        show 0 < _; omega) hc⟩
  | b :: l, [], _ => by
    have hc : ¬ cmpB (b :: l) [] < 0 := by simp [cmpB, Lib.compareBytes]
    by_cases hb : b = 0
    · subst hb
      exact ⟨[0], 255, 1, stuff l ++ [0, 1], [], by simp [stuff], rfl, by decide, iff_of_false (by decide) hc⟩
    · exact ⟨[], b, 0, stuff l ++ [0, 1], [1], by simp [stuff, hb], rfl, hb, iff_of_false (fun h => by
        have := UInt8.lt_iff_toNat_lt.1 h
        have e : (0 : UInt8).toNat = 0 := rfl
        omega) hc⟩
  | a :: as, b :: bs, hne => by
    by_cases hab : a = b
    · subst hab
      have h1 := part_stuff as bs (fun e => hne (by rw [e]))
      have e : cmpB (a :: as) (a :: bs) = cmpB as bs := by simp [cmpB, Lib.compareBytes]
      rw [e, stuff_cons, stuff_cons, List.append_assoc, List.append_assoc]
      exact h1.cons _
    · have hc : (cmpB (a :: as) (b :: bs) < 0) ↔ a < b := by
        unfold cmpB Lib.compareBytes
        by_cases h1 : a < b
        · simp [h1]
        · have h2 : b < a := by
            apply UInt8.lt_iff_toNat_lt.2
            have g1 : ¬ a.toNat < b.toNat := fun h => h1 (UInt8.lt_iff_toNat_lt.2 h)
            have g2 : a.toNat ≠ b.toNat := fun e => hab (UInt8.toNat_inj.1 e)
            omega
          simp [h1, h2]
      refine ⟨[], a, b, (if a = 0 then 255 :: stuff as else stuff as) ++ [0, 1], (if b = 0 then 255 :: stuff bs else stuff bs) ++ [0, 1], ?_, ?_, hab, hc.symm⟩
      · by_cases ha : a = 0 <;> simp [stuff, ha]
      · by_cases hb : b = 0 <;> simp [stuff, hb]
theorem part_key {K N : Int} {S : Bs} {K' N' : Int} {S' : Bs} (h : Good K N S) (h' : Good K' N' S') (hN : InI N) (hN' : InI N') (hne : cmpV K N S K' N' S' ≠ 0) :
    Part (keyL K N S) (keyL K' N' S') (cmpV K N S K' N' S' < 0) := by
  have hk : ∀ {K N : Int} {S : Bs}, Good K N S → ∃ t, keyL K N S = UInt8.ofNat K.toNat :: t := by
    intro K N S g
    unfold keyL
    rw [if_pos g]
    rcases g with ⟨rfl, rfl, rfl⟩ | ⟨rfl, rfl⟩ | ⟨rfl | rfl, rfl, _⟩
    · exact ⟨[], rfl⟩
    · exact ⟨_, rfl⟩
    · exact ⟨_, rfl⟩
    · exact ⟨_, rfl⟩
  have hr : ∀ {K N : Int} {S : Bs}, Good K N S → 0 ≤ K ∧ K ≤ 3 := by
    intro K N S g
    rcases g with ⟨rfl, rfl, rfl⟩ | ⟨rfl, rfl⟩ | ⟨rfl | rfl, rfl, _⟩ <;> omega
  by_cases hK : K = K'
  · subst hK
    have ev : cmpV K N S K N' S' = orI (cmpI N N') (cmpB S S') := by unfold cmpV; rw [cmpI_self]; rfl
    rw [ev] at hne ⊢
    unfold keyL
    rw [if_pos h, if_pos h']
    rcases h with ⟨rfl, rfl, rfl⟩ | ⟨rfl, rfl⟩ | ⟨hK, rfl, hS⟩
    · have e1 : N' = 0 := by rcases h' with ⟨_, h, _⟩ | ⟨h, _⟩ | ⟨h | h, _, _⟩ <;> omega
      have e2 : S' = [] := by rcases h' with ⟨_, _, h⟩ | ⟨h, _⟩ | ⟨h | h, _, _⟩ <;> first | exact h | omega
      subst e1; subst e2
      exact absurd (by rw [cmpI_self]; rfl) hne
    · have e2 : S' = [] := by rcases h' with ⟨h, _, _⟩ | ⟨_, h⟩ | ⟨h | h, _, _⟩ <;> first | exact h | omega
      subst e2
      have e3 : orI (cmpI N N') (cmpB [] []) = cmpI N N' := by
        unfold orI
        split
        · rename_i h; rw [h]; rfl
        · rfl
      rw [e3] at hne ⊢
      rw [if_neg (by decide), if_pos rfl]
      have hNN : N ≠ N' := fun e => hne (cmpI_zero.2 e)
      have hff : fixF 8 (off N) ≠ fixF 8 (off N') := fun e => by
        have := congrArg (unfF 0) e
        rw [unf_off hN, unf_off hN'] at this
        apply hNN
        rw [← off_back hN, ← off_back hN', this]
      have hp := (part_same _ _ (by rw [fixF_length, fixF_length]) hff).cons [1]
      rw [fix_off_less hN hN'] at hp
      have e4 : (decide (N < N') = true) = (cmpI N N' < 0) := by simp [cmpI_neg]
      rw [e4] at hp
      exact hp
    · have e1 : N' = 0 := by rcases h' with ⟨h, _, _⟩ | ⟨h, _⟩ | ⟨_, h, _⟩ <;> omega
      subst e1
      have e3 : orI (cmpI 0 0) (cmpB S S') = cmpB S S' := by rw [cmpI_self]; rfl
      rw [e3] at hne ⊢
      simp only [if_neg (by omega : ¬ K = 0), if_neg (by omega : ¬ K = 1)]
      have hSS : S ≠ S' := fun e => hne ((cmpB_zero _ _).2 e)
      exact (part_stuff S S' hSS).cons [UInt8.ofNat K.toNat]
  · obtain ⟨t, ht⟩ := hk h
    obtain ⟨t', ht'⟩ := hk h'
    have r1 := hr h
    have r2 := hr h'
    rw [ht, ht']
    have ev : cmpV K N S K' N' S' = cmpI K K' := by
      unfold cmpV orI
      rw [if_neg (fun e => hK (cmpI_zero.1 e))]
    rw [ev]
    refine ⟨[], _, _, t, t', rfl, rfl, ?_, ?_⟩
    · intro e
      have := congrArg UInt8.toNat e
      rw [Num.ofNat_toNat, Num.ofNat_toNat] at this
      omega
    · rw [UInt8.lt_iff_toNat_lt, Num.ofNat_toNat, Num.ofNat_toNat, cmpI_neg]
      omega
end Va
end Go.Proofs.YtpabhekbkdpkiaaDoor
