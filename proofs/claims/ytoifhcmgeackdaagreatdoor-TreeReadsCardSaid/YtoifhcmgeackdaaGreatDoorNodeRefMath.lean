/-
  Plain mathematics of the reference's Decode: it reads more than a page may hold, and asks at the end whether what it read is written as the page.
-/
import Derived.Test.YtoifhcmgeackdaaGreatDoorGrpTrNoA
namespace Go.Proofs.YtoifhcmgeackdaaGreatDoor
namespace No
open Num (fixF unfF fixF_length varB varF unvL)
def rkeS (S : Bs) : Option (Bs × Bs) := (upS S 5000).bind fun z => byS z.2 z.1
def ritS (f : Bool) (S : Bs) : Option (N × Bs) := (rkeS S).bind fun k => itB f k.1 k.2
def ritsS (f : Bool) : Nat → Bs → Option (N × Bs)
  | 0, S => some (⟨f, [], [], []⟩, S)
  | m + 1, S => (ritS f S).bind fun x => (ritsS f m x.2).map fun y => (x.1.app y.1, y.2)
def rbodyS (f : Bool) (c : Nat) (S : Bs) : Option (N × Bs) :=
  if f then ritsS true c S else (fxS S 4).bind fun p => (ritsS false c p.2).map fun x => ((⟨false, [], [], [p.1]⟩ : N).app x.1, x.2)
def rparse (S : Bs) : Option (N × Bs) := (fxS S 1).bind fun m => (fxS m.2 2).bind fun c => rbodyS (m.1 == 1) c.1 c.2
theorem upS_more {S : Bs} {x : Nat × Bs} (h : upS S 64 = some x) : upS S 5000 = some x := by
  unfold upS at h ⊢
  split at h
  · cases h
  · rename_i hn
    rw [if_neg (fun hh => hn (hh.imp id fun h => by omega))]
    exact h
theorem rkeS_of {S : Bs} {x : Bs × Bs} (h : keS S = some x) : rkeS S = some x := by
  unfold keS at h
  unfold rkeS
  cases hu : upS S 64 with
  | none => rw [hu] at h; cases h
  | some z => rw [hu] at h; rw [upS_more hu]; exact h
theorem ritS_of {f : Bool} {S : Bs} {x : N × Bs} (h : itS f S = some x) : ritS f S = some x := by
  unfold itS at h
  unfold ritS
  cases hu : keS S with
  | none => rw [hu] at h; cases h
  | some z => rw [hu] at h; rw [rkeS_of hu]; exact h
theorem ritsS_of : ∀ {m : Nat} {f : Bool} {S : Bs} {x : N × Bs}, itsS f m S = some x → ritsS f m S = some x
  | 0, _, _, _, h => h
  | m + 1, f, S, x, h => by
    have h0 : (itS f S).bind (fun x => (itsS f m x.2).map fun y => (x.1.app y.1, y.2)) = some x := h
    show (ritS f S).bind (fun x => (ritsS f m x.2).map fun y => (x.1.app y.1, y.2)) = some x
    cases hi : itS f S with
    | none => rw [hi] at h0; cases h0
    | some r =>
      rw [hi] at h0
      rw [ritS_of hi]
      simp only [Option.bind_some] at h0 ⊢
      cases hj : itsS f m r.2 with
      | none => rw [hj] at h0; cases h0
      | some s => rw [hj] at h0; rw [ritsS_of hj]; exact h0
theorem rparse_of {S : Bs} {x : N × Bs} (h : parse S = some x) : rparse S = some x := by
  unfold parse at h
  unfold rparse
  cases h1 : fxS S 1 with
  | none => rw [h1] at h; cases h
  | some r =>
    obtain ⟨m, s1⟩ := r
    rw [h1] at h
    simp only [Option.bind_some] at h ⊢
    cases h2 : fxS s1 2 with
    | none => rw [h2] at h; cases h
    | some r =>
      obtain ⟨c, s2⟩ := r
      rw [h2] at h
      simp only [Option.bind_some] at h ⊢
      unfold bodyS at h
      unfold rbodyS
      by_cases e1 : m = 1
      · rw [if_pos e1] at h
        subst e1
        exact ritsS_of h
      · rw [if_neg e1] at h
        have e1' : (m == 1) = false := by simpa using e1
        rw [e1', if_neg (by decide)]
        by_cases e2 : m = 2
        · rw [if_pos e2] at h
          cases h3 : fxS s2 4 with
          | none => rw [h3] at h; cases h
          | some r =>
            rw [h3] at h
            simp only [Option.bind_some] at h ⊢
            cases h4 : itsS false c r.2 with
            | none => rw [h4] at h; cases h
            | some s => rw [h4] at h; rw [ritsS_of h4]; exact h
        · rw [if_neg e2] at h; cases h
theorem upS_less {S t : Bs} {m n : Nat} (h : upS S m = some (n, t)) : t.length + 1 ≤ S.length ∧ n ≤ m := by
  obtain ⟨h1, h2⟩ := upS_back h
  refine ⟨?_, h2⟩
  have := varB_one_le n
  rw [h1, List.length_append]; omega
theorem byS_less {S x t : Bs} {n : Nat} (h : byS S n = some (x, t)) : t.length ≤ S.length := by
  obtain ⟨h1, _⟩ := byS_back h
  rw [h1, List.length_append]; omega
theorem fxS_less {S t : Bs} {m n : Nat} (h : fxS S m = some (n, t)) : t.length ≤ S.length := by
  obtain ⟨h1, _⟩ := fxS_back h
  rw [h1, List.length_append]; omega
theorem rkeS_less {S k t : Bs} (h : rkeS S = some (k, t)) : t.length + 1 ≤ S.length := by
  unfold rkeS at h
  cases hu : upS S 5000 with
  | none => rw [hu] at h; cases h
  | some z =>
    obtain ⟨z, u⟩ := z
    rw [hu] at h
    have h' : byS u z = some (k, t) := h
    have := (upS_less hu).1
    have := byS_less h'
    omega
theorem ceS_less {S t : Bs} {c : C} (h : ceS S = some (c, t)) : t.length ≤ S.length := by
  obtain ⟨h1, _⟩ := ceS_back h
  rw [h1, List.length_append]; omega
theorem itB_less {f : Bool} {k S t : Bs} {x : N} (h : itB f k S = some (x, t)) : t.length ≤ S.length ∧ x.ks.length = 1 ∧ x.f = f := by
  unfold itB at h
  cases f with
  | true =>
    rw [if_pos rfl] at h
    cases h2 : ceS S with
    | none => rw [h2] at h; cases h
    | some r =>
      obtain ⟨c, u⟩ := r
      rw [h2] at h
      simp only [Option.map_some, Option.some.injEq, Prod.mk.injEq] at h
      obtain ⟨rfl, rfl⟩ := h
      exact ⟨ceS_less h2, rfl, rfl⟩
  | false =>
    rw [if_neg (by decide)] at h
    cases h2 : fxS S 4 with
    | none => rw [h2] at h; cases h
    | some r =>
      obtain ⟨c, u⟩ := r
      rw [h2] at h
      simp only [Option.map_some, Option.some.injEq, Prod.mk.injEq] at h
      obtain ⟨rfl, rfl⟩ := h
      exact ⟨fxS_less h2, rfl, rfl⟩
theorem ritS_less {f : Bool} {S t : Bs} {x : N} (h : ritS f S = some (x, t)) : t.length + 1 ≤ S.length ∧ x.ks.length = 1 ∧ x.f = f := by
  unfold ritS at h
  cases hu : rkeS S with
  | none => rw [hu] at h; cases h
  | some z =>
    obtain ⟨k, u⟩ := z
    rw [hu] at h
    have h' : itB f k u = some (x, t) := h
    have h1 := rkeS_less hu
    obtain ⟨h2, h3⟩ := itB_less h'
    exact ⟨by omega, h3⟩
theorem ritsS_len : ∀ {m : Nat} {f : Bool} {S t : Bs} {x : N}, ritsS f m S = some (x, t) → x.ks.length = m ∧ x.f = f
  | 0, f, S, t, x, h => by
    simp only [ritsS, Option.some.injEq, Prod.mk.injEq] at h
    obtain ⟨rfl, -⟩ := h
    exact ⟨rfl, rfl⟩
  | m + 1, f, S, t, x, h => by
    have h0 : (ritS f S).bind (fun x => (ritsS f m x.2).map fun y => (x.1.app y.1, y.2)) = some (x, t) := h
    cases hi : ritS f S with
    | none => rw [hi] at h0; cases h0
    | some r =>
      obtain ⟨a, u⟩ := r
      rw [hi] at h0
      simp only [Option.bind_some] at h0
      cases hj : ritsS f m u with
      | none => rw [hj] at h0; cases h0
      | some s =>
        obtain ⟨b, v⟩ := s
        rw [hj] at h0
        simp only [Option.map_some, Option.some.injEq, Prod.mk.injEq] at h0
        obtain ⟨rfl, rfl⟩ := h0
        obtain ⟨-, h1, h3⟩ := ritS_less hi
        have h2 := (ritsS_len hj).1
        refine ⟨?_, h3⟩
        show (a.ks ++ b.ks).length = _
        rw [List.length_append]; omega
theorem rparse_len {S t : Bs} {n : N} (h : rparse S = some (n, t)) : n.ks.length < 65536 := by
  unfold rparse at h
  cases h1 : fxS S 1 with
  | none => rw [h1] at h; cases h
  | some r =>
    obtain ⟨m, s1⟩ := r
    rw [h1] at h
    simp only [Option.bind_some] at h
    cases h2 : fxS s1 2 with
    | none => rw [h2] at h; cases h
    | some r =>
      obtain ⟨c, s2⟩ := r
      rw [h2] at h
      simp only [Option.bind_some] at h
      have hc : c < 65536 := (fxS_back h2).2
      unfold rbodyS at h
      split at h
      · have := (ritsS_len h).1; omega
      · cases h3 : fxS s2 4 with
        | none => rw [h3] at h; cases h
        | some r =>
          rw [h3] at h
          simp only [Option.bind_some] at h
          cases h4 : ritsS false c r.2 with
          | none => rw [h4] at h; cases h
          | some s =>
            rw [h4] at h
            simp only [Option.map_some, Option.some.injEq, Prod.mk.injEq] at h
            obtain ⟨rfl, -⟩ := h
            have := (ritsS_len h4).1
            show ([] ++ s.1.ks).length < _
            rw [List.nil_append]; omega
/-- What the reference answers. -/
def rdecR (S : Bs) : Dr :=
  if S.length ≠ 232 then ⟨noN, 1⟩
  else match rparse S with
    | some (n, _) => if (encR n).e = 0 ∧ (encR n).s = S then ⟨n, 0⟩ else ⟨noN, 4⟩
    | none => ⟨noN, 4⟩
theorem encR_ok {n : N} (h : (encR n).e = 0) : okN n = true ∧ (encN n).length ≤ 232 ∧ (encR n).s = page n := by
  unfold encR at h ⊢
  split at h
  · rename_i ho
    rw [if_pos ho]
    split at h
    · cases h
    · rename_i hl
      rw [if_neg hl]
      exact ⟨ho, by omega, rfl⟩
  · cases h
theorem rdecR_is (S : Bs) : rdecR S = decR S := by
  by_cases he : (decR S).e = 0
  · obtain ⟨h1, h2, h3, h4, h5⟩ := decR_yes he
    unfold rdecR
    rw [if_neg (by simpa using h5)]
    have hd := he
    unfold decR at he
    rw [if_neg (by simpa using h5)] at he
    cases hp : parse S with
    | none => rw [hp] at he; cases he
    | some r =>
      obtain ⟨n, t⟩ := r
      rw [hp] at he
      simp only at he
      have hn : decR S = ⟨n, 0⟩ := by
        unfold decR
        rw [if_neg (by simpa using h5), hp]
        simp only
        cases hb : (blank t && okN n) with
        | false => rw [hb] at he; simp at he
        | true => rfl
      rw [hn] at h1 h2 h3 ⊢
      rw [rparse_of hp]
      have e : encR n = ⟨page n, 0⟩ := by unfold encR; rw [if_pos h1, if_neg (by simpa using h2)]
      simp only
      rw [e, if_pos ⟨rfl, h3⟩]
  · by_cases hl : S.length ≠ 232
    · unfold rdecR decR
      rw [if_pos hl, if_pos hl]
    · have hno : decR S = ⟨noN, 4⟩ := by
        unfold decR at he ⊢
        rw [if_neg hl] at he ⊢
        cases hp : parse S with
        | none => rfl
        | some r =>
          rw [hp] at he
          simp only at he ⊢
          cases hb : (blank r.2 && okN r.1) with
          | false => rfl
          | true => rw [hb] at he; simp at he
      unfold rdecR
      rw [if_neg hl]
      cases hp : rparse S with
      | none => exact hno.symm
      | some r =>
        obtain ⟨n, t⟩ := r
        simp only
        by_cases hx : (encR n).e = 0 ∧ (encR n).s = S
        · obtain ⟨x1, x2⟩ := hx
          obtain ⟨y1, y2, y3⟩ := encR_ok x1
          have := decR_page y1 (rparse_len hp) y2
          rw [← y3, x2] at this
          rw [this] at he
          exact absurd rfl he
        · rw [if_neg hx]; exact hno.symm
/-! ### Places -/
def fromS {α : Type} (S : Bs) (a : Int) (f : Bs → Option (α × Bs)) : Option (α × Bs) := if a < 0 then none else f (S.drop a.toNat)
def Rat {α : Type} (S : Bs) (x : Option (α × Bs)) (y : α) (nx : Int) : Prop := (∃ k : Nat, nx = k ∧ k ≤ S.length ∧ x = some (y, S.drop k)) ∨ (nx = -1 ∧ x = none)
theorem fromS_at {α : Type} (S : Bs) (k : Nat) (f : Bs → Option (α × Bs)) : fromS S k f = f (S.drop k) := by
  unfold fromS
  rw [if_neg (by omega)]
  rfl
theorem fromS_no {α : Type} (S : Bs) (f : Bs → Option (α × Bs)) : fromS S (-1) f = none := rfl
theorem Rat.most {α : Type} {S : Bs} {x : Option (α × Bs)} {y : α} {a : Int} (h : Rat S x y a) : -1 ≤ a ∧ a ≤ S.length := by
  rcases h with ⟨k, rfl, h, -⟩ | ⟨rfl, -⟩
  · exact ⟨by omega, by omega⟩
  · exact ⟨by omega, by omega⟩
theorem Rat.bind {α β : Type} {S : Bs} {x : Option (α × Bs)} {y : α} {a1 a2 : Int} {y2 : β} (h1 : Rat S x y a1) (g : α → Bs → Option (β × Bs)) (h2 : Rat S (fromS S a1 (g y)) y2 a2) : Rat S (x.bind fun u => g u.1 u.2) y2 a2 := by
  rcases h1 with ⟨k, rfl, hk, rfl⟩ | ⟨rfl, rfl⟩
  · rw [fromS_at] at h2
    exact h2
  · rw [fromS_no] at h2
    exact h2
theorem Rat.map {α β : Type} {S : Bs} {x : Option (α × Bs)} {y : α} {a1 : Int} (h1 : Rat S x y a1) (g : α → β) : Rat S (x.map fun u => (g u.1, u.2)) (g y) a1 := by
  rcases h1 with ⟨k, rfl, hk, rfl⟩ | ⟨rfl, rfl⟩
  · exact Or.inl ⟨k, rfl, hk, rfl⟩
  · exact Or.inr ⟨rfl, rfl⟩
theorem Rat.congr {α : Type} {S : Bs} {x x' : Option (α × Bs)} {y : α} {a1 : Int} (h1 : Rat S x y a1) (e : x' = x) : Rat S x' y a1 := e ▸ h1
/-- A cell read at a place. -/
theorem rat_cell {S : Bs} {a2 a3 : Int} {long : Nat} (h3 : Rat S (fromS S a2 fun T => upS T 5000) long a3) {c : C} {a4 : Int} (h4 : Rat S (fromS S a3 (ceB long)) c a4) : Rat S (fromS S a2 ceS) c a4 := by
  refine (h3.bind ceB h4).congr ?_
  unfold fromS ceS
  split
  · rfl
  · rfl
theorem rat_data {S : Bs} {a3 a4 : Int} {long : Nat} {d : Bs} (h : Rat S (fromS S a3 fun T => byS T long) d a4) (hl : long ≤ 40) : Rat S (fromS S a3 (ceB long)) (⟨long, d, 0⟩ : C) a4 := by
  refine (h.map fun d => (⟨long, d, 0⟩ : C)).congr ?_
  unfold fromS ceB
  split
  · rfl
  · first | rfl | (rw [if_pos hl])
theorem rat_page {S : Bs} {a3 a4 : Int} {long p : Nat} (h : Rat S (fromS S a3 fun T => fxS T 4) p a4) (hl : ¬ long ≤ 40) : Rat S (fromS S a3 (ceB long)) (⟨long, [], p⟩ : C) a4 := by
  refine (h.map fun p => (⟨long, [], (p : Int)⟩ : C)).congr ?_
  unfold fromS ceB
  split
  · rfl
  · first | rfl | (rw [if_neg hl])
theorem rat_key {S k : Bs} {a0 a1 a2 : Int} {z : Nat} (h1 : Rat S (fromS S a0 fun T => upS T 5000) z a1) (h2 : Rat S (fromS S a1 fun T => byS T z) k a2) : Rat S (fromS S a0 rkeS) k a2 := by
  refine (h1.bind (fun z T => byS T z) h2).congr ?_
  unfold fromS rkeS
  split
  · rfl
  · rfl
theorem rat_leaf {S k : Bs} {a0 a2 a4 : Int} {c : C} (h1 : Rat S (fromS S a0 rkeS) k a2) (h2 : Rat S (fromS S a2 ceS) c a4) : Rat S (fromS S a0 (ritS true)) (⟨true, [k], [c], []⟩ : N) a4 := by
  refine (h1.bind (fun k T => itB true k T) ((h2.map fun c => (⟨true, [k], [c], []⟩ : N)).congr ?_)).congr ?_
  · unfold fromS itB
    split
    · rfl
    · rfl
  · unfold fromS ritS
    split
    · rfl
    · rfl
theorem rat_inner {S k : Bs} {a0 a2 a4 : Int} {p : Nat} (h1 : Rat S (fromS S a0 rkeS) k a2) (h2 : Rat S (fromS S a2 fun T => fxS T 4) p a4) : Rat S (fromS S a0 (ritS false)) (⟨false, [k], [], [(p : Int)]⟩ : N) a4 := by
  refine (h1.bind (fun k T => itB false k T) ((h2.map fun p => (⟨false, [k], [], [(p : Int)]⟩ : N)).congr ?_)).congr ?_
  · unfold fromS itB
    split
    · rfl
    · rfl
  · unfold fromS ritS
    split
    · rfl
    · rfl
/-- The reference's Decode under way: behind j keys of c, at place a. -/
structure RPr (S : Bs) (c : Nat) (f : Bool) (j : Nat) (n : N) (a : Int) : Prop where
  ff : n.f = f
  kk : n.ks.length ≤ j
  cc : n.cs.length ≤ j
  pp : n.ps.length ≤ j + 1
  jc : j ≤ c
  jj : j ≤ 240
  am : a ≤ 232
  dd : (∃ k : Nat, a = k ∧ j + 3 ≤ k ∧ k ≤ 232 ∧ rparse S = (ritsS f (c - j) (S.drop k)).map fun x => (n.app x.1, x.2)) ∨ (a = -1 ∧ rparse S = none)
theorem rapp_assoc (a x y : N) : (a.app x).app y = a.app (x.app y) := by simp [N.app, List.append_assoc]
theorem RPr.next {S : Bs} {c j : Nat} {f : Bool} {n x : N} {a a' : Int} (hS : S.length = 232) (h : RPr S c f j n a) (h0 : 0 ≤ a) (hj : j < c) (hr : Rat S (fromS S a (ritS f)) x a') (x1 : x.ks.length = 1) (x2 : x.cs.length ≤ 1) (x3 : x.ps.length ≤ 1) : RPr S c f (j + 1) (n.app x) a' := by
  obtain ⟨ff, kk, cc, pp, jc, jj, am, dd⟩ := h
  rcases dd with ⟨k, rfl, k1, k2, hp⟩ | ⟨rfl, _⟩
  · rw [fromS_at] at hr
    have hm := hr.most
    refine ⟨ff, by show (n.ks ++ x.ks).length ≤ _; rw [List.length_append]; omega, by show (n.cs ++ x.cs).length ≤ _; rw [List.length_append]; omega, by show (n.ps ++ x.ps).length ≤ _; rw [List.length_append]; omega, by omega, by omega, by omega, ?_⟩
    have e : c - j = (c - (j + 1)) + 1 := by omega
    rw [e] at hp
    have hp' : rparse S = ((ritS f (S.drop k)).bind fun x => (ritsS f (c - (j + 1)) x.2).map fun y => (x.1.app y.1, y.2)).map fun x => (n.app x.1, x.2) := hp
    rcases hr with ⟨k', rfl, hk', hx⟩ | ⟨rfl, hx⟩
    · have hl := (ritS_less hx).1
      rw [List.length_drop, List.length_drop] at hl
      refine Or.inl ⟨k', rfl, by omega, by omega, ?_⟩
      rw [hp', hx]
      simp only [Option.bind_some, Option.map_map]
      congr 1
      funext y
      simp only [Function.comp, rapp_assoc]
    · refine Or.inr ⟨rfl, ?_⟩
      rw [hp', hx]
      rfl
  · omega
theorem RPr.fin {S : Bs} {c : Nat} {f : Bool} {n : N} {a : Int} {j : Nat} (h : RPr S c f j n a) (hj : ¬ j < c) (h0 : 0 ≤ a) : ∃ t, rparse S = some (n, t) := by
  obtain ⟨ff, kk, cc, pp, jc, jj, am, dd⟩ := h
  rcases dd with ⟨k, rfl, k1, k2, hp⟩ | ⟨rfl, _⟩
  · rw [show c - j = 0 by omega] at hp
    refine ⟨S.drop k, ?_⟩
    rw [hp]
    subst ff
    simp [ritsS, N.app]
  · omega
theorem RPr.lost {S : Bs} {c : Nat} {f : Bool} {n : N} {a : Int} {j : Nat} (h : RPr S c f j n a) (h0 : a < 0) : rparse S = none := by
  rcases h.dd with ⟨k, hk, _⟩ | ⟨_, h⟩
  · omega
  · exact h
/-- A key that can't be read: there is no node. -/
theorem RPr.nokey {S : Bs} {c : Nat} {f : Bool} {n : N} {a : Int} {j : Nat} (h : RPr S c f j n a) (h0 : 0 ≤ a) (hj : j < c) {key : Bs} {a2 : Int} (hr : Rat S (fromS S a rkeS) key a2) (h2 : a2 < 0) : rparse S = none := by
  rcases h.dd with ⟨k, rfl, k1, k2, hp⟩ | ⟨_, h⟩
  · rw [fromS_at] at hr
    rcases hr with ⟨k', rfl, _⟩ | ⟨-, hx⟩
    · omega
    · have e : c - j = (c - (j + 1)) + 1 := by omega
      rw [e] at hp
      have hp' : rparse S = ((ritS f (S.drop k)).bind fun x => (ritsS f (c - (j + 1)) x.2).map fun y => (x.1.app y.1, y.2)).map fun x => (n.app x.1, x.2) := hp
      rw [hp']
      unfold ritS
      rw [hx]
      rfl
  · exact h
theorem rparse_at {S : Bs} (hS : S.length = 232) : rparse S = rbodyS (S[0].toNat == 1) (S[1].toNat * 256 + S[2].toNat) (S.drop 3) := by
  match S, hS with
  | b0 :: b1 :: b2 :: T, hS =>
    unfold rparse fxS byS
    rw [if_neg (by rw [hS]; decide)]
    simp only [List.take_succ_cons, List.take_zero, List.drop_succ_cons, List.drop_zero, Option.map_some, Option.bind_some]
    rw [if_neg (by simp at hS ⊢)]
    simp only [Option.map_some, Option.bind_some, List.getElem_cons_zero, List.getElem_cons_succ]
    simp [unfF]
theorem RPr.start_leaf {S : Bs} (hS : S.length = 232) (h : S[0].toNat = 1) : RPr S (S[1].toNat * 256 + S[2].toNat) true 0 ⟨true, [], [], []⟩ 3 := by
  refine ⟨rfl, Nat.le_refl _, Nat.le_refl _, Nat.zero_le _, Nat.zero_le _, by decide, by decide, Or.inl ⟨3, rfl, by decide, by decide, ?_⟩⟩
  rw [rparse_at hS, h]
  show ritsS true _ _ = _
  rw [Nat.sub_zero]
  cases hr : ritsS true (S[1].toNat * 256 + S[2].toNat) (S.drop 3) with
  | none => rfl
  | some r =>
    obtain ⟨x, t⟩ := r
    have hf := (ritsS_len hr).2
    obtain ⟨f, ks, cs, ps⟩ := x
    simp only at hf
    subst hf
    rfl
theorem RPr.start_inner {S : Bs} (hS : S.length = 232) (h : S[0].toNat ≠ 1) {q : Nat} {a : Int} (hr : Rat S (fromS S 3 fun T => fxS T 4) q a) : RPr S (S[1].toNat * 256 + S[2].toNat) false 0 ⟨false, [], [], [(q : Int)]⟩ a := by
  have h' : (S[0].toNat == 1) = false := by simpa using h
  have hm := hr.most
  have e : fromS S 3 (fun T => fxS T 4) = fxS (S.drop 3) 4 := rfl
  rw [e] at hr
  refine ⟨rfl, Nat.le_refl _, Nat.le_refl _, Nat.le_refl _, Nat.zero_le _, by decide, by omega, ?_⟩
  rw [rparse_at hS, h']
  unfold rbodyS
  rw [if_neg (by decide), Nat.sub_zero]
  rcases hr with ⟨k, rfl, hk, hx⟩ | ⟨rfl, hx⟩
  · refine Or.inl ⟨k, rfl, ?_, by omega, by rw [hx]; rfl⟩
    have := (fxS_back hx).1
    have hl := congrArg List.length this
    rw [List.length_append, List.length_drop, List.length_drop, fixF_length] at hl
    omega
  · exact Or.inr ⟨rfl, by rw [hx]; rfl⟩
end No
end Go.Proofs.YtoifhcmgeackdaaGreatDoor
