/-
  The sum over bytes as a plain function on numbers: what a group does, that a sum goes on, that each group and each beginning tells.
-/
namespace Go.Proofs.Ytfgaoopgnpigjaa
namespace Mix

/-- A byte of a text, 0 behind it. -/
def gb (l : List UInt8) (i : Nat) : Nat := (l.getD i 0).toNat
/-- The number of the group that begins at i. -/
def grp (l : List UInt8) (i : Nat) : Nat := gb l i * 16777216 + gb l (i + 1) * 65536 + gb l (i + 2) * 256 + gb l (i + 3)
def rotl7 (v : Nat) : Nat := v % 33554432 * 128 + v / 33554432
def stA (a b x : Nat) : Nat := (a + x + b) % 4294967296
def stB (a b x : Nat) : Nat := rotl7 ((b + x + stA a b x) % 4294967296)
/-- The two halves behind k groups. -/
def st (a b : Nat) (l : List UInt8) : Nat → Nat × Nat
  | 0 => (a, b)
  | k + 1 => (stA (st a b l k).1 (st a b l k).2 (grp l (4 * k)), stB (st a b l k).1 (st a b l k).2 (grp l (4 * k)))
def pair (p : Nat × Nat) : Nat := p.1 * 4294967296 + p.2
def sumN (n : Nat) (l : List UInt8) : Nat := pair (st (n / 4294967296) (n % 4294967296) l ((l.length + 3) / 4))

theorem gb_lt (l : List UInt8) (i : Nat) : gb l i < 256 := by unfold gb; exact (l.getD i 0).toNat_lt
theorem grp_lt (l : List UInt8) (i : Nat) : grp l i < 4294967296 := by
  have h0 := gb_lt l i; have h1 := gb_lt l (i + 1); have h2 := gb_lt l (i + 2); have h3 := gb_lt l (i + 3)
  unfold grp; omega
theorem rotl7_lt (v : Nat) (h : v < 4294967296) : rotl7 v < 4294967296 := by unfold rotl7; omega
theorem rotl7_inj {v u : Nat} (hv : v < 4294967296) (hu : u < 4294967296) (h : rotl7 v = rotl7 u) : v = u := by unfold rotl7 at h; omega
theorem stA_lt (a b x : Nat) : stA a b x < 4294967296 := by unfold stA; omega
theorem stB_lt (a b x : Nat) : stB a b x < 4294967296 := by unfold stB; exact rotl7_lt _ (by omega)

theorem st_lt (a b : Nat) (l : List UInt8) (ha : a < 4294967296) (hb : b < 4294967296) : ∀ k, (st a b l k).1 < 4294967296 ∧ (st a b l k).2 < 4294967296
  | 0 => ⟨ha, hb⟩
  | _ + 1 => ⟨stA_lt _ _ _, stB_lt _ _ _⟩

theorem st_congr (a b : Nat) (l m : List UInt8) : ∀ k, (∀ i, i < k → grp l (4 * i) = grp m (4 * i)) → st a b l k = st a b m k
  | 0, _ => rfl
  | k + 1, h => by
    have ih := st_congr a b l m k (fun i hi => h i (by omega))
    simp only [st]
    rw [ih, h k (by omega)]

theorem gb_left (s t : List UInt8) (i : Nat) (h : i < s.length) : gb (s ++ t) i = gb s i := by
  unfold gb; rw [List.getD_eq_getElem?_getD, List.getD_eq_getElem?_getD, List.getElem?_append_left h]
theorem gb_right (s t : List UInt8) (i : Nat) : gb (s ++ t) (s.length + i) = gb t i := by
  unfold gb; rw [List.getD_eq_getElem?_getD, List.getD_eq_getElem?_getD, List.getElem?_append_right (by omega), Nat.add_sub_cancel_left]
theorem gb_over (s : List UInt8) (i : Nat) (h : s.length ≤ i) : gb s i = 0 := by
  unfold gb; rw [List.getD_eq_getElem?_getD, List.getElem?_eq_none h]; rfl
theorem gb_zeros (k i : Nat) : gb (List.replicate k 0) i = 0 := by
  unfold gb
  rw [List.getD_eq_getElem?_getD, List.getElem?_replicate]
  split <;> rfl
theorem grp_zeros (k i : Nat) : grp (List.replicate k 0) i = 0 := by simp [grp, gb_zeros]

theorem grp_left (s t : List UInt8) (i : Nat) (h : i + 4 ≤ s.length) : grp (s ++ t) i = grp s i := by
  unfold grp; rw [gb_left _ _ _ (by omega), gb_left _ _ _ (by omega), gb_left _ _ _ (by omega), gb_left _ _ _ (by omega)]
theorem grp_right (s t : List UInt8) (i : Nat) : grp (s ++ t) (s.length + i) = grp t i := by
  unfold grp; rw [Nat.add_assoc s.length i 1, Nat.add_assoc s.length i 2, Nat.add_assoc s.length i 3, gb_right, gb_right, gb_right, gb_right]
theorem gb_pad (s : List UInt8) (k i : Nat) : gb (s ++ List.replicate k 0) i = gb s i := by
  by_cases h : i < s.length
  · exact gb_left _ _ _ h
  · have e : i = s.length + (i - s.length) := by omega
    rw [gb_over s i (by omega), e, gb_right, gb_zeros]
theorem grp_pad (s : List UInt8) (k i : Nat) : grp (s ++ List.replicate k 0) i = grp s i := by simp [grp, gb_pad]

theorem st_split (a b m : Nat) (s t : List UInt8) (h : s.length = 4 * m) : ∀ k, st a b (s ++ t) (m + k) = st (st a b s m).1 (st a b s m).2 t k
  | 0 => by
    have := st_congr a b (s ++ t) s m (fun i hi => grp_left s t _ (by omega))
    simpa [st] using this
  | k + 1 => by
    have ih := st_split a b m s t h k
    have e : 4 * (m + k) = s.length + 4 * k := by omega
    rw [← Nat.add_assoc, st, st, ih, e, grp_right]

theorem pair_lt {p : Nat × Nat} (h : p.1 < 4294967296 ∧ p.2 < 4294967296) : pair p < 18446744073709551616 := by unfold pair; omega
theorem pair_hi {p : Nat × Nat} (h : p.2 < 4294967296) : pair p / 4294967296 = p.1 := by unfold pair; omega
theorem pair_lo {p : Nat × Nat} (h : p.2 < 4294967296) : pair p % 4294967296 = p.2 := by unfold pair; omega

theorem st_ok (n : Nat) (l : List UInt8) (k : Nat) (hn : n < 18446744073709551616) : (st (n / 4294967296) (n % 4294967296) l k).1 < 4294967296 ∧ (st (n / 4294967296) (n % 4294967296) l k).2 < 4294967296 :=
  st_lt _ _ _ (by omega) (by omega) k
theorem sumN_lt (n : Nat) (l : List UInt8) (hn : n < 18446744073709551616) : sumN n l < 18446744073709551616 := pair_lt (st_ok n l _ hn)

/-- P2.2: a sum goes on where another one ended, at every fourth byte. -/
theorem sumN_goes (n : Nat) (s t : List UInt8) (hn : n < 18446744073709551616) (h : s.length % 4 = 0) : sumN n (s ++ t) = sumN (sumN n s) t := by
  have hm : s.length = 4 * (s.length / 4) := by omega
  have e1 : ((s ++ t).length + 3) / 4 = s.length / 4 + (t.length + 3) / 4 := by rw [List.length_append]; omega
  have e2 : (s.length + 3) / 4 = s.length / 4 := by omega
  have hk := st_ok n s (s.length / 4) hn
  have e3 : sumN n s = pair (st (n / 4294967296) (n % 4294967296) s (s.length / 4)) := by unfold sumN; rw [e2]
  rw [e3]
  unfold sumN
  rw [pair_hi hk.2, pair_lo hk.2, e1, st_split _ _ _ _ _ hm]

theorem step_inj {a b c d x : Nat} (ha : a < 4294967296) (hb : b < 4294967296) (hc : c < 4294967296) (hd : d < 4294967296) (h1 : stA a b x = stA c d x) (h2 : stB a b x = stB c d x) : a = c ∧ b = d := by
  have h3 : (b + x + stA a b x) % 4294967296 = (d + x + stA c d x) % 4294967296 := rotl7_inj (by omega) (by omega) h2
  rw [h1] at h3
  unfold stA at h1 h3
  omega
theorem step_inj_x {a b x y : Nat} (hx : x < 4294967296) (hy : y < 4294967296) (h1 : stA a b x = stA a b y) : x = y := by
  unfold stA at h1; omega
theorem st_inj {a b c d : Nat} (l : List UInt8) (ha : a < 4294967296) (hb : b < 4294967296) (hc : c < 4294967296) (hd : d < 4294967296) : ∀ k, st a b l k = st c d l k → a = c ∧ b = d
  | 0, h => ⟨congrArg Prod.fst h, congrArg Prod.snd h⟩
  | k + 1, h => by
    have k1 := st_lt a b l ha hb k
    have k2 := st_lt c d l hc hd k
    have e := step_inj k1.1 k1.2 k2.1 k2.2 (congrArg Prod.fst h) (congrArg Prod.snd h)
    exact st_inj l ha hb hc hd k (Prod.ext e.1 e.2)
theorem pair_inj {p q : Nat × Nat} (hp : p.2 < 4294967296) (hq : q.2 < 4294967296) (h : pair p = pair q) : p = q := by
  have e1 := pair_hi hp; have e2 := pair_lo hp; have e3 := pair_hi hq; have e4 := pair_lo hq
  rw [h] at e1 e2
  exact Prod.ext (e1.symm.trans e3) (e2.symm.trans e4)

/-- P2.3: another beginning tells. -/
theorem sumN_inj {n m : Nat} (l : List UInt8) (hn : n < 18446744073709551616) (hm : m < 18446744073709551616) (h : sumN n l = sumN m l) : n = m := by
  have k1 := st_ok n l ((l.length + 3) / 4) hn
  have k2 := st_ok m l ((l.length + 3) / 4) hm
  have e := st_inj l (by omega) (by omega) (by omega) (by omega) _ (pair_inj k1.2 k2.2 h)
  omega

theorem gb_at {l m : List UInt8} (i : Nat) (h1 : i < l.length) (h2 : i < m.length) (h : gb l i = gb m i) : l[i] = m[i] := by
  unfold gb at h
  rw [List.getD_eq_getElem?_getD, List.getD_eq_getElem?_getD, List.getElem?_eq_getElem h1, List.getElem?_eq_getElem h2] at h
  exact UInt8.toNat_inj.1 h
theorem grp_inj {l m : List UInt8} (h1 : l.length = 4) (h2 : m.length = 4) (h : grp l 0 = grp m 0) : l = m := by
  have a0 := gb_lt l 0; have a1 := gb_lt l 1; have a2 := gb_lt l 2; have a3 := gb_lt l 3
  have b0 := gb_lt m 0; have b1 := gb_lt m 1; have b2 := gb_lt m 2; have b3 := gb_lt m 3
  simp only [grp, Nat.zero_add] at h
  refine List.ext_getElem (by omega) fun i k1 k2 => gb_at i k1 k2 ?_
  obtain rfl | rfl | rfl | rfl : i = 0 ∨ i = 1 ∨ i = 2 ∨ i = 3 := by omega
  all_goals omega
/-- P2.3: another group tells. -/
theorem sumN_inj4 {n : Nat} {l m : List UInt8} (hn : n < 18446744073709551616) (h1 : l.length = 4) (h2 : m.length = 4) (h : sumN n l = sumN n m) : l = m := by
  have k1 := st_ok n l ((l.length + 3) / 4) hn
  have k2 := st_ok n m ((m.length + 3) / 4) hn
  have e := pair_inj k1.2 k2.2 h
  rw [h1, h2] at e
  have e1 : (4 + 3) / 4 = 0 + 1 := by decide
  rw [e1] at e
  exact grp_inj h1 h2 (step_inj_x (grp_lt _ _) (grp_lt _ _) (congrArg Prod.fst e))

/-- P2.1: noughts that fill the last group change nothing. -/
theorem sumN_pad (n k : Nat) (s : List UInt8) (h : (s.length + k + 3) / 4 = (s.length + 3) / 4) : sumN n (s ++ List.replicate k 0) = sumN n s := by
  unfold sumN
  rw [List.length_append, List.length_replicate, h]
  exact congrArg pair (st_congr _ _ _ _ _ fun i _ => grp_pad s k _)

theorem sumN_nought (n : Nat) (hn : n < 18446744073709551616) : sumN n [0, 0, 0, 0] = n ↔ n = 0 := by
  have e : grp [0, 0, 0, 0] 0 = 0 := by decide
  have e1 : sumN n [0, 0, 0, 0] = stA (n / 4294967296) (n % 4294967296) 0 * 4294967296 + stB (n / 4294967296) (n % 4294967296) 0 := by
    unfold sumN pair
    have k : ([0, 0, 0, 0] : List UInt8).length = 4 := rfl
    rw [k, show (4 + 3) / 4 = 0 + 1 by decide]
    simp only [st, Nat.mul_zero, e]
  rw [e1]
  have k1 := stA_lt (n / 4294967296) (n % 4294967296) 0
  have k2 := stB_lt (n / 4294967296) (n % 4294967296) 0
  constructor
  · intro h
    have h1 : stA (n / 4294967296) (n % 4294967296) 0 = n / 4294967296 := by omega
    have h2 : stB (n / 4294967296) (n % 4294967296) 0 = n % 4294967296 := by omega
    unfold stB at h2
    rw [h1] at h2
    unfold stA at h1
    unfold rotl7 at h2
    omega
  · rintro rfl; decide

end Mix
end Go.Proofs.Ytfgaoopgnpigjaa
