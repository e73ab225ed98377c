/-
  Contract of the project's parseByte.
-/
import Derived.Test.YtiellodbkanciaaGreatDoorValHex
import Derived.Test.YtiellodbkanciaaGreatDoorGrpValC
import Derived.Test.YtiellodbkanciaaGreatDoorGrpValB
namespace Go.Proofs.YtiellodbkanciaaGreatDoor
open Go.RowKit
namespace Va
open Num (hid)
def PuPub (x y : UInt8) (w : World) (e : Ending) (w' : World) : Prop := ∃ (n : Nat) (ev : Value), e = .returned (.tuple #[.int .u64 (n : Int), ev]) ∧ n ≤ 255 ∧ (hexv x < 16 ∧ hexv y < 16 → n = 16 * hexv x + hexv y) ∧ Below w.heap.size w w'
theorem pu_pub {x y : UInt8} {w w' : World} {n : Int} {ev : Value} (h0 : 0 ≤ n) (h1 : n ≤ 255) (h3 : hexv x < 16 ∧ hexv y < 16 → n = 16 * (hexv x : Int) + hexv y) (h4 : Below w.heap.size w w') :
    PuPub x y w (.returned (.tuple #[.int .u64 n, ev])) w' :=
  ⟨n.toNat, ev, by rw [show ((n.toNat : Nat) : Int) = n by omega], by omega, fun h => by have := h3 h; omega, h4⟩
theorem synerr_any (fn s : ByteArray) (base bits : Int) (w : World) (g : Glob w) (hs : s.size ≤ 281474976710656) :
    Calls Tryz.prog 196 #[.string fn, .string s, .int .i64 base, .int .i64 bits, .iface 201 (.int .i64 2)] w fun e w' => ∃ v, e = .returned v ∧ Below w.heap.size w w' := by
  obtain ⟨t1, p1, h1⟩ := g.syn
  refine (Any.strconv_toError_syntax Tryz.toErrL fn s base bits (.iface t1 p1) w hs h1 (Or.inr ⟨t1, p1, rfl⟩)).mono ?_
  rintro e w' ⟨N, rfl, _, _, hb⟩
  exact ⟨_, rfl, hb⟩
set_option maxHeartbeats 1000000 in
set_option maxRecDepth 100000 in
theorem pu_any (x y : UInt8) (w : World) (g : Glob w) : Calls Tryz.prog 194 #[.string ⟨#[x, y]⟩, .int .i64 16, .int .i64 8] w (PuPub x y w) := by
  go_enter Tryz.func194, Tryz.ntmps194
  go_wp2_with fail
  refine (pu_inner x y _).mono ?_
  rintro e w1 ⟨n, ev, rfl, h0, h1, hev, hp, hb⟩
  have HP := hid hp
  have HB := hid hb
  have Hg := hid (g.on hb)
  clear hp hb g
  rcases hev with rfl | rfl
  · go_wp2
    go_ret2
    exact pu_pub h0 h1 HP.out HB.out
  · go_wp2_with fail
    refine (synerr_any _ _ 16 8 _ Hg.out (by have e : (⟨#[x, y]⟩ : ByteArray).size = 2 := rfl; omega)).mono ?_
    rintro e w2 ⟨v, rfl, hb2⟩
    have HB2 := hid (HB.out.trans (hb2.mono HB.out.size))
    clear hb2
    go_wp2
    go_ret2
    exact pu_pub h0 h1 HP.out HB2.out
/-! ### parseByte -/
def pbV : Option (UInt8 × Nat) → Value
  | some (b, n) => .tuple #[.int .u8 (b.toNat : Int), .int .i64 n]
  | none => .tuple #[.int .u8 0, .int .i64 0]
/-- The byte that is tried, and whether it stands there as it is written. -/
def Tries (s : Bs) (b : UInt8) : Prop := pbyte s = if (shb b).isPrefixOf s then some (b, (shb b).length) else none
theorem tries_plain {c : UInt8} {l : Bs} (h : c.toNat ≠ 92) : Tries (c :: l) c := by
  unfold Tries
  simp only [pbyte]
  by_cases h39 : c.toNat = 39
  · have e : c = 39 := UInt8.toNat_inj.1 h39
    subst e
    rw [if_pos (show (39 : UInt8).toNat = 39 from rfl)]
    have hs : shb 39 = [39, 39] := rfl
    rw [hs]
    cases l with
    | nil => simp [List.isPrefixOf]
    | cons d l =>
      by_cases hd : d.toNat = 39
      · have e : d = 39 := UInt8.toNat_inj.1 hd
        subst e
        simp [List.isPrefixOf]
      · have e : ¬ (39 : UInt8) = d := fun e => hd (by rw [← e]; rfl)
        simp [List.isPrefixOf, hd, e]
  · rw [if_neg h39, if_neg h]
    have hs : shb c = if odd c then [92, hexc (c.toNat / 16), hexc (c.toNat % 16)] else [c] := if_neg h39
    rw [hs]
    cases ho : odd c with
    | true =>
      have e : ¬ (92 : UInt8) = c := fun e => h (by rw [← e]; rfl)
      simp [List.isPrefixOf, e]
    | false => simp [List.isPrefixOf]
theorem tries_short {l : Bs} (h : l.length < 2) : Tries (92 :: l) 92 := by
  unfold Tries
  have hs : shb 92 = [92, 53, 99] := by decide
  rw [hs]
  match l with
  | [] => rfl
  | [a] =>
    have e : (92 : UInt8).toNat = 92 := rfl
    simp [pbyte, e, List.isPrefixOf]
  | _ :: _ :: _ => simp at h; omega
theorem tries_hex {a b : UInt8} {l : Bs} {n : Nat} (hn : n ≤ 255) (h : hexv a < 16 ∧ hexv b < 16 → n = 16 * hexv a + hexv b) : Tries (92 :: a :: b :: l) (UInt8.ofNat n) := by
  unfold Tries
  have e92 : (92 : UInt8).toNat = 92 := rfl
  have en : (UInt8.ofNat n).toNat = n := by rw [Num.ofNat_toNat]; omega
  simp only [pbyte, e92, if_neg (by decide : ¬ 92 = 39), if_true]
  by_cases hh : hexv a < 16 ∧ hexv b < 16 ∧ odd (UInt8.ofNat (16 * hexv a + hexv b))
  · rw [if_pos hh]
    obtain ⟨ha, hb, ho⟩ := hh
    have e := h ⟨ha, hb⟩
    rw [← e] at ho ⊢
    have hs : shb (UInt8.ofNat n) = [92, a, b] := by
      unfold shb
      rw [if_neg (odd_39 ho), if_pos ho, en, e]
      rw [show (16 * hexv a + hexv b) / 16 = hexv a by omega, show (16 * hexv a + hexv b) % 16 = hexv b by omega, hexc_back ha, hexc_back hb]
    rw [hs]
    simp [List.isPrefixOf]
  · rw [if_neg hh]
    rw [if_neg]
    intro hp
    apply hh
    unfold shb at hp
    by_cases h39 : (UInt8.ofNat n).toNat = 39
    · rw [if_pos h39] at hp
      simp [List.isPrefixOf] at hp
    · rw [if_neg h39] at hp
      cases ho : odd (UInt8.ofNat n) with
      | true =>
        rw [ho, if_pos rfl, en] at hp
        simp [List.isPrefixOf] at hp
        obtain ⟨e1, e2⟩ := hp
        have g1 : hexv a = n / 16 := by rw [← e1, hexv_back _ (by omega)]
        have g2 : hexv b = n % 16 := by rw [← e2, hexv_back _ (by omega)]
        refine ⟨by omega, by omega, ?_⟩
        rw [g1, g2, show 16 * (n / 16) + n % 16 = n by omega]
        exact ho
      | false =>
        rw [ho] at hp
        simp [List.isPrefixOf] at hp
        have := odd_92 ho
        rw [hp] at this
        exact absurd rfl this
theorem ext_two {s : ByteArray} (h : 2 < s.size) : s.extract 1 3 = ⟨#[s[1], s[2]]⟩ := by
  apply ByteArray.ext
  apply Array.ext'
  have e : (s.extract 1 3).data.toList = ((bl s).drop 1).take 2 := by
    rw [ByteArray.data_extract]
    simp [bl]
  rw [e, rest_cons (by omega : 1 < s.size), rest_cons h]
  rfl
theorem wrap_u8 (n : Nat) : IntKind.u8.wrap (n : Int) = ((UInt8.ofNat n).toNat : Int) := by
  rw [Num.ofNat_toNat]
  unfold IntKind.wrap
  simp [IntKind.bits, IntKind.signed]
set_option maxHeartbeats 4000000 in
set_option maxRecDepth 100000 in
theorem pbyte_any (s : ByteArray) (hs : 0 < s.size) (w : World) (g : Glob w) : Calls Tryz.prog 171 #[.string s] w fun e w' => e = .returned (pbV (pbyte (bl s))) ∧ Below w.heap.size w w' := by
  have hc := rest_cons hs
  rw [List.drop_zero] at hc
  have Hg := hid g
  clear g
  by_cases h92 : s[0].toNat = 92
  · have b92 : ((s[0].toNat : Int) == 92) = true := by simp only [beq_iff_eq]; omega
    have e92 : s[0] = 92 := UInt8.toNat_inj.1 h92
    by_cases hl : 2 < s.size
    · have hl' : (2 : Int) < (s.size : Int) := by omega
      have h3' : (3 : Int) ≤ (s.size : Int) := by omega
      have hpu := fun w g => pu_any s[1] s[2] w g
      rw [← ext_two hl] at hpu
      have Hpu := hid hpu
      have hT := hid (fun (n : Nat) (hn : n ≤ 255) (h : hexv s[1] < 16 ∧ hexv s[2] < 16 → n = 16 * hexv s[1] + hexv s[2]) => tries_hex (a := s[1]) (b := s[2]) (l := (bl s).drop 3) hn h)
      have hcons : bl s = (92 : UInt8) :: s[1] :: s[2] :: (bl s).drop 3 := by rw [hc, e92, rest_cons (by omega : 1 < s.size), rest_cons hl]; rfl
      have HC := hid hcons
      clear hpu hcons hc e92 h92
      go_enter Tryz.func171, Tryz.ntmps171
      go_wp2_with fail
      refine (Hpu.out _ Hg.out).mono ?_
      rintro e w1 ⟨n, ev, rfl, hn, hp, hb⟩
      have T := hT.out n hn hp
      rw [← HC.out] at T
      have hw := wrap_u8 n
      generalize UInt8.ofNat n = x at T hw
      have HB := hid hb
      have hz1 := hb.size
      clear hb hp
      go_wp2_with fail
      refine (shb_any x _).mono ?_
      rintro e w2 ⟨rfl, hb2⟩
      have HB2 := hid (HB.out.trans (hb2.mono hz1))
      clear hb2
      cases hq : (shb x).isPrefixOf (bl s) with
      | true =>
        have hV := hid (show pbyte (bl s) = some (x, (shb x).length) by rw [T, hq]; rfl)
        have HQ := hid hq
        clear hq T
        go_wp2_with fail
        refine (hp_c s (bs (shb x)) true HQ.out _).mono ?_
        rintro e w' ⟨rfl, rfl⟩
        go_wp2
        go_ret2
        rw [hV.out]
        exact ⟨by unfold pbV; rw [← bs_size]; rfl, HB2.out⟩
      | false =>
        have hV := hid (show pbyte (bl s) = none by rw [T, hq]; rfl)
        have HQ := hid hq
        clear hq T
        go_wp2_with fail
        refine (hp_c s (bs (shb x)) false HQ.out _).mono ?_
        rintro e w' ⟨rfl, rfl⟩
        go_wp2
        go_ret2
        rw [hV.out]
        exact ⟨rfl, HB2.out⟩
    · have hl' : ¬ (2 : Int) < (s.size : Int) := by omega
      have T : Tries (bl s) s[0] := by
        rw [hc, e92]
        exact tries_short (by rw [List.length_drop, bl_len]; omega)
      have HC := hid e92
      clear hc e92 h92
      go_enter Tryz.func171, Tryz.ntmps171
      go_wp2_with fail
      refine (shb_any s[0] _).mono ?_
      rintro e w2 ⟨rfl, hb2⟩
      have HB2 := hid hb2
      clear hb2
      cases hq : (shb s[0]).isPrefixOf (bl s) with
      | true =>
        have hV := hid (show pbyte (bl s) = some (s[0], (shb s[0]).length) by rw [T, hq]; rfl)
        have HQ := hid hq
        clear hq T
        go_wp2_with fail
        refine (hp_c s (bs (shb s[0])) true HQ.out _).mono ?_
        rintro e w' ⟨rfl, rfl⟩
        go_wp2
        go_ret2
        rw [hV.out]
        exact ⟨by unfold pbV; rw [← bs_size]; rfl, HB2.out⟩
      | false =>
        have hV := hid (show pbyte (bl s) = none by rw [T, hq]; rfl)
        have HQ := hid hq
        clear hq T
        go_wp2_with fail
        refine (hp_c s (bs (shb s[0])) false HQ.out _).mono ?_
        rintro e w' ⟨rfl, rfl⟩
        go_wp2
        go_ret2
        rw [hV.out]
        exact ⟨rfl, HB2.out⟩
  · have b92 : ((s[0].toNat : Int) == 92) = false := by simp only [beq_eq_false_iff_ne, ne_eq]; omega
    have T : Tries (bl s) s[0] := by
      rw [hc]
      exact tries_plain h92
    clear hc h92
    go_enter Tryz.func171, Tryz.ntmps171
    go_wp2_with fail
    refine (shb_any s[0] _).mono ?_
    rintro e w2 ⟨rfl, hb2⟩
    have HB2 := hid hb2
    clear hb2
    cases hq : (shb s[0]).isPrefixOf (bl s) with
    | true =>
      have hV := hid (show pbyte (bl s) = some (s[0], (shb s[0]).length) by rw [T, hq]; rfl)
      have HQ := hid hq
      clear hq T
      go_wp2_with fail
      refine (hp_c s (bs (shb s[0])) true HQ.out _).mono ?_
      rintro e w' ⟨rfl, rfl⟩
      go_wp2
      go_ret2
      rw [hV.out]
      exact ⟨by unfold pbV; rw [← bs_size]; rfl, HB2.out⟩
    | false =>
      have hV := hid (show pbyte (bl s) = none by rw [T, hq]; rfl)
      have HQ := hid hq
      clear hq T
      go_wp2_with fail
      refine (hp_c s (bs (shb s[0])) false HQ.out _).mono ?_
      rintro e w' ⟨rfl, rfl⟩
      go_wp2
      go_ret2
      rw [hV.out]
      exact ⟨rfl, HB2.out⟩
end Va
end Go.Proofs.YtiellodbkanciaaGreatDoor
