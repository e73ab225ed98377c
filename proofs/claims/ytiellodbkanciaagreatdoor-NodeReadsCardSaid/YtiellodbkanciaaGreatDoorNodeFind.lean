/-
  Contract of the project's Find: the library's binary search over keys that rise.
-/
import Derived.Test.YtiellodbkanciaaGreatDoorNodeOk
import Derived.Test.YtiellodbkanciaaGreatDoorNodeBld
namespace Go.Proofs.YtiellodbkanciaaGreatDoor
open Go.RowKit
namespace No
open Num (hid)
def findR (n : N) (key : Bs) : Nat × Bool := if okN n then (fi n.ks key, isAt n.ks key) else (0, false)
theorem isAt_yes {l : List Bs} {key : Bs} {i : Nat} (hi : i < l.length) (hf : fi l key = i) (h : Lib.compareBytes l[i] key = 0) : isAt l key = true := by
  unfold isAt
  subst hf
  rw [List.getElem?_eq_getElem hi]
  exact decide_eq_true (congrArg some ((cmp_zero _ _).1 h))
theorem isAt_no {l : List Bs} {key : Bs} {i : Nat} (hi : i < l.length) (hf : fi l key = i) (h : ¬ Lib.compareBytes l[i] key = 0) : isAt l key = false := by
  unfold isAt
  subst hf
  rw [List.getElem?_eq_getElem hi]
  refine decide_eq_false fun e => h ?_
  rw [cmp_zero]
  exact Option.some.inj e
theorem isAt_end {l : List Bs} {key : Bs} {i : Nat} (hi : ¬ i < l.length) (hf : fi l key = i) : isAt l key = false := by
  unfold isAt
  rw [hf, List.getElem?_eq_none (by omega)]
  rfl
set_option maxRecDepth 100000 in
set_option maxHeartbeats 2000000 in
theorem bsearch_any (x : Value) (l : List Bs) (key : Bs) (hr : rise l = true) (hmax : l.length ≤ 1000000) (w : World) (h : SAt w x l) :
    Calls Tryz.prog 44 #[x, .string (bs key), .func (.func 45) #[] #[]] w fun e w' => e = .returned (.tuple #[.int .i64 (fi l key : Nat), .bool (isAt l key)]) ∧ Below w.heap.size w w' := by
  obtain ⟨ao, cap, rfl, -, -, hat⟩ := SAt.ways1 h
  have HAT := hid hat
  have HR := hid hr
  clear h hat hr
  go_enter Tryz.func44, Tryz.ntmps44
  go_wp2
  go_loopw [9, 10] (fun i j wr => ∃ lo hi : Nat, i = .int .i64 lo ∧ j = .int .i64 hi ∧ lo ≤ hi ∧ hi ≤ l.length ∧ Hid (∀ t (ht : t < lo) (hl : t < l.length), less l[t] key = true) ∧ Hid (∀ t (ht : hi ≤ t) (hl : t < l.length), less l[t] key = false) ∧ Hid (Below w.heap.size w wr)) (fun i j _ => (intOf j).toNat - (intOf i).toNat)
  case atStart => exact ⟨0, l.length, rfl, rfl, Nat.zero_le _, Nat.le_refl _, hid (fun t ht => absurd ht (Nat.not_lt_zero _)), hid (fun t ht hl => absurd hl (by omega)), hid (Below.refl _ _)⟩
  case round =>
    obtain ⟨lo, hi, rfl, rfl, hlh, hhl, HL, HH, HB⟩ := hrel
    by_cases hlt : lo < hi
    · have hmid : (lo + hi) / 2 < l.length := by omega
      obtain ⟨b, o, rfl, hbl, x0⟩ := HAT.out ((lo + hi) / 2) hmid
      have cm := (HB.out.cell (p := ⟨b, o + (lo + hi) / 2, none⟩) hbl).trans x0
      clear x0
      obtain ⟨y, hy⟩ : ∃ y, l[(lo + hi) / 2] = y := ⟨_, rfl⟩
      rw [hy] at cm
      have HC : Hid (∀ wx, Calls Tryz.prog 45 #[.string (bs y), .string (bs key)] wx fun e w' => e = .returned (.int .i64 (Lib.compareBytes y key)) ∧ wx = w') := hid (cmp_any (bs y) (bs key))
      have HLs := less_cmp y key
      by_cases hyx : Lib.compareBytes y key < 0
      · rw [decide_eq_true hyx] at HLs
        have HY : Hid (less (l[(lo + hi) / 2]) key = true) := hid (by rw [hy]; exact HLs)
        clear HLs hy
        go_wp2_with fail
        refine (HC.out _).mono ?_
        rintro e w' ⟨rfl, rfl⟩
        go_wp2
        go_roundw
        case measure => simp [intOf]; omega
        case rel =>
          refine ⟨(lo + hi) / 2 + 1, hi, by rw [show ((lo : Int) + (hi : Int)) / 2 + 1 = (((lo + hi) / 2 + 1 : Nat) : Int) by omega], rfl, by omega, hhl, hid fun t ht hl => ?_, HH, HB⟩
          by_cases e : t = (lo + hi) / 2
          · subst e; exact HY.out
          · exact less_trans (rise_lt HR.out _ t hmid (by omega)) HY.out
      · rw [decide_eq_false hyx] at HLs
        have HY : Hid (less (l[(lo + hi) / 2]) key = false) := hid (by rw [hy]; exact HLs)
        clear HLs hy
        go_wp2_with fail
        refine (HC.out _).mono ?_
        rintro e w' ⟨rfl, rfl⟩
        go_wp2
        go_roundw
        case measure => simp [intOf]; omega
        case rel =>
          refine ⟨lo, (lo + hi) / 2, rfl, by rw [show ((lo : Int) + (hi : Int)) / 2 = (((lo + hi) / 2 : Nat) : Int) by omega], by omega, by omega, HL, hid fun t ht hl => ?_, HB⟩
          by_cases e : t = (lo + hi) / 2
          · subst e; exact HY.out
          · cases h4 : less l[t] key with
            | false => rfl
            | true =>
              have := less_trans (rise_lt HR.out t ((lo + hi) / 2) hl (by omega)) h4
              rw [HY.out] at this
              cases this
    · obtain rfl : hi = lo := by omega
      have hfi : fi l key = hi := fi_unique l key hi hhl (fun i h => HL.out i h (by omega)) (fun h => HH.out hi (Nat.le_refl _) h)
      by_cases hn : hi < l.length
      · have hn' : (hi : Int) < l.length := by omega
        obtain ⟨b, o, rfl, hbl, x0⟩ := HAT.out hi hn
        have cm := (HB.out.cell (p := ⟨b, o + hi, none⟩) hbl).trans x0
        clear x0
        have HC : Hid (∀ wx, Calls Tryz.prog 45 #[.string (bs l[hi]), .string (bs key)] wx fun e w' => e = .returned (.int .i64 (Lib.compareBytes l[hi] key)) ∧ wx = w') := hid (cmp_any (bs l[hi]) (bs key))
        by_cases hyx : Lib.compareBytes l[hi] key = 0
        · have HE := hid (isAt_yes hn hfi hyx)
          have HF := hid hfi
          have hyx' : (Lib.compareBytes l[hi] key == 0) = true := by simpa using hyx
          clear hfi
          go_wp2_with fail
          refine (HC.out _).mono ?_
          rintro e w' ⟨rfl, rfl⟩
          go_wp2
          go_ret2
          exact ⟨by rw [HE.out, HF.out]; rfl, HB.out⟩
        · have HE := hid (isAt_no hn hfi hyx)
          have HF := hid hfi
          have hyx' : (Lib.compareBytes l[hi] key == 0) = false := by simpa using hyx
          clear hfi
          go_wp2_with fail
          refine (HC.out _).mono ?_
          rintro e w' ⟨rfl, rfl⟩
          go_wp2
          go_ret2
          exact ⟨by rw [HE.out, HF.out]; rfl, HB.out⟩
      · have hn' : ¬ (hi : Int) < l.length := by omega
        have HE := hid (isAt_end hn hfi)
        have HF := hid hfi
        clear hfi
        go_wp2
        go_ret2
        exact ⟨by rw [HE.out, HF.out]; rfl, HB.out⟩
def fV (x : Nat × Bool) : Value := .tuple #[.int .i64 (x.1 : Nat), .bool x.2]
set_option maxRecDepth 100000 in
set_option maxHeartbeats 1000000 in
theorem find_any (kv cv pv : Value) (n : N) (key : Bs) (hp : n.ps.length ≤ 4000) (hk : n.ks.length ≤ 1000000) (w : World) (h : NAt w kv cv pv n) :
    Calls Tryz.prog 14 #[nV n.f kv cv pv, .string (bs key)] w fun e w' => e = .returned (fV (findR n key)) ∧ Below w.heap.size w w' := by
  have B1 := hid ((Below.refl w.heap.size w).alloc (Nat.le_refl _) (.cells #[.bool n.f, kv, cv, pv] tN))
  have N1 := hid (Nb.new n.f kv cv pv w)
  have HA1 := hid (h.on ((Below.refl w.heap.size w).alloc (Nat.le_refl _) (.cells #[.bool n.f, kv, cv, pv] tN)))
  have HG := hid (fun w h => good_any kv cv pv n hp hk w h)
  have HB := hid (fun hr w h => bsearch_any kv n.ks key hr hk w h)
  unfold findR fV
  unfold nV at *
  generalize n.f = f at *
  cases ho : okN n with
  | false =>
    rw [ho] at HG
    rw [if_neg (by decide)]
    clear h ho HB
    go_enter Tryz.func14, Tryz.ntmps14
    go_wp2_with fail
    refine (HG.out _ HA1.out).mono ?_
    rintro e w3 ⟨rfl, hb⟩
    have B2 := hid (B1.out.trans (hb.mono B1.out.size))
    clear hb
    go_wp2
    go_ret2
    exact ⟨rfl, B2.out⟩
  | true =>
    rw [ho] at HG
    have hr : rise n.ks = true := by
      unfold okN at ho
      rw [Bool.and_eq_true, Bool.and_eq_true] at ho
      exact ho.2.1
    have HBB := hid (HB.out hr)
    rw [if_pos rfl]
    clear h ho HB hr
    go_enter Tryz.func14, Tryz.ntmps14
    go_wp2_with fail
    refine (HG.out _ HA1.out).mono ?_
    rintro e w3 ⟨rfl, hb⟩
    have B2 := hid (B1.out.trans (hb.mono B1.out.size))
    have N2 := hid (N1.out.on hb)
    have HA2 := hid (HA1.out.on hb)
    obtain ⟨c0, c1, c2, c3⟩ := N2.out.cells
    clear hb
    go_wp2_with fail
    refine (HBB.out _ HA2.out.k).mono ?_
    rintro e w4 ⟨rfl, hb⟩
    have B3 := hid (B2.out.trans (hb.mono B2.out.size))
    clear hb c0 c1 c2 c3
    go_wp2
    go_ret2
    exact ⟨rfl, B3.out⟩
end No
end Go.Proofs.YtiellodbkanciaaGreatDoor
