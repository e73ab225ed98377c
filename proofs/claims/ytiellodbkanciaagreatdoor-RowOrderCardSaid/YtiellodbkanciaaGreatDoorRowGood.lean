/-
  Contracts of Good, the project's and the reference's.
-/
import Derived.Test.YtiellodbkanciaaGreatDoorGrpRowA
namespace Go.Proofs.YtiellodbkanciaaGreatDoor
open Go.RowKit
namespace Ro
open Va
open Num (hid)
set_option maxHeartbeats 1000000 in
theorem isbad_any (v : V) (w : World) : Calls Tryz.prog 67 #[.agg #[.int .i64 v.K, .int .i64 v.N, .string v.S]] w fun e w' => e = .returned (.bool (!v.good)) ∧ Below w.heap.size w w' := by
  have B1 : Hid (Below w.heap.size w (w.alloc (.cells #[.int .i64 v.K, .int .i64 v.N, .string v.S] tV))) := hid ((Below.refl _ _).alloc (Nat.le_refl _) _)
  have G := hid (good_any v.K v.N v.S)
  go_enter Tryz.func67, Tryz.ntmps67
  go_wp2_with fail
  refine (G.out _).mono ?_
  rintro e w3 ⟨rfl, hb3⟩
  have B3 := hid (B1.out.trans (hb3.mono B1.out.size))
  clear hb3
  go_wp2
  go_ret
  exact ⟨rfl, B3.out⟩
def allGood (l : Vs) : Bool := l.all V.good
theorem all_split {l : Vs} {k : Nat} (h : k < l.length) (_ : ∀ j (hj : j < k), (l[j]'(by omega)).good = true) (hg : l[k].good = false) : l.all V.good = false := by
  rw [List.all_eq_false]
  exact ⟨l[k], List.getElem_mem h, by rw [hg]; decide⟩
theorem all_full {l : Vs} (hk : ∀ j (hj : j < l.length), l[j].good = true) : l.all V.good = true := by
  rw [List.all_eq_true]
  intro v hv
  obtain ⟨j, hj, rfl⟩ := List.getElem_of_mem hv
  exact hk j hj
set_option maxRecDepth 100000 in
set_option maxHeartbeats 1000000 in
theorem index_any (x : Value) (l : Vs) (w : World) (h : RowAt w x l) :
    Calls Tryz.prog 114 #[x, .func (.func 67) #[] #[]] w fun e w' => (∃ i : Int, e = .returned (.int .i64 i) ∧ decide (0 ≤ i) = !(l.all V.good)) ∧ Below w.heap.size w w' := by
  have H := hid h
  obtain ⟨ao, cap, rfl, hmax, hat⟩ := h.ways
  have HAT := hid hat
  have hmax' : (l.length : Int) ≤ 9223372036854775807 := by unfold maxLen at hmax; omega
  clear h hat
  go_enter Tryz.func114, Tryz.ntmps114
  go_wp2
  go_loopw [8] (fun i wr => ∃ k : Nat, k ≤ l.length ∧ i = .int .i64 k ∧ (∀ j (hj : j < k) (hl : j < l.length), l[j].good = true) ∧ Below w.heap.size w wr) (fun i _ => l.length - (intOf i).toNat)
  case atStart => exact ⟨0, Nat.zero_le _, rfl, fun j hj => absurd hj (Nat.not_lt_zero _), Below.refl _ _⟩
  case round =>
    obtain ⟨k, hk, rfl, hne, hb⟩ := hrel
    have HNE := hid hne
    have HB := hid hb
    have hszr := hb.size
    clear hne hb
    by_cases hlt : k < l.length
    · obtain ⟨b, o, rfl, hbl, x0, x1, x2⟩ := HAT.out k hlt
      have y0 := (HB.out.cell (p := ⟨b, o + k * 3, none⟩) hbl).trans x0
      have y1 := (HB.out.cell (p := ⟨b, o + k * 3 + 1, none⟩) hbl).trans x1
      have y2 := (HB.out.cell (p := ⟨b, o + k * 3 + 2, none⟩) hbl).trans x2
      clear x0 x1 x2
      cases hg : l[k].good with
      | false =>
        have HI := hid (isbad_any l[k])
        rw [hg] at HI
        have HS := hid (all_split hlt (fun j hj => HNE.out j hj (by omega)) hg)
        clear hg
        generalize l[k] = v at *
        go_wp2_with fail
        refine (HI.out _).mono ?_
        rintro e w3 ⟨rfl, hb3⟩
        have B3 := hid (HB.out.trans (hb3.mono hszr))
        clear hb3
        go_wp2
        go_ret
        exact ⟨⟨k, rfl, by rw [HS.out]; simp⟩, B3.out⟩
      | true =>
        have HI := hid (isbad_any l[k])
        rw [hg] at HI
        have HG := hid hg
        clear hg
        go_wp2_with fail
        refine (HI.out _).mono ?_
        rintro e w3 ⟨rfl, hb3⟩
        have B3 := hid (HB.out.trans (hb3.mono hszr))
        clear hb3
        go_wp2
        go_roundw
        case rel =>
          refine ⟨k + 1, by omega, by go_num, fun j hj hl => ?_, B3.out⟩
          by_cases hjk : j < k
          · exact HNE.out j hjk hl
          · obtain rfl : j = k := by omega
            exact HG.out
        case measure => simp [intOf]; omega
    · have HS := hid (all_full (l := l) (fun j hj => HNE.out j (by omega) hj))
      go_wp2
      go_ret
      exact ⟨⟨-1, rfl, by rw [HS.out]; rfl⟩, HB.out⟩
set_option maxRecDepth 100000 in
set_option maxHeartbeats 1000000 in
theorem contains_any (x : Value) (l : Vs) (w : World) (h : RowAt w x l) :
    Calls Tryz.prog 66 #[x, .func (.func 67) #[] #[]] w fun e w' => e = .returned (.bool (!(l.all V.good))) ∧ Below w.heap.size w w' := by
  have H := hid h
  obtain ⟨ao, cap, rfl, -, -⟩ := h.ways
  clear h
  go_enter Tryz.func66, Tryz.ntmps66
  go_wp2_with fail
  refine (index_any _ l _ H.out).mono ?_
  rintro e w' ⟨⟨i, rfl, hi⟩, hb⟩
  have HI := hid hi
  have HB := hid hb
  clear hi hb
  go_wp2
  go_ret
  exact ⟨by rw [← HI.out]; rfl, HB.out⟩
theorem goodR_long {l : Vs} (h : 16 < l.length) : goodR l = false := by unfold goodR; rw [decide_eq_false (by omega)]; rfl
theorem goodR_short {l : Vs} (h : l.length ≤ 16) : goodR l = l.all V.good := by unfold goodR; rw [decide_eq_true h]; rfl
set_option maxRecDepth 100000 in
set_option maxHeartbeats 1000000 in
theorem good_any (x : Value) (l : Vs) (w : World) (h : RowAt w x l) :
    Calls Tryz.prog 27 #[x] w fun e w' => e = .returned (.bool (goodR l)) ∧ Below w.heap.size w w' := by
  have H := hid h
  obtain ⟨ao, cap, rfl, -, -⟩ := h.ways
  clear h
  by_cases hl : l.length ≤ 16
  · rw [goodR_short hl]
    have hl' : (l.length : Int) ≤ 16 := by omega
    go_enter Tryz.func27, Tryz.ntmps27
    go_wp2_with fail
    refine (contains_any _ l _ H.out).mono ?_
    rintro e w' ⟨rfl, hb⟩
    have HB := hid hb
    clear hb
    go_wp2
    go_ret
    exact ⟨rfl, HB.out⟩
  · rw [goodR_long (by omega)]
    have hl' : ¬ (l.length : Int) ≤ 16 := by omega
    go_enter Tryz.func27, Tryz.ntmps27
    go_wp2
    go_ret
    exact ⟨rfl, Below.refl _ _⟩
set_option maxRecDepth 100000 in
set_option maxHeartbeats 1000000 in
theorem rgood_any (x : Value) (l : Vs) (w : World) (h : RowAt w x l) :
    Calls Tryz.prog 28 #[x] w fun e w' => e = .returned (.bool (goodR l)) ∧ Below w.heap.size w w' := by
  have H := hid h
  obtain ⟨ao, cap, rfl, hmax, hat⟩ := h.ways
  have HAT := hid hat
  clear h hat
  by_cases hl : l.length ≤ 16
  · rw [goodR_short hl]
    have hl' : (l.length : Int) ≤ 16 := by omega
    go_enter Tryz.func28, Tryz.ntmps28
    go_wp2
    go_loopw [3] (fun i wr => ∃ k : Nat, k ≤ l.length ∧ i = .int .i64 k ∧ (∀ j (hj : j < k) (hl : j < l.length), l[j].good = true) ∧ Below w.heap.size w wr) (fun i _ => l.length - (intOf i).toNat)
    case atStart => exact ⟨0, Nat.zero_le _, rfl, fun j hj => absurd hj (Nat.not_lt_zero _), Below.refl _ _⟩
    case round =>
      obtain ⟨k, hk, rfl, hne, hb⟩ := hrel
      have HNE := hid hne
      have HB := hid hb
      have hszr := hb.size
      clear hne hb
      by_cases hlt : k < l.length
      · obtain ⟨b, o, rfl, hbl, x0, x1, x2⟩ := HAT.out k hlt
        have y0 := (HB.out.cell (p := ⟨b, o + k * 3, none⟩) hbl).trans x0
        have y1 := (HB.out.cell (p := ⟨b, o + k * 3 + 1, none⟩) hbl).trans x1
        have y2 := (HB.out.cell (p := ⟨b, o + k * 3 + 2, none⟩) hbl).trans x2
        clear x0 x1 x2
        have HI : Hid (∀ w, Calls Tryz.prog 68 #[.agg #[.int .i64 l[k].K, .int .i64 l[k].N, .string l[k].S]] w fun e w' => e = .returned (.bool l[k].good) ∧ Below w.heap.size w w') := hid (Va.rgood_any l[k].K l[k].N l[k].S)
        cases hg : l[k].good with
        | false =>
          rw [hg] at HI
          have HS := hid (all_split hlt (fun j hj => HNE.out j hj (by omega)) hg)
          clear hg
          generalize l[k] = v at *
          go_wp2_with fail
          refine (HI.out _).mono ?_
          rintro e w3 ⟨rfl, hb3⟩
          have B3 := hid (HB.out.trans (hb3.mono hszr))
          clear hb3
          go_wp2
          go_ret
          exact ⟨by rw [HS.out]; rfl, B3.out⟩
        | true =>
          rw [hg] at HI
          have HG := hid hg
          clear hg
          go_wp2_with fail
          refine (HI.out _).mono ?_
          rintro e w3 ⟨rfl, hb3⟩
          have B3 := hid (HB.out.trans (hb3.mono hszr))
          clear hb3
          go_wp2
          go_roundw
          case rel =>
            refine ⟨k + 1, by omega, by go_num, fun j hj hl => ?_, B3.out⟩
            by_cases hjk : j < k
            · exact HNE.out j hjk hl
            · obtain rfl : j = k := by omega
              exact HG.out
          case measure => simp [intOf]; omega
      · have HS := hid (all_full (l := l) (fun j hj => HNE.out j (by omega) hj))
        go_wp2
        go_ret
        exact ⟨by rw [HS.out]; rfl, HB.out⟩
  · rw [goodR_long (by omega)]
    have hl' : ¬ (l.length : Int) ≤ 16 := by omega
    go_enter Tryz.func28, Tryz.ntmps28
    go_wp2
    go_ret
    exact ⟨rfl, Below.refl _ _⟩
end Ro
end Go.Proofs.YtiellodbkanciaaGreatDoor
