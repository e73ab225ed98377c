/-
  Contracts of Same and of the statements' total.
-/
import Derived.Test.YtiellodbkanciaaGreatDoorRowCompare
import Derived.Test.YtiellodbkanciaaGreatDoorRowKey
import Derived.BigQuiet
namespace Go.Proofs.YtiellodbkanciaaGreatDoor
open Go.RowKit
namespace Ro
open Va
open Num (hid)
set_option maxRecDepth 100000 in
set_option maxHeartbeats 2000000 in
/-- Same of a row and the same row: it answers true. -/
theorem same_yes (x y : Value) (l : Vs) (w : World) (h : RowAt w x l) (h' : RowAt w y l) :
    Calls Tryz.prog 39 #[x, y] w fun e w' => e = .returned (.bool true) ∧ Below w.heap.size w w' := by
  obtain ⟨ao, cap, rfl, hmax, hat⟩ := h.ways
  obtain ⟨ao', cap', rfl, -, hat'⟩ := h'.ways
  have HAT := hid hat
  have HAT' := hid hat'
  have hmax' : (l.length : Int) ≤ 9223372036854775807 := by unfold maxLen at hmax; omega
  clear h h' hat hat'
  go_enter Tryz.func39, Tryz.ntmps39
  go_wp2
  go_loopw [5] (fun i wr => ∃ k : Nat, k ≤ l.length ∧ i = .int .i64 k ∧ Hid (Below w.heap.size w wr)) (fun i _ => l.length - (intOf i).toNat)
  case atStart => exact ⟨0, Nat.zero_le _, rfl, hid (Below.refl _ _)⟩
  case round =>
    obtain ⟨k, hk, rfl, HB⟩ := hrel
    have hszr := HB.out.size
    by_cases hlt : k < l.length
    · obtain ⟨b, o, rfl, hbl, x0, x1, x2⟩ := HAT.out k hlt
      obtain ⟨b', o', rfl, hbl', x0', x1', x2'⟩ := HAT'.out k hlt
      have y0 : ∀ wx, Below wr.heap.size wr wx → wx.cell? ⟨b, o + k * 3, none⟩ = some (.int .i64 l[k].K) := fun wx hx => (hx.cell (p := ⟨b, o + k * 3, none⟩) (Nat.lt_of_lt_of_le hbl hszr)).trans ((HB.out.cell (p := ⟨b, o + k * 3, none⟩) hbl).trans x0)
      have y1 : ∀ wx, Below wr.heap.size wr wx → wx.cell? ⟨b, o + k * 3 + 1, none⟩ = some (.int .i64 l[k].N) := fun wx hx => (hx.cell (p := ⟨b, o + k * 3 + 1, none⟩) (Nat.lt_of_lt_of_le hbl hszr)).trans ((HB.out.cell (p := ⟨b, o + k * 3 + 1, none⟩) hbl).trans x1)
      have y2 : ∀ wx, Below wr.heap.size wr wx → wx.cell? ⟨b, o + k * 3 + 2, none⟩ = some (.string l[k].S) := fun wx hx => (hx.cell (p := ⟨b, o + k * 3 + 2, none⟩) (Nat.lt_of_lt_of_le hbl hszr)).trans ((HB.out.cell (p := ⟨b, o + k * 3 + 2, none⟩) hbl).trans x2)
      have z0 : ∀ wx, Below wr.heap.size wr wx → wx.cell? ⟨b', o' + k * 3, none⟩ = some (.int .i64 l[k].K) := fun wx hx => (hx.cell (p := ⟨b', o' + k * 3, none⟩) (Nat.lt_of_lt_of_le hbl' hszr)).trans ((HB.out.cell (p := ⟨b', o' + k * 3, none⟩) hbl').trans x0')
      have z1 : ∀ wx, Below wr.heap.size wr wx → wx.cell? ⟨b', o' + k * 3 + 1, none⟩ = some (.int .i64 l[k].N) := fun wx hx => (hx.cell (p := ⟨b', o' + k * 3 + 1, none⟩) (Nat.lt_of_lt_of_le hbl' hszr)).trans ((HB.out.cell (p := ⟨b', o' + k * 3 + 1, none⟩) hbl').trans x1')
      have z2 : ∀ wx, Below wr.heap.size wr wx → wx.cell? ⟨b', o' + k * 3 + 2, none⟩ = some (.string l[k].S) := fun wx hx => (hx.cell (p := ⟨b', o' + k * 3 + 2, none⟩) (Nat.lt_of_lt_of_le hbl' hszr)).trans ((HB.out.cell (p := ⟨b', o' + k * 3 + 2, none⟩) hbl').trans x2')
      clear x0 x1 x2 x0' x1' x2'
      generalize l[k] = p at *
      go_wp2_with fail
      refine wp_quiet_in (fun wx => Below wr.heap.size wr wx) (by kernel_rfl) (by kernel_rfl) (Below.refl _ _).drew ?_
      go_big_quiet_want
      go_big_quiet_op
      go_big_quiet_on
      go_big_quiet_want
      go_big_quiet_op
      go_big_quiet_on
      go_big_quiet_want
      go_big_quiet_op
      refine ⟨.pointer (some ⟨b, o + k * 3, none⟩), fun wx hx => ?_, ?_⟩
      · simp [go_sem]
      go_big_quiet_on
      go_big_quiet_want
      go_big_quiet_op
      refine ⟨.agg #[.int .i64 p.K, .int .i64 p.N, .string p.S], fun wx hx => ?_, ?_⟩
      · simp [go_sem, y0 wx hx, y1 wx hx, y2 wx hx]
      go_big_quiet_on
      go_big_quiet_want
      go_big_quiet_op
      go_big_quiet_on
      go_big_quiet_want
      go_big_quiet_op
      go_big_quiet_on
      go_big_quiet_want
      go_big_quiet_op
      refine ⟨.pointer (some ⟨b', o' + k * 3, none⟩), fun wx hx => ?_, ?_⟩
      · simp [go_sem]
      go_big_quiet_on
      go_big_quiet_want
      go_big_quiet_op
      refine ⟨.agg #[.int .i64 p.K, .int .i64 p.N, .string p.S], fun wx hx => ?_, ?_⟩
      · simp [go_sem, z0 wx hx, z1 wx hx, z2 wx hx]
      go_big_quiet_on
      go_big_quiet_want
      go_big_quiet_op
      refine ⟨.bool false, fun wx hx => ?_, ?_⟩
      · simp [go_sem]
      go_big_quiet_on
      refine wpQuiet_nil ?_
      intro w5 hb5
      have HB5 := hid (HB.out.trans (hb5.mono hszr))
      clear hb5 y0 y1 y2 z0 z1 z2
      go_wp2
      go_roundw
      case rel => exact ⟨k + 1, by omega, by go_num, HB5⟩
      case measure => simp [intOf]; omega
    · go_wp2
      go_ret
      exact ⟨rfl, HB.out⟩
set_option maxRecDepth 100000 in
set_option maxHeartbeats 1000000 in
/-- total: some number. -/
theorem total_any (x : Value) (l : Vs) (w : World) (h : RowAt w x l) (hl : ∀ v ∈ l, v.S.size ≤ 140737488355328) (hn : l.length ≤ 140737488355328) :
    Calls Tryz.prog 24 #[x] w fun e w' => (∃ n : Nat, e = .returned (.int .i64 n) ∧ n ≤ 281474976710656) ∧ w = w' := by
  obtain ⟨ao, cap, rfl, hmax, hat⟩ := h.ways
  have HAT := hid hat
  have HL := hid hl
  clear h hat hl
  go_enter Tryz.func24, Tryz.ntmps24
  go_wp2
  go_loopw [3, 4] (fun n i wr => ∃ k m : Nat, k ≤ l.length ∧ i = .int .i64 k ∧ n = .int .i64 m ∧ m ≤ 281474976710656 ∧ wr = w) (fun _ i _ => l.length - (intOf i).toNat)
  case atStart => exact ⟨0, l.length, Nat.zero_le _, rfl, rfl, by omega, rfl⟩
  case round =>
    obtain ⟨k, m, hk, rfl, rfl, hm, rfl⟩ := hrel
    by_cases hlt : k < l.length
    · obtain ⟨b, o, rfl, hbl, x0, x1, x2⟩ := HAT.out k hlt
      have hs := HL.out l[k] (List.getElem_mem hlt)
      generalize l[k] = p at *
      by_cases hm2 : m < 1048576
      · have hm2i : (m : Int) < 1048576 := by omega
        go_wp2
        go_roundw
        case rel => exact ⟨k + 1, m + p.S.size, by omega, by go_num, by go_num, by omega, trivial⟩
        case measure => simp [intOf]; omega
      · have hm2i : ¬ (m : Int) < 1048576 := by omega
        go_wp2
        go_ret
        exact ⟨⟨m, rfl, hm⟩, rfl⟩
    · go_wp2
      go_ret
      exact ⟨⟨m, rfl, hm⟩, rfl⟩
end Ro
end Go.Proofs.YtiellodbkanciaaGreatDoor
