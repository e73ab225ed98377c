/-
  Contract of the reference's Show.
-/
import Derived.Test.YtgajhipkknpicaaGreatDoorRowShows
namespace Go.Proofs.YtgajhipkknpicaaGreatDoor
open Go.RowKit
namespace Ro
open Va
open Num (hid)
def partS (l : Vs) (k : Nat) : ByteArray := bs (40 :: joinV (l.take k))
theorem partS_next {l : Vs} {k : Nat} (h : k < l.length) : partS l (k + 1) = if k = 0 then partS l k ++ bs (showV l[k]) else partS l k ++ ⟨#[44, 32]⟩ ++ bs (showV l[k]) := by
  unfold partS
  rw [joinV_next h, show (⟨#[44, 32]⟩ : ByteArray) = bs [44, 32] from rfl, bs_append, bs_append, bs_append]
  by_cases hk : k = 0
  · subst hk
    rw [if_pos rfl, if_pos rfl]
    rfl
  · rw [if_neg hk, if_neg hk]
    simp [sepL]
set_option maxRecDepth 100000 in
set_option maxHeartbeats 4000000 in
theorem rshow_any (x : Value) (l : Vs) (w : World) (h : RowAt w x l) (hw : Wide l) :
    Calls Tryz.prog 19 #[x] w fun e w' => e = .returned (.string (bs (showR l))) ∧ Below w.heap.size w w' := by
  have G := hid (rgood_any x l)
  have H := hid h
  have HW := hid hw
  obtain ⟨ao, cap, rfl, -, hat⟩ := h.ways
  have HAT := hid hat
  clear h hat hw
  cases hg : goodR l with
  | false =>
    rw [showR_no hg]
    rw [hg] at G
    go_enter Tryz.func19, Tryz.ntmps19
    go_wp2_with fail
    refine (G.out _ H.out).mono ?_
    rintro e w3 ⟨rfl, hb3⟩
    have B3 := hid hb3
    clear hb3
    go_wp2
    go_ret
    exact ⟨rfl, B3.out⟩
  | true =>
    rw [showR_yes hg]
    rw [hg] at G
    have hl := few hg
    clear hg
    go_enter Tryz.func19, Tryz.ntmps19
    go_wp2_with fail
    refine (G.out _ H.out).mono ?_
    rintro e w3 ⟨rfl, hb3⟩
    have B3 := hid hb3
    clear hb3
    go_wp2
    go_loopw [3, 4] (fun s i wr => ∃ k : Nat, k ≤ l.length ∧ i = .int .i64 k ∧ s = .string (partS l k) ∧ Below w.heap.size w wr) (fun _ i _ => l.length - (intOf i).toNat)
    case atStart => exact ⟨0, Nat.zero_le _, rfl, rfl, B3.out⟩
    case round =>
      obtain ⟨k, hk, rfl, rfl, hb⟩ := hrel
      have HB := hid hb
      have hszr := hb.size
      clear hb
      have hpm : (partS l k).size ≤ 100000 := by
        have h1 := joinV_most (l.take k) (wide_take HW.out k)
        rw [List.length_take] at h1
        unfold partS
        rw [bs_size, List.length_cons]
        omega
      by_cases hlt : k < l.length
      · obtain ⟨b, o, rfl, hbl, x0, x1, x2⟩ := HAT.out k hlt
        have y0 := (HB.out.cell (p := ⟨b, o + k * 3, none⟩) hbl).trans x0
        have y1 := (HB.out.cell (p := ⟨b, o + k * 3 + 1, none⟩) hbl).trans x1
        have y2 := (HB.out.cell (p := ⟨b, o + k * 3 + 2, none⟩) hbl).trans x2
        clear x0 x1 x2
        have hw1 := HW.out l[k] (List.getElem_mem hlt)
        have HS := hid (fun w => Va.rshow_any l[k].K l[k].N l[k].S hw1 w)
        have HSe : Hid (showT l[k].K l[k].N l[k].S = bs (showV l[k])) := hid rfl
        rw [HSe.out] at HS
        have HN := hid (partS_next hlt)
        have hsm : (bs (showV l[k])).size ≤ 6003 := by rw [bs_size]; exact showV_most hw1
        generalize l[k] = p at *
        clear hw1
        have HP := hid hpm
        generalize partS l k = P at *
        by_cases hk0 : k = 0
        · have hn : ¬ (0 : Int) < k := by omega
          have hs1 : ¬ 9223372036854775807 < P.size + (bs (showV p)).size := by omega
          have HK0 := hid hk0
          clear hsm hpm hk0
          go_wp2_with fail
          refine (HS.out _).mono ?_
          rintro e w5 ⟨rfl, hb5⟩
          have B5 := hid (HB.out.trans (hb5.mono hszr))
          clear hb5
          go_wp2
          go_roundw
          case rel => exact ⟨k + 1, by omega, by go_num, by rw [HN.out, if_pos HK0.out], B5.out⟩
          case measure => simp [intOf]; omega
        · have hn : (0 : Int) < k := by omega
          have hs0 : ¬ 9223372036854775807 < P.size + (⟨#[44, 32]⟩ : ByteArray).size := by show ¬ _ < _ + 2; omega
          have hs1 : ¬ 9223372036854775807 < P.size + 2 + (bs (showV p)).size := by omega
          have HK0 := hid hk0
          clear hsm hpm hk0
          go_wp2_with fail
          refine (HS.out _).mono ?_
          rintro e w5 ⟨rfl, hb5⟩
          have B5 := hid (HB.out.trans (hb5.mono hszr))
          clear hb5
          go_wp2
          go_roundw
          case rel => exact ⟨k + 1, by omega, by go_num, by rw [HN.out, if_neg HK0.out], B5.out⟩
          case measure => simp [intOf]; omega
      · have hkl : k = l.length := by omega
        subst hkl
        have HE : Hid (partS l l.length ++ ⟨#[41]⟩ = bs (40 :: (joinV l ++ [41]))) := hid (by
          unfold partS
          rw [List.take_length, show (⟨#[41]⟩ : ByteArray) = bs [41] from rfl, bs_append]
          rfl)
        have hs1 : ¬ 9223372036854775807 < (partS l l.length).size + (⟨#[41]⟩ : ByteArray).size := by show ¬ _ < _ + 1; omega
        go_wp2
        go_ret
        exact ⟨by rw [← HE.out]; rfl, HB.out⟩
end Ro
end Go.Proofs.YtgajhipkknpicaaGreatDoor
