/-
  Contracts of Key, the project's and the reference's.
-/
import Derived.Test.YtiellodbkanciaaGreatDoorRowCompare
import Derived.Test.YtiellodbkanciaaGreatDoorRowBld
import Derived.Test.YtiellodbkanciaaGreatDoorValRefKey
namespace Go.Proofs.YtiellodbkanciaaGreatDoor
open Go.RowKit
namespace Ro
open Va
open Num (hid)
theorem keyL_most {K N : Int} {S : Bs} : (keyL K N S).length ≤ 4003 := by
  unfold keyL
  split
  · rename_i h
    split
    · simp
    · split
      · simp [Num.fixF_length]
      · have := stuff_length S
        rcases h with ⟨rfl, rfl, rfl⟩ | ⟨rfl, rfl⟩ | ⟨_, rfl, h⟩
        · simp_all
        · simp_all
        · simp
          omega
  · simp
theorem keysV_most (l : Vs) : (keysV l).length ≤ l.length * 4003 := by
  induction l with
  | nil => exact Nat.zero_le _
  | cons v l ih =>
    have h := @keyL_most v.K v.N (bl v.S)
    have e : keysV (v :: l) = keyV v ++ keysV l := rfl
    rw [e, List.length_append, List.length_cons]
    have : (keyV v).length ≤ 4003 := h
    omega
theorem keysV_next {l : Vs} {k : Nat} (h : k < l.length) : keysV (l.take (k + 1)) = keysV (l.take k) ++ keyV l[k] := by
  rw [List.take_succ_eq_append_getElem h]
  unfold keysV
  rw [List.flatMap_append]
  simp
theorem keyR_no {l : Vs} (h : goodR l = false) : keyR l = [] := by unfold keyR; rw [h]; rfl
theorem keyR_yes {l : Vs} (h : goodR l = true) : keyR l = keysV l := if_pos h
set_option maxRecDepth 100000 in
set_option maxHeartbeats 2000000 in
theorem key_any (x : Value) (l : Vs) (w : World) (h : RowAt w x l) (hw : Wide l) (g : Glob w) :
    Calls Tryz.prog 31 #[x] w fun e w' => e = .returned (.string (bs (keyR l))) ∧ Below w.heap.size w w' := by
  have G := hid (good_any x l)
  have H := hid h
  have Hg := hid g
  have HW := hid hw
  obtain ⟨ao, cap, rfl, -, hat⟩ := h.ways
  have HAT := hid hat
  clear h hat g hw
  cases hg : goodR l with
  | false =>
    rw [keyR_no hg]
    rw [hg] at G
    go_enter Tryz.func31, Tryz.ntmps31
    go_wp2_with fail
    refine (G.out _ H.out).mono ?_
    rintro e w3 ⟨rfl, hb3⟩
    have B3 := hid hb3
    clear hb3
    go_wp2
    go_ret
    exact ⟨rfl, B3.out⟩
  | true =>
    rw [keyR_yes hg]
    rw [hg] at G
    have hl := few hg
    clear hg
    go_enter Tryz.func31, Tryz.ntmps31
    go_wp2_with fail
    refine (G.out _ H.out).mono ?_
    rintro e w3 ⟨rfl, hb3⟩
    have B3 := hid hb3
    have hsz3 := hb3.size
    have F0 := hid (FB.fresh w3)
    have B4 := hid ((hb3.trans (((Below.refl w.heap.size w3).alloc hsz3 (.cells #[.pointer none, .slice none 0 0] tBld)))))
    clear hb3
    go_wp2
    go_loopw [11] (fun i wr => ∃ k : Nat, k ≤ l.length ∧ i = .int .i64 k ∧ Hid (FB w3.heap.size (keysV (l.take k)) wr) ∧ Below w.heap.size w wr ∧ w3.heap.size < wr.heap.size) (fun i _ => l.length - (intOf i).toNat)
    case atStart => exact ⟨0, Nat.zero_le _, rfl, F0, B4.out, by simp⟩
    case round =>
      obtain ⟨k, hk, rfl, HF, hb, hlr⟩ := hrel
      have HB := hid hb
      have hszr := hb.size
      clear hb
      have hkm : (keysV (l.take k)).length ≤ 70000 := by
        have h1 := keysV_most (l.take k)
        rw [List.length_take] at h1
        omega
      by_cases hlt : k < l.length
      · obtain ⟨b, o, rfl, hbl, x0, x1, x2⟩ := HAT.out k hlt
        have y0 := (HB.out.cell (p := ⟨b, o + k * 3, none⟩) hbl).trans x0
        have y1 := (HB.out.cell (p := ⟨b, o + k * 3 + 1, none⟩) hbl).trans x1
        have y2 := (HB.out.cell (p := ⟨b, o + k * 3 + 2, none⟩) hbl).trans x2
        clear x0 x1 x2
        have HN := hid (keysV_next hlt)
        have hw1 := HW.out l[k] (List.getElem_mem hlt)
        have HK := hid (fun w g => Va.key_any l[k].K l[k].N l[k].S hw1 w g)
        have HKm := hid (show (keyV l[k]).length ≤ 4003 from keyL_most)
        have HKe : Hid (keyS l[k].K l[k].N l[k].S = bs (keyV l[k])) := hid rfl
        rw [HKe.out] at HK
        generalize l[k] = p at *
        clear hw1
        have HB2 := hid (HB.out.alloc hszr (.cells #[.int .i64 p.K, .int .i64 p.N, .string p.S] tV))
        have HF2 := hid (HF.out.on ((Below.refl _ _).alloc (Nat.le_refl _) (.cells #[.int .i64 p.K, .int .i64 p.N, .string p.S] tV)))
        go_wp2_with fail
        refine (HK.out _ (Hg.out.on HB2.out)).mono ?_
        rintro e w5 ⟨rfl, hb5⟩
        have B5 := hid (HB2.out.trans (hb5.mono HB2.out.size))
        have HF5 := hid (HF2.out.on hb5)
        have hl5 : w3.heap.size < w5.heap.size := by have := hb5.size; simp at this; omega
        clear hb5
        go_wp2_with fail
        refine (fstr_any w3.heap.size _ (keyV p) _ HF5.out (by have := HKm.out; omega) (by omega)).mono ?_
        rintro e w6 ⟨rfl, hf6, hb6, -⟩
        have HF6 := hid hf6
        have B6 := hid (B5.out.trans (hb6.mono hsz3))
        have hl6 := hb6.size
        have hl7 : w3.heap.size < w6.heap.size := by omega
        clear hf6 hb6
        go_wp2
        go_roundw
        case rel => exact ⟨k + 1, by omega, by go_num, hid (by rw [HN.out]; exact HF6.out), B6.out, hl7⟩
        case measure => simp [intOf]; omega
      · have HT : Hid (l.take k = l) := hid (List.take_of_length_le (by omega))
        rw [HT.out] at HF
        go_wp2_with fail
        refine (fend_any w3.heap.size _ _ HF.out (by omega)).mono ?_
        rintro e w5 ⟨rfl, hb5⟩
        have B5 := hid (HB.out.trans (hb5.mono hsz3))
        clear hb5
        go_wp2
        go_ret
        exact ⟨rfl, B5.out⟩
set_option maxRecDepth 100000 in
set_option maxHeartbeats 2000000 in
theorem rkey_any (x : Value) (l : Vs) (w : World) (h : RowAt w x l) (hw : Wide l) :
    Calls Tryz.prog 32 #[x] w fun e w' => e = .returned (.string (bs (keyR l))) ∧ Below w.heap.size w w' := by
  have G := hid (rgood_any x l)
  have H := hid h
  have HW := hid hw
  obtain ⟨ao, cap, rfl, -, hat⟩ := h.ways
  have HAT := hid hat
  clear h hat hw
  cases hg : goodR l with
  | false =>
    rw [keyR_no hg]
    rw [hg] at G
    go_enter Tryz.func32, Tryz.ntmps32
    go_wp2
    go_loopw [3, 4] (fun s i wr => s = .string ⟨#[]⟩ ∧ i = .int .i64 0 ∧ wr = w) (fun _ _ _ => 0)
    case atStart => exact ⟨rfl, rfl, rfl⟩
    case round =>
      obtain ⟨rfl, rfl, rfl⟩ := hrel
      go_wp2_with fail
      refine (G.out _ H.out).mono ?_
      rintro e w3 ⟨rfl, hb3⟩
      have B3 := hid hb3
      clear hb3
      go_wp2
      go_ret
      exact ⟨rfl, B3.out⟩
  | true =>
    rw [keyR_yes hg]
    rw [hg] at G
    have hl := few hg
    clear hg
    go_enter Tryz.func32, Tryz.ntmps32
    go_wp2
    go_loopw [3, 4] (fun s i wr => ∃ k : Nat, k ≤ l.length ∧ i = .int .i64 k ∧ s = .string (bs (keysV (l.take k))) ∧ Below w.heap.size w wr) (fun _ i _ => l.length - (intOf i).toNat)
    case atStart => exact ⟨0, Nat.zero_le _, rfl, rfl, Below.refl _ _⟩
    case round =>
      obtain ⟨k, hk, rfl, rfl, hb⟩ := hrel
      have HB := hid hb
      have hszr := hb.size
      clear hb
      have hkm : (keysV (l.take k)).length ≤ 70000 := by
        have h1 := keysV_most (l.take k)
        rw [List.length_take] at h1
        omega
      go_wp2_with fail
      refine (G.out _ (H.out.on HB.out)).mono ?_
      rintro e w3 ⟨rfl, hb3⟩
      have B3 := hid (HB.out.trans (hb3.mono hszr))
      have hsz3 := B3.out.size
      clear hb3
      by_cases hlt : k < l.length
      · obtain ⟨b, o, rfl, hbl, x0, x1, x2⟩ := HAT.out k hlt
        have y0 := (B3.out.cell (p := ⟨b, o + k * 3, none⟩) hbl).trans x0
        have y1 := (B3.out.cell (p := ⟨b, o + k * 3 + 1, none⟩) hbl).trans x1
        have y2 := (B3.out.cell (p := ⟨b, o + k * 3 + 2, none⟩) hbl).trans x2
        clear x0 x1 x2
        have HN := hid (keysV_next hlt)
        have hw1 := HW.out l[k] (List.getElem_mem hlt)
        have HK := hid (fun w => Va.rkey_any l[k].K l[k].N l[k].S hw1 w)
        have HKm := hid (show (keyV l[k]).length ≤ 4003 from keyL_most)
        have HKe : Hid (keyS l[k].K l[k].N l[k].S = bs (keyV l[k])) := hid rfl
        rw [HKe.out] at HK
        have hsum : ¬ 9223372036854775807 < (bs (keysV (l.take k))).size + (bs (keyV l[k])).size := by
          rw [bs_size, bs_size]; have := HKm.out; omega
        have HA := hid (bs_append (keysV (l.take k)) (keyV l[k]))
        generalize l[k] = p at *
        clear hw1
        go_wp2_with fail
        refine (HK.out _).mono ?_
        rintro e w5 ⟨rfl, hb5⟩
        have B5 := hid (B3.out.trans (hb5.mono hsz3))
        clear hb5
        go_wp2
        go_roundw
        case rel => exact ⟨k + 1, by omega, by go_num, by rw [HA.out, HN.out], B5.out⟩
        case measure => simp [intOf]; omega
      · have HT : Hid (l.take k = l) := hid (List.take_of_length_le (by omega))
        rw [HT.out]
        go_wp2
        go_ret
        exact ⟨rfl, B3.out⟩
end Ro
end Go.Proofs.YtiellodbkanciaaGreatDoor
