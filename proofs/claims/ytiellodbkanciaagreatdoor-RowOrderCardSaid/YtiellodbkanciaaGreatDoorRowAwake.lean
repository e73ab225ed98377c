/-
  Contract of the statements' own awake: it answers true; the old memory stays.
-/
import Derived.Test.YtiellodbkanciaaGreatDoorRowRefPar
import Derived.Test.YtiellodbkanciaaGreatDoorRowShows
import Derived.Test.YtiellodbkanciaaGreatDoorRowKey
import Derived.Test.YtiellodbkanciaaGreatDoorRowEnc
import Derived.Test.YtiellodbkanciaaGreatDoorRowSame
namespace Go.Proofs.YtiellodbkanciaaGreatDoor
open Go.RowKit
namespace Ro
open Va
open Num (hid)
def RA : Vs := [⟨1, 1, bs []⟩, ⟨0, 0, bs []⟩, ⟨2, 0, bs [97]⟩]
theorem ra_good : goodR RA = true := by decide +kernel
theorem ra_wide : Wide RA := by
  intro v hv
  simp [RA] at hv
  rcases hv with rfl | rfl | rfl <;> (unfold InI; decide)
theorem ra_enc : encL RA = [3, 1, 2, 0, 2, 1, 97] := by decide +kernel
theorem ra_key : keyR RA = [1, 128, 0, 0, 0, 0, 0, 0, 1, 0, 2, 97, 0, 1] := by decide +kernel
theorem itoa_1 : Lib.itoa 1 = [49] := by
  unfold Lib.itoa
  rw [if_neg (by decide)]
  rw [show (1 : Int).toNat = 1 from rfl, Lib.decDigits_one (by decide)]
  rfl
theorem ra_show : showR RA = [40, 49, 44, 32, 110, 117, 108, 108, 44, 32, 39, 97, 39, 41] := by
  rw [showR_yes ra_good]
  have e1 : showV ⟨1, 1, bs []⟩ = [49] := (show_int 1).trans itoa_1
  have e2 : showV ⟨0, 0, bs []⟩ = nullL := show_null
  have e3 : showV ⟨2, 0, bs [97]⟩ = [39, 97, 39] := by decide +kernel
  unfold joinV RA
  rw [List.map_cons, List.map_cons, List.map_cons, List.map_nil, e1, e2, e3]
  rfl
theorem ra_cmp : cmpR RA [] = 1 := by decide +kernel
theorem decode_1 (w : World) : Calls Tryz.prog 35 #[.string ⟨#[3, 1, 2, 0, 2, 1, 97]⟩] w fun e w' => DecGives ⟨RA, 0⟩ w w' e := by
  have h := decode_any ⟨#[3, 1, 2, 0, 2, 1, 97]⟩ (by decide) w
  have e := decR_enc ra_good ra_wide []
  rw [List.append_nil, ra_enc] at e
  rw [show bl ⟨#[3, 1, 2, 0, 2, 1, 97]⟩ = [3, 1, 2, 0, 2, 1, 97] from rfl, e] at h
  exact h
theorem decode_2 (w : World) : Calls Tryz.prog 35 #[.string ⟨#[2, 0]⟩] w fun e w' => DecGives ⟨[], 3⟩ w w' e := by
  have h := decode_any ⟨#[2, 0]⟩ (by decide) w
  have e : decR [2, 0] = ⟨[], 3⟩ := by kernel_rfl
  rw [show bl ⟨#[2, 0]⟩ = [2, 0] from rfl, e] at h
  exact h
theorem decode_3 (w : World) : Calls Tryz.prog 35 #[.string ⟨#[0, 0]⟩] w fun e w' => DecGives ⟨[], 4⟩ w w' e := by
  have h := decode_any ⟨#[0, 0]⟩ (by decide) w
  have e : decR [0, 0] = ⟨[], 4⟩ := by kernel_rfl
  rw [show bl ⟨#[0, 0]⟩ = [0, 0] from rfl, e] at h
  exact h
theorem parse_1 (w : World) (g : Glob w) : Calls Tryz.prog 37 #[.string ⟨#[40, 49, 44, 32, 110, 117, 108, 108, 44, 32, 39, 97, 39, 41, 32, 115, 111]⟩] w fun e w' => ParGives ⟨RA, 14, 0⟩ w w' e := by
  have h := parse_any ⟨#[40, 49, 44, 32, 110, 117, 108, 108, 44, 32, 39, 97, 39, 41, 32, 115, 111]⟩ (by decide) w g
  have e := parR_show ra_good ra_wide [32, 115, 111]
  rw [ra_show] at e
  rw [show bl ⟨#[40, 49, 44, 32, 110, 117, 108, 108, 44, 32, 39, 97, 39, 41, 32, 115, 111]⟩ = [40, 49, 44, 32, 110, 117, 108, 108, 44, 32, 39, 97, 39, 41] ++ [32, 115, 111] from rfl, e] at h
  exact h
abbrev blkA : Obj := .cells #[.int .i64 1, .int .i64 1, .string ⟨#[]⟩, .int .i64 0, .int .i64 0, .string ⟨#[]⟩, .int .i64 2, .int .i64 0, .string ⟨#[97]⟩] tV
theorem ra_at (w : World) : RowAt (w.alloc blkA) (.slice (some ⟨w.heap.size, 0, none⟩) 3 3) RA := by
  refine ⟨Or.inr ⟨w.heap.size, 0, 3, rfl, by decide, by simp, ?_⟩, by decide⟩
  intro j hj
  have h : (w.alloc blkA).heap[w.heap.size]? = some _ := heap_alloc_new w blkA
  match j, hj with
  | 0, _ => exact ⟨by rw [cell_at h]; rfl, by rw [cell_at h]; rfl, by rw [cell_at h]; rfl⟩
  | 1, _ => exact ⟨by rw [cell_at h]; rfl, by rw [cell_at h]; rfl, by rw [cell_at h]; rfl⟩
  | 2, _ => exact ⟨by rw [cell_at h]; rfl, by rw [cell_at h]; rfl, by rw [cell_at h]; rfl⟩
theorem encode_1 (x : Value) (w : World) (h : RowAt w x RA) : Calls Tryz.prog 25 #[x] w fun e w' => e = .returned (.tuple #[.string ⟨#[3, 1, 2, 0, 2, 1, 97]⟩, .int .i64 0]) ∧ Below w.heap.size w w' := by
  have h := encode_any x RA w h ra_wide
  rw [encR_yes ra_good, ra_enc] at h
  exact h
theorem show_1 (x : Value) (w : World) (h : RowAt w x RA) (g : Glob w) : Calls Tryz.prog 33 #[x] w fun e w' => e = .returned (.string ⟨#[40, 49, 44, 32, 110, 117, 108, 108, 44, 32, 39, 97, 39, 41]⟩) ∧ Below w.heap.size w w' := by
  have h := show_any x RA w h ra_wide g
  rw [ra_show] at h
  exact h
theorem key_1 (x : Value) (w : World) (h : RowAt w x RA) (g : Glob w) : Calls Tryz.prog 31 #[x] w fun e w' => e = .returned (.string ⟨#[1, 128, 0, 0, 0, 0, 0, 0, 1, 0, 2, 97, 0, 1]⟩) ∧ Below w.heap.size w w' := by
  have h := key_any x RA w h ra_wide g
  rw [ra_key] at h
  exact h
theorem good_1 (x : Value) (w : World) (h : RowAt w x RA) : Calls Tryz.prog 27 #[x] w fun e w' => e = .returned (.bool true) ∧ Below w.heap.size w w' := by
  have h := good_any x RA w h
  rw [ra_good] at h
  exact h
theorem cmp_1 (x : Value) (w : World) (h : RowAt w x RA) : Calls Tryz.prog 29 #[x, .slice none 0 0] w fun e w' => e = .returned (.int .i64 1) ∧ Below w.heap.size w w' := by
  have h := compare_any x (.slice none 0 0) RA [] w h (RowAt.nil _ _ _)
  rw [ra_cmp] at h
  exact h
set_option maxRecDepth 100000 in
set_option maxHeartbeats 8000000 in
theorem awake_any (w : World) (g : Glob w) : Calls Tryz.prog 23 #[] w fun e w' => e = .returned (.bool true) ∧ Below w.heap.size w w' := by
  have Hg := hid g
  have RA1 := hid (ra_at w)
  have B1 := hid ((Below.refl w.heap.size w).alloc (Nat.le_refl _) blkA)
  clear g
  go_enter Tryz.func23, Tryz.ntmps23
  go_wp2_with fail
  refine (encode_1 _ _ RA1.out).mono ?_
  rintro e1 w1 ⟨rfl, hb⟩
  have RA2 := hid (RA1.out.on hb)
  have B2 := hid (B1.out.trans (hb.mono B1.out.size))
  clear hb
  go_wp2_with fail
  refine (decode_1 _).mono ?_
  rintro e2 w2 ⟨⟨d, rfl, hd⟩, hb⟩
  have RA3 := hid (RA2.out.on (hb.mono (Nat.le_refl _)))
  have RD3 := hid hd
  have B3 := hid (B2.out.trans (hb.mono B2.out.size))
  clear hb hd
  go_wp2_with fail
  refine (decode_2 _).mono ?_
  rintro e2 w3 ⟨⟨d2, rfl, -⟩, hb⟩
  have RA4 := hid (RA3.out.on hb)
  have RD4 := hid (RD3.out.on hb)
  have B4 := hid (B3.out.trans (hb.mono B3.out.size))
  clear hb
  go_wp2_with fail
  refine (decode_3 _).mono ?_
  rintro e2 w4 ⟨⟨d3, rfl, -⟩, hb⟩
  have RA5 := hid (RA4.out.on hb)
  have RD5 := hid (RD4.out.on hb)
  have B5 := hid (B4.out.trans (hb.mono B4.out.size))
  clear hb
  go_wp2_with fail
  refine (parse_1 _ (Hg.out.on B5.out)).mono ?_
  rintro e2 w5 ⟨⟨d4, rfl, hd⟩, hb⟩
  have RA6 := hid (RA5.out.on hb)
  have RD6 := hid (RD5.out.on hb)
  have RE6 := hid hd
  have B6 := hid (B5.out.trans (hb.mono B5.out.size))
  clear hb hd RA1 RA2 RA3 RA4 RA5 RD3 RD4 RD5 B1 B2 B3 B4 B5
  have HG := hid (Hg.out.on B6.out)
  obtain ⟨W, hW⟩ : ∃ W : Value, W = .slice (some ⟨w.heap.size, 0, none⟩) 3 3 := ⟨_, rfl⟩
  go_wp2_with fail
  refine (same_yes _ _ RA _ RD6.out RA6.out).mono ?_
  rintro e10 wq ⟨rfl, hb⟩
  have RA6 := hid (RA6.out.on hb)
  have RD6 := hid (RD6.out.on hb)
  have RE6 := hid (RE6.out.on hb)
  have HG := hid (HG.out.on hb)
  have B6 := hid (B6.out.trans (hb.mono B6.out.size))
  clear hb
  go_wp2_with fail
  refine (show_1 _ _ RA6.out HG.out).mono ?_
  rintro e11 wq ⟨rfl, hb⟩
  have RA6 := hid (RA6.out.on hb)
  have RD6 := hid (RD6.out.on hb)
  have RE6 := hid (RE6.out.on hb)
  have HG := hid (HG.out.on hb)
  have B6 := hid (B6.out.trans (hb.mono B6.out.size))
  clear hb
  go_wp2_with fail
  refine (same_yes _ _ RA _ RE6.out RA6.out).mono ?_
  rintro e12 wq ⟨rfl, hb⟩
  have RA6 := hid (RA6.out.on hb)
  have RD6 := hid (RD6.out.on hb)
  have RE6 := hid (RE6.out.on hb)
  have HG := hid (HG.out.on hb)
  have B6 := hid (B6.out.trans (hb.mono B6.out.size))
  clear hb
  go_wp2_with fail
  refine (good_1 _ _ RA6.out).mono ?_
  rintro e13 wq ⟨rfl, hb⟩
  have RA6 := hid (RA6.out.on hb)
  have RD6 := hid (RD6.out.on hb)
  have RE6 := hid (RE6.out.on hb)
  have HG := hid (HG.out.on hb)
  have B6 := hid (B6.out.trans (hb.mono B6.out.size))
  clear hb
  go_wp2_with fail
  refine (cmp_1 _ _ RA6.out).mono ?_
  rintro e14 wq ⟨rfl, hb⟩
  have RA6 := hid (RA6.out.on hb)
  have RD6 := hid (RD6.out.on hb)
  have RE6 := hid (RE6.out.on hb)
  have HG := hid (HG.out.on hb)
  have B6 := hid (B6.out.trans (hb.mono B6.out.size))
  clear hb
  go_wp2_with fail
  refine (key_1 _ _ RA6.out HG.out).mono ?_
  rintro e15 wq ⟨rfl, hb⟩
  have RA6 := hid (RA6.out.on hb)
  have RD6 := hid (RD6.out.on hb)
  have RE6 := hid (RE6.out.on hb)
  have HG := hid (HG.out.on hb)
  have B6 := hid (B6.out.trans (hb.mono B6.out.size))
  clear hb
  go_wp2
  go_ret
  exact ⟨rfl, B6.out⟩
end Ro
end Go.Proofs.YtiellodbkanciaaGreatDoor
