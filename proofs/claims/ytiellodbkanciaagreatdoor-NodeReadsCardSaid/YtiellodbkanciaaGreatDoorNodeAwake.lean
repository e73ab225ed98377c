/-
  Contract of the statements' own awake: it answers true; the old memory stays.
-/
import Derived.Test.YtiellodbkanciaaGreatDoorNodeDec
import Derived.Test.YtiellodbkanciaaGreatDoorNodeEnc
import Derived.Test.YtiellodbkanciaaGreatDoorNodeFind
namespace Go.Proofs.YtiellodbkanciaaGreatDoor
open Go.RowKit
namespace No
open Num (hid)
def NA1 : N := ⟨true, [[107]], [⟨1, [118], 0⟩], []⟩
def NB1 : N := ⟨false, [[107]], [], [5, 6]⟩
def NL0 : N := ⟨true, [], [], []⟩
theorem na_ok : okN NA1 = true := by decide +kernel
theorem nb_ok : okN NB1 = true := by decide +kernel
theorem na_len : (encN NA1).length ≤ 232 := by decide +kernel
theorem nb_len : (encN NB1).length ≤ 232 := by decide +kernel
theorem na_take : (page NA1).take 8 = [1, 0, 1, 1, 107, 1, 118, 0] := by decide +kernel
theorem nb_take : (page NB1).take 14 = [2, 0, 1, 0, 0, 0, 5, 1, 107, 0, 0, 0, 6, 0] := by decide +kernel
theorem na_enc : encR NA1 = ⟨page NA1, 0⟩ := encR_good na_ok (by have := na_len; omega)
theorem nb_enc : encR NB1 = ⟨page NB1, 0⟩ := encR_good nb_ok (by have := nb_len; omega)
theorem nb_dec : decR (page NB1) = ⟨NB1, 0⟩ := decR_page nb_ok (by decide) nb_len
theorem x_dec : decR [120] = ⟨noN, 1⟩ := decR_short (by decide)
theorem no_ok : okN noN = false := by decide +kernel
theorem nb_find : findR NB1 [108] = (1, false) := by
  unfold findR
  rw [nb_ok, if_pos rfl]
  decide +kernel
theorem nl_size : sizeN NL0 = 3 := by decide +kernel
abbrev bK : Obj := .cells #[.string ⟨#[107]⟩] tS
abbrev bC : Obj := .cells #[.int .i64 1, .string ⟨#[118]⟩, .int .i64 0] tC
abbrev bP : Obj := .cells #[.int .i64 5, .int .i64 6] tI
theorem cell_at {w : World} {b : Nat} {cs : Array Value} {t : TypeId} {f : Nat × Nat} (h : w.heap[b]? = some (.cells cs t f)) (j : Nat) : w.cell? ⟨b, j, none⟩ = cs[j]? := by simp [World.cell?, h]
theorem k_at {w : World} {b : Nat} (h : w.heap[b]? = some (.cells #[.string ⟨#[107]⟩] tS (0, 0))) : SAt w (.slice (some ⟨b, 0, none⟩) 1 1) [[107]] := by
  refine ⟨Or.inr ⟨b, 0, 1, rfl, Nat.le_refl _, lt_of_block h, ?_⟩, by decide⟩
  intro j hj i hi
  match j, hj, i, hi with
  | 0, _, 0, _ => rw [cell_at h]; rfl
theorem c_at {w : World} {b : Nat} (h : w.heap[b]? = some (.cells #[.int .i64 1, .string ⟨#[118]⟩, .int .i64 0] tC (0, 0))) : CAt w (.slice (some ⟨b, 0, none⟩) 1 1) [⟨1, [118], 0⟩] := by
  refine ⟨Or.inr ⟨b, 0, 1, rfl, Nat.le_refl _, lt_of_block h, ?_⟩, by decide⟩
  intro j hj i hi
  match j, hj, i, hi with
  | 0, _, 0, _ => rw [cell_at h]; rfl
  | 0, _, 1, _ => rw [cell_at h]; rfl
  | 0, _, 2, _ => rw [cell_at h]; rfl
theorem p_at {w : World} {b : Nat} (h : w.heap[b]? = some (.cells #[.int .i64 5, .int .i64 6] tI (0, 0))) : IAt w (.slice (some ⟨b, 0, none⟩) 2 2) [5, 6] := by
  refine ⟨Or.inr ⟨b, 0, 2, rfl, Nat.le_refl _, lt_of_block h, ?_⟩, by decide⟩
  intro j hj i hi
  match j, hj, i, hi with
  | 0, _, 0, _ => rw [cell_at h]; rfl
  | 1, _, 0, _ => rw [cell_at h]; rfl
theorem na_at (w : World) : NAt ((w.alloc bK).alloc bC) (.slice (some ⟨w.heap.size, 0, none⟩) 1 1) (.slice (some ⟨w.heap.size + 1, 0, none⟩) 1 1) (.slice none 0 0) NA1 := by
  have h1 := heap_alloc_new w bK
  have h2 := heap_alloc_new (w.alloc bK) bC
  have e : (w.alloc bK).heap.size = w.heap.size + 1 := by simp
  rw [e] at h2
  exact ⟨(k_at h1).on ((Below.refl _ _).alloc (Nat.le_refl _) _), c_at h2, LAt.nil _ _ _⟩
theorem nb_at' (w : World) : NAt ((w.alloc bK).alloc bP) (.slice (some ⟨w.heap.size, 0, none⟩) 1 1) (.slice none 0 0) (.slice (some ⟨w.heap.size + 1, 0, none⟩) 2 2) NB1 := by
  have h1 := heap_alloc_new w bK
  have h2 := heap_alloc_new (w.alloc bK) bP
  have e : (w.alloc bK).heap.size = w.heap.size + 1 := by simp
  rw [e] at h2
  exact ⟨(k_at h1).on ((Below.refl _ _).alloc (Nat.le_refl _) _), LAt.nil _ _ _, p_at h2⟩
theorem nil_at (w : World) (n : N) (h : n.ks = [] ∧ n.cs = [] ∧ n.ps = []) : NAt w (.slice none 0 0) (.slice none 0 0) (.slice none 0 0) n := by
  obtain ⟨h1, h2, h3⟩ := h
  refine ⟨?_, ?_, ?_⟩
  · rw [h1]; exact LAt.nil _ _ _
  · rw [h2]; exact LAt.nil _ _ _
  · rw [h3]; exact LAt.nil _ _ _
theorem encode_1 (A : ByteArray) (hA : A = bs (page NA1)) (kv cv pv : Value) (w : World) (h : NAt w kv cv pv NA1) : Calls Tryz.prog 12 #[.agg #[.bool true, kv, cv, pv]] w fun e w' => e = .returned (.tuple #[.string A, .int .i64 0]) ∧ Below w.heap.size w w' := by
  have hh := encode_any kv cv pv NA1 ⟨by decide, by decide⟩ w h
  rw [na_enc, sV2] at hh
  subst hA
  exact hh
theorem encode_2 (A : ByteArray) (hA : A = bs (page NB1)) (kv cv pv : Value) (w : World) (h : NAt w kv cv pv NB1) : Calls Tryz.prog 12 #[.agg #[.bool false, kv, cv, pv]] w fun e w' => e = .returned (.tuple #[.string A, .int .i64 0]) ∧ Below w.heap.size w w' := by
  have hh := encode_any kv cv pv NB1 ⟨by decide, by decide⟩ w h
  rw [nb_enc, sV2] at hh
  subst hA
  exact hh
theorem encode_3 (w : World) : Calls Tryz.prog 12 #[.agg #[.bool false, .slice none 0 0, .slice none 0 0, .slice none 0 0]] w fun e w' => e = .returned (.tuple #[.string ⟨#[]⟩, .int .i64 1]) ∧ Below w.heap.size w w' := by
  have hh := encode_any (.slice none 0 0) (.slice none 0 0) (.slice none 0 0) noN ⟨by decide, by decide⟩ w (nil_at w noN ⟨rfl, rfl, rfl⟩)
  rw [encR_bad no_ok, sV2] at hh
  exact hh
theorem decode_1 (w : World) : Calls Tryz.prog 20 #[.string ⟨#[120]⟩] w fun e w' => (∃ a1 c1 a2 c2 a3 c3, e = .returned (.tuple #[.agg #[.bool false, .slice a1 0 c1, .slice a2 0 c2, .slice a3 0 c3], .int .i64 1])) ∧ Below w.heap.size w w' := by
  have hh := decode_any [120] (by decide) w
  rw [x_dec] at hh
  refine hh.mono ?_
  rintro e w' ⟨⟨ks, cs, ps, rfl, hn⟩, hb⟩
  obtain ⟨a1, c1, a2, c2, a3, c3, rfl, rfl, rfl⟩ := nat_slices hn
  exact ⟨⟨a1, c1, a2, c2, a3, c3, rfl⟩, hb⟩
theorem decode_2 (A : ByteArray) (hA : A = bs (page NB1)) (w : World) : Calls Tryz.prog 20 #[.string A] w fun e w' => (∃ a1 c1 a2 c2 a3 c3, e = .returned (.tuple #[.agg #[.bool false, .slice a1 1 c1, .slice a2 0 c2, .slice a3 2 c3], .int .i64 0]) ∧ NAt w' (.slice a1 1 c1) (.slice a2 0 c2) (.slice a3 2 c3) NB1) ∧ Below w.heap.size w w' := by
  have hh := decode_any (page NB1) (by rw [page_len nb_len]; decide) w
  rw [nb_dec] at hh
  subst hA
  refine hh.mono ?_
  rintro e w' ⟨⟨ks, cs, ps, rfl, hn⟩, hb⟩
  obtain ⟨a1, c1, a2, c2, a3, c3, rfl, rfl, rfl⟩ := nat_slices hn
  exact ⟨⟨a1, c1, a2, c2, a3, c3, rfl, hn⟩, hb⟩
theorem find_1 (kv cv pv : Value) (w : World) (h : NAt w kv cv pv NB1) : Calls Tryz.prog 14 #[.agg #[.bool false, kv, cv, pv], .string ⟨#[108]⟩] w fun e w' => e = .returned (.tuple #[.int .i64 1, .bool false]) ∧ Below w.heap.size w w' := by
  have hh := find_any kv cv pv NB1 [108] (by decide) (by decide) w h
  rw [nb_find] at hh
  exact hh
theorem size_1 (w : World) : Calls Tryz.prog 18 #[.agg #[.bool true, .slice none 0 0, .slice none 0 0, .slice none 0 0]] w fun e w' => e = .returned (.int .i64 3) ∧ Below w.heap.size w w' := by
  have hh := size_any (.slice none 0 0) (.slice none 0 0) (.slice none 0 0) NL0 ⟨by decide, by decide⟩ w (nil_at w NL0 ⟨rfl, rfl, rfl⟩)
  rw [nl_size] at hh
  exact hh
theorem good_1 (w : World) : Calls Tryz.prog 16 #[.agg #[.bool false, .slice none 0 0, .slice none 0 0, .slice none 0 0]] w fun e w' => e = .returned (.bool false) ∧ Below w.heap.size w w' := by
  have hh := good_any (.slice none 0 0) (.slice none 0 0) (.slice none 0 0) noN (by decide) (by decide) w (nil_at w noN ⟨rfl, rfl, rfl⟩)
  rw [no_ok] at hh
  exact hh
set_option maxRecDepth 100000 in
set_option maxHeartbeats 8000000 in
theorem awake_any (w : World) : Calls Tryz.prog 10 #[] w fun e w' => e = .returned (.bool true) ∧ Below w.heap.size w w' := by
  have NA := hid (na_at w)
  have B1 := hid (((Below.refl w.heap.size w).alloc (Nat.le_refl _) bK).alloc (by simp) bC)
  obtain ⟨A, hA⟩ : ∃ A, A = bs (page NA1) := ⟨_, rfl⟩
  obtain ⟨B, hB⟩ : ∃ B, B = bs (page NB1) := ⟨_, rfl⟩
  have E1 := hid (encode_1 A hA)
  have E2 := hid (encode_2 B hB)
  have D2 := hid (decode_2 B hB)
  have sA : A.size = 232 := by rw [hA, bs_size, page_len na_len]
  have sB : B.size = 232 := by rw [hB, bs_size, page_len nb_len]
  have xA : A.extract 0 8 = ⟨#[1, 0, 1, 1, 107, 1, 118, 0]⟩ := by rw [hA, ex_take, na_take]; rfl
  have xB : B.extract 0 14 = ⟨#[2, 0, 1, 0, 0, 0, 5, 1, 107, 0, 0, 0, 6, 0]⟩ := by rw [hB, ex_take, nb_take]; rfl
  have sA' : (A.size : Int) = 232 := by omega
  have sB' : (B.size : Int) = 232 := by omega
  clear hA hB
  go_enter Tryz.func10, Tryz.ntmps10
  go_wp2_with fail
  refine (E1.out _ _ _ _ NA.out).mono ?_
  rintro e1 w1 ⟨rfl, hb⟩
  have B2 := hid (B1.out.trans (hb.mono B1.out.size))
  have NB := hid (nb_at' w1)
  have B3 := hid ((B2.out.alloc B2.out.size bK).alloc (by have := B2.out.size; simp; omega) bP)
  clear hb NA B1
  go_wp2_with fail
  refine (E2.out _ _ _ _ NB.out).mono ?_
  rintro e2 w2 ⟨rfl, hb⟩
  have B4 := hid (B3.out.trans (hb.mono B3.out.size))
  clear hb NB B2 B3
  go_wp2_with fail
  refine (encode_3 _).mono ?_
  rintro e3 w3 ⟨rfl, hb⟩
  have B5 := hid (B4.out.trans (hb.mono B4.out.size))
  clear hb B4
  go_wp2_with fail
  refine (decode_1 _).mono ?_
  rintro e4 w4 ⟨⟨a1, c1, a2, c2, a3, c3, rfl⟩, hb⟩
  have B6 := hid (B5.out.trans (hb.mono B5.out.size))
  have B7 := hid (B6.out.alloc B6.out.size (.cells #[.bool false, .slice a1 0 c1, .slice a2 0 c2, .slice a3 0 c3] tN))
  clear hb B5 B6
  go_wp2_with fail
  refine (D2.out _).mono ?_
  rintro e5 w5 ⟨⟨a1, c1, a2, c2, a3, c3, rfl, hn⟩, hb⟩
  have B8 := hid (B7.out.trans (hb.mono B7.out.size))
  have B9 := hid (B8.out.alloc B8.out.size (.cells #[.bool false, .slice a1 1 c1, .slice a2 0 c2, .slice a3 2 c3] tN))
  have X9 := hid (Nb.new false (.slice a1 1 c1) (.slice a2 0 c2) (.slice a3 2 c3) w5)
  have N9 := hid (hn.on ((Below.refl w5.heap.size w5).alloc (Nat.le_refl _) (.cells #[.bool false, .slice a1 1 c1, .slice a2 0 c2, .slice a3 2 c3] tN)))
  obtain ⟨x0, x1, x2, x3⟩ := X9.out.cells
  clear hb hn B7 B8
  go_wp2_with fail
  refine (find_1 _ _ _ _ N9.out).mono ?_
  rintro e6 w6 ⟨rfl, hb⟩
  have BA := hid (B9.out.trans (hb.mono B9.out.size))
  have XA := hid (X9.out.on hb)
  clear hb x0 x1 x2 x3 X9 N9 B9
  obtain ⟨x0, x1, x2, x3⟩ := XA.out.cells
  go_wp2_with fail
  refine (size_1 _).mono ?_
  rintro e7 w7 ⟨rfl, hb⟩
  have BB := hid (BA.out.trans (hb.mono BA.out.size))
  clear hb BA
  go_wp2_with fail
  refine (good_1 _).mono ?_
  rintro e8 w8 ⟨rfl, hb⟩
  have BC := hid (BB.out.trans (hb.mono BB.out.size))
  clear hb BB x0 x1 x2 x3
  go_wp2
  go_ret
  exact ⟨rfl, BC.out⟩
end No
end Go.Proofs.YtiellodbkanciaaGreatDoor
