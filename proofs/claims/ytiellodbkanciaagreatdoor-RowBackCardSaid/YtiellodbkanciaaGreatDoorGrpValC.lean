/-
  Put together: ValShown, ValShows, ValInt.
-/
import Derived.Test.YtiellodbkanciaaGreatDoorGrpValB
import Derived.StillTailTactics
import Derived.Lib.AppendIntMem
import Derived.Lib.AtoiErrMem
/-
  Contracts of the project's shownByte, opening, shownBytes.
-/
namespace Go.Proofs.YtiellodbkanciaaGreatDoor
open Go.RowKit
namespace Va
open Num (hid)
def digS : ByteArray := ⟨#[48, 49, 50, 51, 52, 53, 54, 55, 56, 57, 97, 98, 99, 100, 101, 102]⟩
theorem shb_39 {b : UInt8} (h : ((b.toNat : Int) == 39) = true) : bs (shb b) = ⟨#[39, 39]⟩ := by
  have e : b.toNat = 39 := by simp only [beq_iff_eq] at h; omega
  unfold shb
  rw [if_pos e]
  rfl
theorem odd_ways (b : UInt8) : ((b.toNat : Int) == 39) = true ∨
    (((b.toNat : Int) == 39) = false ∧ ((b.toNat : Int) == 92) = true ∧ shb b = [92, hexc (b.toNat / 16), hexc (b.toNat % 16)]) ∨
    (((b.toNat : Int) == 39) = false ∧ ((b.toNat : Int) == 92) = false ∧ (b.toNat : Int) < 32 ∧ shb b = [92, hexc (b.toNat / 16), hexc (b.toNat % 16)]) ∨
    (((b.toNat : Int) == 39) = false ∧ ((b.toNat : Int) == 92) = false ∧ ¬ (b.toNat : Int) < 32 ∧ (126 : Int) < (b.toNat : Int) ∧ shb b = [92, hexc (b.toNat / 16), hexc (b.toNat % 16)]) ∨
    (((b.toNat : Int) == 39) = false ∧ ((b.toNat : Int) == 92) = false ∧ ¬ (b.toNat : Int) < 32 ∧ ¬ (126 : Int) < (b.toNat : Int) ∧ shb b = [b]) := by
  simp only [beq_iff_eq, beq_eq_false_iff_ne, ne_eq]
  by_cases h39 : b.toNat = 39
  · exact Or.inl (by omega)
  · have hs : shb b = if odd b then [92, hexc (b.toNat / 16), hexc (b.toNat % 16)] else [b] := if_neg h39
    rw [hs]
    unfold odd
    by_cases h92 : b.toNat = 92
    · exact Or.inr (Or.inl ⟨by omega, by omega, by simp [h92]⟩)
    · by_cases h32 : b.toNat < 32
      · exact Or.inr (Or.inr (Or.inl ⟨by omega, by omega, by omega, by simp [h32]⟩))
      · by_cases h126 : 126 < b.toNat
        · exact Or.inr (Or.inr (Or.inr (Or.inl ⟨by omega, by omega, by omega, by omega, by simp [h126]⟩)))
        · exact Or.inr (Or.inr (Or.inr (Or.inr ⟨by omega, by omega, by omega, by omega, by simp [h92, h32, h126]⟩)))
theorem digS_at : ∀ n : Fin 16, digS[n.val]? = some (hexc n.val) := by decide +kernel
theorem dig_at {n : Nat} (h : n < 16) : (⟨#[48, 49, 50, 51, 52, 53, 54, 55, 56, 57, 97, 98, 99, 100, 101, 102]⟩ : ByteArray)[n]'h = hexc n := by
  have e := digS_at ⟨n, h⟩
  have e2 : digS[n]? = some (digS[n]'h) := getElem?_pos digS n h
  simp only at e
  rw [e2] at e
  exact Option.some.inj e
theorem conv_three (x y z : UInt8) (w : World) : (convert 80 9 (.slice (some ⟨w.heap.size, 0, none⟩) 3 3)).run Tryz.prog (w.alloc (.cells #[.int .u8 (x.toNat : Int), .int .u8 (y.toNat : Int), .int .u8 (z.toNat : Int)] 5)) = .ok (.string (bs [x, y, z])) (w.alloc (.cells #[.int .u8 (x.toNat : Int), .int .u8 (y.toNat : Int), .int .u8 (z.toNat : Int)] 5)) :=
  run_convert_bytes_back (P := Tryz.prog) _ 80 9 5 ⟨w.heap.size, 0, none⟩ 3 [x, y, z] Tryz.underlying80 Tryz.underlying5 Tryz.underlying9 (fun j hj => by
    rw [Addr.add_lit, Nat.zero_add]
    exact new_three w x y z j hj)
theorem wrap8 {n : Nat} (h : n < 16) : IntKind.u8.wrap (n : Int) = (n : Int) := by
  unfold IntKind.wrap
  simp [IntKind.bits, IntKind.signed]
  omega
set_option maxRecDepth 100000 in
set_option maxHeartbeats 1000000 in
theorem shb_any (b : UInt8) (w : World) : Calls Tryz.prog 155 #[.int .u8 (b.toNat : Int)] w fun e w' => e = .returned (.string (bs (shb b))) ∧ Below w.heap.size w w' := by
  rcases odd_ways b with h39 | ⟨h39, h92, hs⟩ | ⟨h39, h92, h32, hs⟩ | ⟨h39, h92, h32, h126, hs⟩ | ⟨h39, h92, h32, h126, hs⟩
  · rw [shb_39 h39]
    go_enter Tryz.func155, Tryz.ntmps155
    go_wp2
    go_ret
    exact ⟨rfl, Below.refl _ _⟩
  · rw [hs]
    clear hs
    have hb := b.toNat_lt
    have hq16 : b.toNat / 16 < 16 := by omega
    have hr16 : b.toNat % 16 < 16 := by omega
    have w1 : IntKind.u8.wrap ((b.toNat : Int) / 16) = ((b.toNat / 16 : Nat) : Int) := wrap8 hq16
    have w2 : ((b.toNat : Int)).tmod 16 = ((b.toNat % 16 : Nat) : Int) := by rw [Int.tmod_eq_emod_of_nonneg (by omega)]; omega
    generalize b.toNat / 16 = q at hq16 w1 ⊢
    generalize b.toNat % 16 = r at hr16 w2 ⊢
    have hq16' : (q : Int) < 16 := by omega
    have hr16' : (r : Int) < 16 := by omega
    have d1 := dig_at hq16
    have d2 := dig_at hr16
    go_enter Tryz.func155, Tryz.ntmps155
    go_wp2
    refine wp_region_still_tail 6 (by kernel_rfl) (by kernel_rfl) ?_
    simp only [List.take_succ_cons, List.take_zero, List.drop_succ_cons, List.drop_zero]
    have BD : Hid (Below w.heap.size w { w with drawn := w.drawn + 1 }) := hid ((Below.refl w.heap.size w).drew)
    generalize ({ w with drawn := w.drawn + 1 } : World) = w5 at *
    still_step
    still_step
    still_step
    still_step
    still_step
    still_step
    refine wpStill_nil ?_
    clear w1 w2
    have hcv : (convert 80 9 (.slice (some ⟨w5.heap.size, 0, none⟩) 3 3)).run Tryz.prog (w5.alloc (.cells #[.int .u8 92, .int .u8 ((hexc q).toNat : Int), .int .u8 ((hexc r).toNat : Int)] 5)) = .ok (.string (bs [92, hexc q, hexc r])) (w5.alloc (.cells #[.int .u8 92, .int .u8 ((hexc q).toNat : Int), .int .u8 ((hexc r).toNat : Int)] 5)) := conv_three 92 (hexc q) (hexc r) w5
    clear d1 d2
    go_wp2
    go_ret
    exact ⟨rfl, BD.out.alloc BD.out.size _⟩
  · rw [hs]
    clear hs
    have hb := b.toNat_lt
    have hq16 : b.toNat / 16 < 16 := by omega
    have hr16 : b.toNat % 16 < 16 := by omega
    have w1 : IntKind.u8.wrap ((b.toNat : Int) / 16) = ((b.toNat / 16 : Nat) : Int) := wrap8 hq16
    have w2 : ((b.toNat : Int)).tmod 16 = ((b.toNat % 16 : Nat) : Int) := by rw [Int.tmod_eq_emod_of_nonneg (by omega)]; omega
    generalize b.toNat / 16 = q at hq16 w1 ⊢
    generalize b.toNat % 16 = r at hr16 w2 ⊢
    have hq16' : (q : Int) < 16 := by omega
    have hr16' : (r : Int) < 16 := by omega
    have d1 := dig_at hq16
    have d2 := dig_at hr16
    go_enter Tryz.func155, Tryz.ntmps155
    go_wp2
    refine wp_region_still_tail 6 (by kernel_rfl) (by kernel_rfl) ?_
    simp only [List.take_succ_cons, List.take_zero, List.drop_succ_cons, List.drop_zero]
    have BD : Hid (Below w.heap.size w { w with drawn := w.drawn + 1 }) := hid ((Below.refl w.heap.size w).drew)
    generalize ({ w with drawn := w.drawn + 1 } : World) = w5 at *
    still_step
    still_step
    still_step
    still_step
    still_step
    still_step
    refine wpStill_nil ?_
    clear w1 w2
    have hcv : (convert 80 9 (.slice (some ⟨w5.heap.size, 0, none⟩) 3 3)).run Tryz.prog (w5.alloc (.cells #[.int .u8 92, .int .u8 ((hexc q).toNat : Int), .int .u8 ((hexc r).toNat : Int)] 5)) = .ok (.string (bs [92, hexc q, hexc r])) (w5.alloc (.cells #[.int .u8 92, .int .u8 ((hexc q).toNat : Int), .int .u8 ((hexc r).toNat : Int)] 5)) := conv_three 92 (hexc q) (hexc r) w5
    clear d1 d2
    go_wp2
    go_ret
    exact ⟨rfl, BD.out.alloc BD.out.size _⟩
  · rw [hs]
    clear hs
    have hb := b.toNat_lt
    have hq16 : b.toNat / 16 < 16 := by omega
    have hr16 : b.toNat % 16 < 16 := by omega
    have w1 : IntKind.u8.wrap ((b.toNat : Int) / 16) = ((b.toNat / 16 : Nat) : Int) := wrap8 hq16
    have w2 : ((b.toNat : Int)).tmod 16 = ((b.toNat % 16 : Nat) : Int) := by rw [Int.tmod_eq_emod_of_nonneg (by omega)]; omega
    generalize b.toNat / 16 = q at hq16 w1 ⊢
    generalize b.toNat % 16 = r at hr16 w2 ⊢
    have hq16' : (q : Int) < 16 := by omega
    have hr16' : (r : Int) < 16 := by omega
    have d1 := dig_at hq16
    have d2 := dig_at hr16
    go_enter Tryz.func155, Tryz.ntmps155
    go_wp2
    refine wp_region_still_tail 6 (by kernel_rfl) (by kernel_rfl) ?_
    simp only [List.take_succ_cons, List.take_zero, List.drop_succ_cons, List.drop_zero]
    have BD : Hid (Below w.heap.size w { w with drawn := w.drawn + 1 }) := hid ((Below.refl w.heap.size w).drew)
    generalize ({ w with drawn := w.drawn + 1 } : World) = w5 at *
    still_step
    still_step
    still_step
    still_step
    still_step
    still_step
    refine wpStill_nil ?_
    clear w1 w2
    have hcv : (convert 80 9 (.slice (some ⟨w5.heap.size, 0, none⟩) 3 3)).run Tryz.prog (w5.alloc (.cells #[.int .u8 92, .int .u8 ((hexc q).toNat : Int), .int .u8 ((hexc r).toNat : Int)] 5)) = .ok (.string (bs [92, hexc q, hexc r])) (w5.alloc (.cells #[.int .u8 92, .int .u8 ((hexc q).toNat : Int), .int .u8 ((hexc r).toNat : Int)] 5)) := conv_three 92 (hexc q) (hexc r) w5
    clear d1 d2
    go_wp2
    go_ret
    exact ⟨rfl, BD.out.alloc BD.out.size _⟩
  · rw [hs]
    have hcv := conv_one b w
    go_enter Tryz.func155, Tryz.ntmps155
    go_wp2
    go_ret
    exact ⟨rfl, (Below.refl _ _).alloc (Nat.le_refl _) _⟩
/-! ### A builder of the call's own -/
theorem own_keeps {w w' : World} {base : Nat} {e : TypeId} {v : Value} {n : Nat} {l : List Value} (h : w.ownsRow base e 1 v n l) (hb : Below w.heap.size w w') : w'.ownsRow base e 1 v n l := by
  obtain ⟨h1, h2⟩ := h
  refine ⟨h1, ?_⟩
  rcases h2 with h2 | ⟨g, cap, cur, e1, e2, e3, e4⟩
  · exact Or.inl h2
  · exact Or.inr ⟨g, cap, cur, e1, e2, (hb.block _ (lt_of_block e3)).trans e3, e4⟩
theorem bat_on {T e : TypeId} {B b : Nat} {p : Value} {l : List Value} {w w' : World} (h : Lib.BuilderAt T e B b p l w) (hb : Below w.heap.size w w') : Lib.BuilderAt T e B b p l w' := by
  obtain ⟨h1, v, h2, h3, h4⟩ := h
  exact ⟨h1, v, (hb.block _ (lt_of_block h2)).trans h2, own_keeps h3 hb, h4⟩
theorem bld_on {T e : TypeId} {B b : Nat} {l : List Value} {w w' : World} (h : Lib.IsBuilder T e B b l w) (hb : Below w.heap.size w w') : Lib.IsBuilder T e B b l w' :=
  h.elim (fun h => Or.inl (bat_on h hb)) (fun h => Or.inr (bat_on h hb))
theorem extra : Builder.Extra Tryz.prog Tryz.replL_ren := {
  sizeBuilder := by kernel_rfl
  liesBuilder := by kernel_rfl
  t5 := Tryz.replL.t5
  a5 := Tryz.replL.a5
  z5 := Tryz.replL.z5
  v5 := Tryz.replL.v5
  infoByte := by kernel_rfl
  cellsByte := by kernel_rfl
  sizeByte := by kernel_rfl
  neB5 := by decide }
abbrev Bld (b : Nat) (l : Bs) (w : World) : Prop := Lib.IsBuilder 82 5 b b (Lib.byteCells l) w
theorem wstr_any (b : Nat) (l x : Bs) (w : World) (h : Bld b l w) (hlen : l.length + x.length ≤ 140737488355328) (hb : b ≤ w.heap.size) :
    Calls Tryz.prog 59 #[.pointer (some ⟨b, 0, none⟩), .string (bs x)] w fun e w' => e = .returned (.tuple #[.int .i64 (bs x).size, .nilIface]) ∧ Bld b (l ++ x) w' ∧ Below b w w' := by
  have hL : Lays.n166 Tryz.prog Tryz.replL_ren := { Tryz.replL with }
  refine (Any.Builder_WriteString hL extra b b (Lib.byteCells l) (bs x) w h (by rw [Lib.byteCells_length, bs_size]; exact hlen) hb).mono ?_
  rintro e w' ⟨rfl, h1, h2⟩
  refine ⟨rfl, Or.inr ?_, h2⟩
  rw [Lib.strCells_eq, ← Lib.byteCells_append] at h1
  exact h1
theorem bstr_any (b : Nat) (l : Bs) (w : World) (h : Bld b l w) (hb : b ≤ w.heap.size) :
    Calls Tryz.prog 63 #[.pointer (some ⟨b, 0, none⟩)] w fun e w' => e = .returned (.string (bs l)) ∧ Below b w w' := by
  have hL : Lays.n169 Tryz.prog Tryz.replL_ren := { Tryz.replL with }
  exact Any.Builder_String_any hL extra b b l w h hb
theorem showS_snoc (l : Bs) (b : UInt8) : showS (l ++ [b]) = showS l ++ shb b := by
  induction l with
  | nil => simp [showS]
  | cons a l ih => simp [showS, ih]
set_option maxRecDepth 100000 in
set_option maxHeartbeats 1000000 in
theorem shown_any (s : ByteArray) (hs : s.size ≤ 2000) (w : World) : Calls Tryz.prog 122 #[.string s] w fun e w' => e = .returned (.string (bs (showS (bl s)))) ∧ Below w.heap.size w w' := by
  have hsl := hid (fun k => showS_length ((bl s).take k))
  have hlk := hid (fun k => List.length_take_le k (bl s))
  have hbl := hid (bl_len s)
  have F0 : Bld w.heap.size [] (w.alloc (.cells #[.pointer none, .slice none 0 0] 82)) := Lib.fresh_isBuilder 82 5 w
  have HF := hid F0
  clear F0
  go_enter Tryz.func122, Tryz.ntmps122
  go_wp2
  go_loopw [7] (fun i wr => ∃ k : Nat, k ≤ s.size ∧ i = .int .i64 k ∧ Hid (Bld w.heap.size (showS ((bl s).take k)) wr) ∧ Below w.heap.size w wr) (fun i _ => s.size - (intOf i).toNat)
  case atStart => exact ⟨0, Nat.zero_le _, rfl, HF, (Below.refl _ _).alloc (Nat.le_refl _) _⟩
  case round =>
    obtain ⟨k, hk, rfl, HK, hb⟩ := hrel
    have HB := hid hb
    have hszr := hb.size
    clear hb
    by_cases hlt : k < s.size
    · have HT := hid (take_snoc hlt)
      have hl1 : (showS ((bl s).take k)).length ≤ 6000 := by
        have h1 := hsl.out k
        have h2 := hlk.out k
        omega
      have HL := hid hl1
      have HS := hid (shb_le s[k])
      clear hl1
      go_wp2_with fail
      refine (shb_any s[k] _).mono ?_
      rintro e w3 ⟨rfl, hb3⟩
      have hsz3 := hb3.size
      have HK3 := hid (bld_on HK.out hb3)
      have HB3 := hid (HB.out.trans (hb3.mono hszr))
      clear hb3
      go_wp2_with fail
      refine (wstr_any w.heap.size _ (shb s[k]) _ HK3.out (by have := HL.out; have := HS.out; omega) (by omega)).mono ?_
      rintro e w4 ⟨rfl, h4, hb4⟩
      have HK4 := hid h4
      have HB4 := hid (HB3.out.trans hb4)
      clear h4 hb4
      go_wp2
      go_roundw
      case rel =>
        refine ⟨k + 1, by omega, by go_num, hid ?_, HB4.out⟩
        rw [HT.out, showS_snoc]
        exact HK4.out
      case measure => simp [intOf]; omega
    · have HE := hid (show (bl s).take k = bl s from List.take_of_length_le (by rw [bl_len]; omega))
      go_wp2_with fail
      refine (bstr_any w.heap.size _ _ HK.out (by omega)).mono ?_
      rintro e w4 ⟨rfl, hb4⟩
      have HB4 := hid (HB.out.trans hb4)
      clear hb4
      go_wp2
      go_ret
      rw [HE.out]
      exact ⟨rfl, HB4.out⟩
set_option maxRecDepth 100000 in
theorem open_text (w : World) : Calls Tryz.prog 121 #[.int .i64 2] w fun e w' => e = .returned (.string ⟨#[39]⟩) ∧ w = w' := by
  have hi : ∀ w, (Instr.index 158 (.agg #[.string ⟨#[]⟩, .string ⟨#[]⟩, .string ⟨#[39]⟩, .string ⟨#[120, 39]⟩]) (.int .i64 2)).run Tryz.prog w = .ok (.string ⟨#[39]⟩) w := fun _ => by kernel_rfl
  go_enter Tryz.func121, Tryz.ntmps121
  go_wp2
  go_ret
  exact ⟨rfl, rfl⟩
set_option maxRecDepth 100000 in
theorem open_blob (w : World) : Calls Tryz.prog 121 #[.int .i64 3] w fun e w' => e = .returned (.string ⟨#[120, 39]⟩) ∧ w = w' := by
  have hi : ∀ w, (Instr.index 158 (.agg #[.string ⟨#[]⟩, .string ⟨#[]⟩, .string ⟨#[39]⟩, .string ⟨#[120, 39]⟩]) (.int .i64 3)).run Tryz.prog w = .ok (.string ⟨#[120, 39]⟩) w := fun _ => by kernel_rfl
  go_enter Tryz.func121, Tryz.ntmps121
  go_wp2
  go_ret
  exact ⟨rfl, rfl⟩
end Va
end Go.Proofs.YtiellodbkanciaaGreatDoor

/-
  Contract of the project's Show.
-/
namespace Go.Proofs.YtiellodbkanciaaGreatDoor
open Go.RowKit
namespace Va
open Num (hid)
theorem itoa_any (n : Int) (hn : InI n) (w : World) (g : Glob w) : Calls Tryz.prog 120 #[.int .i64 n] w fun e w' => e = .returned (.string (bs (Lib.itoa n))) ∧ Below w.heap.size w w' := by
  refine (Any.strconv_Itoa Tryz.itoaL n hn.1 hn.2 w g.pow).mono ?_
  rintro e w' ⟨rfl, k, os, rfl⟩
  exact ⟨rfl, Lib.below_grow _ _ (Nat.le_refl _) _ _⟩
/-- A value's text. -/
def showT (K N : Int) (S : ByteArray) : ByteArray := bs (showL K N (bl S))
theorem show_bad {K N : Int} {S : ByteArray} (h : goodB K N S = false) : showT K N S = ⟨#[]⟩ := by
  unfold showT showL
  unfold goodB at h
  rw [if_neg (by simpa using h)]
  rfl
set_option maxRecDepth 100000 in
set_option maxHeartbeats 2000000 in
theorem show_any (K N : Int) (S : ByteArray) (hN : InI N) (w : World) (g : Glob w) :
    Calls Tryz.prog 74 #[.agg #[.int .i64 K, .int .i64 N, .string S]] w fun e w' => e = .returned (.string (showT K N S)) ∧ Below w.heap.size w w' := by
  have B1 : Hid (Below w.heap.size w (w.alloc (.cells #[.int .i64 K, .int .i64 N, .string S] 78))) := hid ((Below.refl _ _).alloc (Nat.le_refl _) _)
  have X1 : Hid (Bx w.heap.size K N S (w.alloc (.cells #[.int .i64 K, .int .i64 N, .string S] 78))) := hid (Bx.new K N S w)
  have G := good_any K N S
  cases hg : goodB K N S with
  | false =>
    rw [show_bad hg]
    rw [hg] at G
    have HG := hid G
    clear G hg
    go_enter Tryz.func74, Tryz.ntmps74
    go_wp2_with fail
    refine (HG.out _).mono ?_
    rintro e w3 ⟨rfl, hb3⟩
    have B3 := hid (B1.out.trans (hb3.mono B1.out.size))
    clear hb3
    go_wp2
    go_ret
    exact ⟨rfl, B3.out⟩
  | true =>
    rw [hg] at G
    have HG := hid G
    clear G
    have gg := good_of hg
    have hz := hid (good_size hg)
    have HN := hid hN
    have Hg := hid g
    rcases gg with ⟨rfl, rfl, hS⟩ | ⟨rfl, hS⟩ | ⟨hK, rfl, hS⟩
    · have e : showT 0 0 S = ⟨#[110, 117, 108, 108]⟩ := by unfold showT; rw [hS, show_null]; rfl
      rw [e]
      clear e hS hg hN g
      go_enter Tryz.func74, Tryz.ntmps74
      go_wp2_with fail
      refine (HG.out _).mono ?_
      rintro e w3 ⟨rfl, hb3⟩
      have B3 := hid (B1.out.trans (hb3.mono B1.out.size))
      obtain ⟨k0, k1, k2⟩ := (X1.out.on hb3).cells
      clear hb3
      go_wp2
      go_ret
      exact ⟨rfl, B3.out⟩
    · have e : showT 1 N S = bs (Lib.itoa N) := by unfold showT; rw [hS, show_int]
      rw [e]
      clear e hS hg hN g
      go_enter Tryz.func74, Tryz.ntmps74
      go_wp2_with fail
      refine (HG.out _).mono ?_
      rintro e w3 ⟨rfl, hb3⟩
      have B3 := hid (B1.out.trans (hb3.mono B1.out.size))
      obtain ⟨k0, k1, k2⟩ := (X1.out.on hb3).cells
      clear hb3
      go_wp2_with fail
      refine (itoa_any N HN.out _ (Hg.out.on B3.out)).mono ?_
      rintro e w4 ⟨rfl, hb4⟩
      have B4 := hid (B3.out.trans (hb4.mono B3.out.size))
      clear hb4
      go_wp2
      go_ret
      exact ⟨rfl, B4.out⟩
    · rcases hK with rfl | rfl
      · have e : showT 2 0 S = ⟨#[39]⟩ ++ bs (showS (bl S)) ++ ⟨#[39]⟩ := by
          unfold showT
          rw [show_text hS, show (⟨#[39]⟩ : ByteArray) = bs [39] from rfl, bs_append, bs_append]
          rfl
        rw [e]
        have hsl := showS_length (bl S)
        have hz2 : S.size ≤ 2000 := hz.out
        have h8 : ¬ 9223372036854775807 < (⟨#[39]⟩ : ByteArray).size + (bs (showS (bl S))).size := by
          rw [bs_size]; rw [bl_len] at hsl; show ¬ 9223372036854775807 < 1 + _; omega
        have h9 : ¬ 9223372036854775807 < 1 + (bs (showS (bl S))).size + 1 := by
          rw [bs_size]; rw [bl_len] at hsl; omega
        clear e hS hg hN g hsl hz2
        go_enter Tryz.func74, Tryz.ntmps74
        go_wp2_with fail
        refine (HG.out _).mono ?_
        rintro e w3 ⟨rfl, hb3⟩
        have B3 := hid (B1.out.trans (hb3.mono B1.out.size))
        have X3 := hid (X1.out.on hb3)
        clear hb3
        obtain ⟨k0, k1, k2⟩ := X3.out.cells
        go_wp2_with fail
        refine wp_quiet_in (fun wx => Below w3.heap.size w3 wx) (by kernel_rfl) (by kernel_rfl) (Below.refl _ _).drew ?_
        go_big_quiet_want
        go_big_quiet_op
        apply Exists.intro
        refine ⟨fun _ _ => ?_, ?_⟩
        · with_reducible exact Eq.refl _
        go_big_quiet_on
        go_big_quiet_want
        go_big_quiet_op
        refine ⟨.int .i64 2, fun wx hx => ?_, ?_⟩
        · have c := (X3.out.on hx).cells.1
          simp [go_sem, c]
        go_big_quiet_on
        go_big_quiet_want
        go_big_quiet_op
        refine ⟨.string ⟨#[39]⟩, fun wx hx => ?_, ?_⟩
        · refine (open_text _).mono ?_
          rintro e w3 ⟨rfl, rfl⟩
          exact ⟨rfl, hx⟩
        go_big_quiet_on
        go_big_quiet_want
        go_big_quiet_op
        apply Exists.intro
        refine ⟨fun _ _ => ?_, ?_⟩
        · with_reducible exact Eq.refl _
        go_big_quiet_on
        go_big_quiet_want
        go_big_quiet_op
        refine ⟨.string S, fun wx hx => ?_, ?_⟩
        · have c := (X3.out.on hx).cells.2.2
          simp [go_sem, c]
        go_big_quiet_on
        go_big_quiet_want
        go_big_quiet_op
        refine ⟨.string (bs (showS (bl S))), fun wx hx => ?_, ?_⟩
        · refine (shown_any S hz.out _).mono ?_
          rintro e w3 ⟨rfl, hb3⟩
          exact ⟨rfl, hx.trans (hb3.mono hx.size)⟩
        go_big_quiet_on
        go_big_quiet_want
        go_big_quiet_op
        apply Exists.intro
        refine ⟨fun _ _ => ?_, ?_⟩
        · with_reducible exact Eq.refl _
        go_big_quiet_on
        go_big_quiet_want
        go_big_quiet_op
        apply Exists.intro
        refine ⟨fun _ _ => ?_, ?_⟩
        · with_reducible exact Eq.refl _
        go_big_quiet_on
        go_big_quiet_want
        go_big_quiet_op
        go_big_quiet_on
        refine wpQuiet_nil ?_
        intro w5 hb5
        have B5 := hid (B3.out.trans (hb5.mono B3.out.size))
        clear hb5
        go_wp2
        go_ret
        exact ⟨rfl, B5.out⟩
      · have e : showT 3 0 S = ⟨#[120, 39]⟩ ++ bs (showS (bl S)) ++ ⟨#[39]⟩ := by
          unfold showT
          rw [show_blob hS, show (⟨#[39]⟩ : ByteArray) = bs [39] from rfl, show (⟨#[120, 39]⟩ : ByteArray) = bs [120, 39] from rfl, bs_append, bs_append]
          rfl
        rw [e]
        have hsl := showS_length (bl S)
        have hz2 : S.size ≤ 2000 := hz.out
        have h8 : ¬ 9223372036854775807 < (⟨#[120, 39]⟩ : ByteArray).size + (bs (showS (bl S))).size := by
          rw [bs_size]; rw [bl_len] at hsl; show ¬ 9223372036854775807 < 2 + _; omega
        have h9 : ¬ 9223372036854775807 < 2 + (bs (showS (bl S))).size + 1 := by
          rw [bs_size]; rw [bl_len] at hsl; omega
        clear e hS hg hN g hsl hz2
        go_enter Tryz.func74, Tryz.ntmps74
        go_wp2_with fail
        refine (HG.out _).mono ?_
        rintro e w3 ⟨rfl, hb3⟩
        have B3 := hid (B1.out.trans (hb3.mono B1.out.size))
        have X3 := hid (X1.out.on hb3)
        clear hb3
        obtain ⟨k0, k1, k2⟩ := X3.out.cells
        go_wp2_with fail
        refine wp_quiet_in (fun wx => Below w3.heap.size w3 wx) (by kernel_rfl) (by kernel_rfl) (Below.refl _ _).drew ?_
        go_big_quiet_want
        go_big_quiet_op
        apply Exists.intro
        refine ⟨fun _ _ => ?_, ?_⟩
        · with_reducible exact Eq.refl _
        go_big_quiet_on
        go_big_quiet_want
        go_big_quiet_op
        refine ⟨.int .i64 3, fun wx hx => ?_, ?_⟩
        · have c := (X3.out.on hx).cells.1
          simp [go_sem, c]
        go_big_quiet_on
        go_big_quiet_want
        go_big_quiet_op
        refine ⟨.string ⟨#[120, 39]⟩, fun wx hx => ?_, ?_⟩
        · refine (open_blob _).mono ?_
          rintro e w3 ⟨rfl, rfl⟩
          exact ⟨rfl, hx⟩
        go_big_quiet_on
        go_big_quiet_want
        go_big_quiet_op
        apply Exists.intro
        refine ⟨fun _ _ => ?_, ?_⟩
        · with_reducible exact Eq.refl _
        go_big_quiet_on
        go_big_quiet_want
        go_big_quiet_op
        refine ⟨.string S, fun wx hx => ?_, ?_⟩
        · have c := (X3.out.on hx).cells.2.2
          simp [go_sem, c]
        go_big_quiet_on
        go_big_quiet_want
        go_big_quiet_op
        refine ⟨.string (bs (showS (bl S))), fun wx hx => ?_, ?_⟩
        · refine (shown_any S hz.out _).mono ?_
          rintro e w3 ⟨rfl, hb3⟩
          exact ⟨rfl, hx.trans (hb3.mono hx.size)⟩
        go_big_quiet_on
        go_big_quiet_want
        go_big_quiet_op
        apply Exists.intro
        refine ⟨fun _ _ => ?_, ?_⟩
        · with_reducible exact Eq.refl _
        go_big_quiet_on
        go_big_quiet_want
        go_big_quiet_op
        apply Exists.intro
        refine ⟨fun _ _ => ?_, ?_⟩
        · with_reducible exact Eq.refl _
        go_big_quiet_on
        go_big_quiet_want
        go_big_quiet_op
        go_big_quiet_on
        refine wpQuiet_nil ?_
        intro w5 hb5
        have B5 := hid (B3.out.trans (hb5.mono B3.out.size))
        clear hb5
        go_wp2
        go_ret
        exact ⟨rfl, B5.out⟩
end Va
end Go.Proofs.YtiellodbkanciaaGreatDoor

/-
  Contract of the project's parseInt.
-/
namespace Go.Proofs.YtiellodbkanciaaGreatDoor
open Go.RowKit
namespace Va
open Num (hid)
theorem atoi_ok (t : ByteArray) (n : Int) (ht : t.size ≤ 20) (h : Lib.atoiAll (bl t) = .ok n) (w : World) : Calls Tryz.prog 172 #[.string t] w fun e w' => e = .returned (.tuple #[.int .i64 n, .nilIface]) ∧ Below w.heap.size w w' := by
  refine (Any.strconv_Atoi_ok Tryz.atoiL t (by omega) n h w).mono ?_
  rintro e w' ⟨rfl, rfl | ⟨t', rfl⟩⟩
  · exact ⟨rfl, Below.refl _ _⟩
  · exact ⟨rfl, Lib.bytesWorld_below _ _ _⟩
def AtBad (w : World) (e : Ending) (w' : World) : Prop := ∃ (v : Int) (N : Nat), e = .returned (.tuple #[.int .i64 v, .iface 204 (.pointer (some ⟨N, 0, none⟩))]) ∧ Below w.heap.size w w'
theorem atoi_bad (t : ByteArray) (ht : t.size ≤ 20) (h : ∀ n, Lib.atoiAll (bl t) ≠ .ok n) (w : World) (g : Glob w) : Calls Tryz.prog 172 #[.string t] w (AtBad w) := by
  cases hr : Lib.atoiAll (bl t) with
  | ok n => exact absurd hr (h n)
  | range =>
    obtain ⟨t1, p1, h1⟩ := g.rng
    refine (Any.strconv_Atoi_range Tryz.atoiL t (by omega) hr (.iface t1 p1) w h1 (Or.inr ⟨t1, p1, rfl⟩)).mono ?_
    rintro e w' ⟨N, rfl, _, _, hb⟩
    exact ⟨_, N, rfl, hb⟩
  | _ =>
    obtain ⟨t1, p1, h1⟩ := g.syn
    refine (Any.strconv_Atoi_syntax Tryz.atoiL t (by omega) hr (.iface t1 p1) w h1 (Or.inr ⟨t1, p1, rfl⟩)).mono ?_
    rintro e w' ⟨N, rfl, _, _, hb⟩
    exact ⟨_, N, rfl, hb⟩
theorem head_list (s : ByteArray) (k : Nat) : bl (s.extract 0 k) = (bl s).take k := by
  show (s.extract 0 k).data.toList = _
  rw [ByteArray.data_extract]
  simp [bl]
set_option maxRecDepth 100000 in
set_option maxHeartbeats 8000000 in
theorem pint_any (s : ByteArray) (hs : s.size ≤ maxLen) (w : World) (g : Glob w) :
    Calls Tryz.prog 158 #[.string s] w fun e w' => e = .returned (uV (numU (pintL (bl s)))) ∧ Below w.heap.size w w' := by
  replace hs : s.size ≤ 9223372036854775807 := by unfold maxLen at hs; omega
  have Hg := hid g
  obtain ⟨M, hM⟩ : ∃ M, M = min s.size 20 := ⟨_, rfl⟩
  obtain ⟨R, hR⟩ : ∃ R, R = pintL (bl s) := ⟨_, rfl⟩
  have HR0 := hid (show R = pint M (bl s) by rw [hR, hM]; unfold pintL; rw [bl_len])
  rw [← hR]
  have hM1 : M ≤ 20 := by omega
  have hM2 : M ≤ s.size := by omega
  have hmin : min (s.size : Int) 20 = (M : Int) := by omega
  have HMin := hid hmin
  clear hR g
  have X1 := hid (Bx.new 0 0 ⟨#[]⟩ w)
  have B1 := hid ((Below.refl w.heap.size w).alloc (Nat.le_refl _) (.cells #[.int .i64 0, .int .i64 0, .string ⟨#[]⟩] 78))
  obtain ⟨W1, hW1⟩ : ∃ W1, W1 = w.alloc (.cells #[.int .i64 0, .int .i64 0, .string ⟨#[]⟩] 78) := ⟨_, rfl⟩
  rw [← hW1] at X1 B1
  have hz1 : W1.heap.size = w.heap.size + 1 := by rw [hW1]; simp
  have Hz1 := hid hz1
  have HW1 := hid hW1
  clear hz1 hW1 hM
  go_enter Tryz.func158, Tryz.ntmps158
  go_wp2
  go_loopw [5] (fun i wr => ∃ j : Nat, j ≤ M ∧ i = .int .i64 j ∧ Hid (R = pint j (bl s)) ∧ Below W1.heap.size W1 wr) (fun i _ => (intOf i).toNat)
  case atStart =>
    refine ⟨M, Nat.le_refl _, rfl, HR0, ?_⟩
    rw [← HW1.out]
    exact Below.refl _ _
  case round =>
    obtain ⟨j, hj, rfl, HU, hbel⟩ := hrel
    have HB := hid hbel
    have hszr : W1.heap.size ≤ wr.heap.size := hbel.size
    have hszw : w.heap.size < wr.heap.size := by have := Hz1.out; omega
    have XR := hid (X1.out.on hbel)
    have BW := hid (B1.out.trans (hbel.mono B1.out.size))
    have HGr := hid (Hg.out.on BW.out)
    clear hbel
    cases j with
    | zero =>
      have HV := hid (show R = none from HU.out)
      obtain ⟨r0, r1, r2⟩ := XR.out.cells
      obtain ⟨f0, f1, f2⟩ := XR.out.free
      go_wp2
      rw [HV.out]
      exact bodyPost_ret (v := uV noneU) (by simp [results, uV, noneU, bs, go_sem, r0, r1, r2]) rfl ⟨rfl, by
        repeat (first | exact BW.out | refine Below.setCell ?_ (by simp) _)⟩
    | succ p =>
      have hU := HU.out
      have hpint : pint (p + 1) (bl s) = (match intAt ((bl s).take (p + 1)) with | some n => some (n, p + 1) | none => pint p (bl s)) := rfl
      rw [hpint] at hU
      have hps : p + 1 ≤ s.size := by omega
      have hps' : ((p : Int) + 1) ≤ (s.size : Int) := by omega
      have hsz : (s.extract 0 (p + 1)).size ≤ 20 := by rw [ByteArray.size_extract]; omega
      have hbl := head_list s (p + 1)
      obtain ⟨T, hT⟩ : ∃ T, T = s.extract 0 (p + 1) := ⟨_, rfl⟩
      rw [← hT] at hsz hbl
      rw [← hbl] at hU
      have HT := hid hT
      clear hT hpint hbl
      cases hat : Lib.atoiAll (bl T) with
      | ok n =>
        have HI := hid (Lib.atoiAll_bounds hat : InI n)
        have Hat := hid (atoi_ok T n hsz hat)
        by_cases hi : Lib.itoa n = bl T
        · have hia : intAt (bl T) = some n := by unfold intAt; rw [hat]; simp only; rw [if_pos hi]
          rw [hia] at hU
          have HV := hid (show R = some (n, p + 1) from hU)
          have hq : ((bs (Lib.itoa n)).toList == T.toList) = true := by
            rw [beq_iff_eq, ByteArray.toList_eq, ByteArray.toList_eq]
            exact hi
          clear hU hia hi hat hsz
          rw [HT.out] at hq Hat
          go_wp2_with fail
          refine (Hat.out _).mono ?_
          rintro e w3 ⟨rfl, hb3⟩
          have HG3 := hid (HGr.out.on hb3)
          have BW3 := hid (BW.out.trans (hb3.mono BW.out.size))
          have XR3 := hid (XR.out.on hb3)
          clear hb3
          go_wp2_with fail
          refine wp_quiet_in (fun wx => Below w3.heap.size w3 wx) (by kernel_rfl) (by kernel_rfl) (Below.refl _ _).drew ?_
          go_big_quiet_want
          go_big_quiet_op
          go_big_quiet_on
          go_big_quiet_want
          go_big_quiet_op
          apply Exists.intro
          refine ⟨fun _ _ => ?_, ?_⟩
          · with_reducible exact Eq.refl _
          go_big_quiet_on
          go_big_quiet_want
          go_big_quiet_op
          go_big_quiet_on
          go_big_quiet_want
          go_big_quiet_op
          go_big_quiet_on
          go_big_quiet_want
          go_big_quiet_op
          refine ⟨.string (bs (Lib.itoa n)), fun wx hx => ?_, ?_⟩
          · refine (itoa_any n HI.out _ ((HG3.out.on hx))).mono ?_
            rintro e w3 ⟨rfl, hb3⟩
            exact ⟨rfl, hx.trans (hb3.mono hx.size)⟩
          go_big_quiet_on
          go_big_quiet_want
          go_big_quiet_op
          go_big_quiet_on
          go_big_quiet_want
          go_big_quiet_op
          go_big_quiet_on
          go_big_quiet_want
          go_big_quiet_op
          apply Exists.intro
          refine ⟨fun _ _ => ?_, ?_⟩
          · with_reducible exact Eq.refl _
          go_big_quiet_on
          go_big_quiet_want
          go_big_quiet_op
          apply Exists.intro
          refine ⟨fun _ _ => ?_, ?_⟩
          · with_reducible exact Eq.refl _
          go_big_quiet_on
          go_big_quiet_want
          go_big_quiet_op
          apply Exists.intro
          refine ⟨fun _ _ => ?_, ?_⟩
          · with_reducible exact Eq.refl _
          go_big_quiet_on
          refine wpQuiet_nil ?_
          intro w5 hb5
          obtain ⟨r0, r1, r2⟩ := (XR3.out.on hb5).cells
          obtain ⟨f0, f1, f2⟩ := (XR3.out.on hb5).free
          have hszw5 := lt_of_block (XR3.out.on hb5)
          have BW := hid (BW3.out.trans (hb5.mono BW3.out.size))
          clear hb5
          go_wp2
          rw [HV.out]
          exact bodyPost_ret (v := uV (numU (some (n, p + 1)))) (by simp [results, uV, numU, bs, go_sem, r0, r1, r2]) rfl ⟨rfl, by
            repeat (first | exact BW.out | refine Below.setCell ?_ (by simp) _)⟩
        · have hia : intAt (bl T) = none := by unfold intAt; rw [hat]; simp only; rw [if_neg hi]
          rw [hia] at hU
          have HV := hid (show R = pint p (bl s) from hU)
          have hq : ((bs (Lib.itoa n)).toList == T.toList) = false := by
            rw [beq_eq_false_iff_ne, ByteArray.toList_eq, ByteArray.toList_eq]
            exact hi
          clear hU hia hi hat hsz
          rw [HT.out] at hq Hat
          go_wp2_with fail
          refine (Hat.out _).mono ?_
          rintro e w3 ⟨rfl, hb3⟩
          have HG3 := hid (HGr.out.on hb3)
          have HB3 := hid (HB.out.trans (hb3.mono hszr))
          clear hb3
          go_wp2_with fail
          refine wp_quiet_in (fun wx => Below w3.heap.size w3 wx) (by kernel_rfl) (by kernel_rfl) (Below.refl _ _).drew ?_
          go_big_quiet_want
          go_big_quiet_op
          go_big_quiet_on
          go_big_quiet_want
          go_big_quiet_op
          apply Exists.intro
          refine ⟨fun _ _ => ?_, ?_⟩
          · with_reducible exact Eq.refl _
          go_big_quiet_on
          go_big_quiet_want
          go_big_quiet_op
          go_big_quiet_on
          go_big_quiet_want
          go_big_quiet_op
          go_big_quiet_on
          go_big_quiet_want
          go_big_quiet_op
          refine ⟨.string (bs (Lib.itoa n)), fun wx hx => ?_, ?_⟩
          · refine (itoa_any n HI.out _ ((HG3.out.on hx))).mono ?_
            rintro e w3 ⟨rfl, hb3⟩
            exact ⟨rfl, hx.trans (hb3.mono hx.size)⟩
          go_big_quiet_on
          go_big_quiet_want
          go_big_quiet_op
          go_big_quiet_on
          go_big_quiet_want
          go_big_quiet_op
          go_big_quiet_on
          go_big_quiet_want
          go_big_quiet_op
          apply Exists.intro
          refine ⟨fun _ _ => ?_, ?_⟩
          · with_reducible exact Eq.refl _
          go_big_quiet_on
          go_big_quiet_want
          go_big_quiet_op
          apply Exists.intro
          refine ⟨fun _ _ => ?_, ?_⟩
          · with_reducible exact Eq.refl _
          go_big_quiet_on
          go_big_quiet_want
          go_big_quiet_op
          apply Exists.intro
          refine ⟨fun _ _ => ?_, ?_⟩
          · with_reducible exact Eq.refl _
          go_big_quiet_on
          refine wpQuiet_nil ?_
          intro w5 hb5
          have HB5 := hid (HB3.out.trans (hb5.mono HB3.out.size))
          clear hb5
          go_wp2
          go_roundw
          case rel => exact ⟨p, by omega, by go_num, HV, HB5.out⟩
          case measure => simp [intOf]
      | range =>
        have hia : intAt (bl T) = none := by unfold intAt; rw [hat]
        rw [hia] at hU
        have HV := hid (show R = pint p (bl s) from hU)
        have Hat := hid (fun w g => atoi_bad T hsz (fun n h => by rw [hat] at h; cases h) w g)
        clear hU hia hat hsz
        rw [HT.out] at Hat
        go_wp2_with fail
        refine (Hat.out _ HGr.out).mono ?_
        rintro e w3 ⟨v, N, rfl, hb3⟩
        have HB3 := hid (HB.out.trans (hb3.mono hszr))
        clear hb3
        go_wp2_with fail
        refine wp_quiet_in (fun wx => Below w3.heap.size w3 wx) (by kernel_rfl) (by kernel_rfl) (Below.refl _ _).drew ?_
        go_big_quiet_want
        go_big_quiet_op
        go_big_quiet_on
        go_big_quiet_want
        go_big_quiet_op
        apply Exists.intro
        refine ⟨fun _ _ => ?_, ?_⟩
        · with_reducible exact Eq.refl _
        go_big_quiet_on
        go_big_quiet_want
        go_big_quiet_op
        go_big_quiet_on
        go_big_quiet_skip
        go_big_quiet_skip
        go_big_quiet_skip
        go_big_quiet_skip
        go_big_quiet_skip
        go_big_quiet_skip
        go_big_quiet_want
        go_big_quiet_op
        apply Exists.intro
        refine ⟨fun _ _ => ?_, ?_⟩
        · with_reducible exact Eq.refl _
        go_big_quiet_on
        refine wpQuiet_nil ?_
        intro w5 hb5
        have HB5 := hid (HB3.out.trans (hb5.mono HB3.out.size))
        clear hb5
        go_wp2
        go_roundw
        case rel => exact ⟨p, by omega, by go_num, HV, HB5.out⟩
        case measure => simp [intOf]
      | _ =>
        have hia : intAt (bl T) = none := by unfold intAt; rw [hat]
        rw [hia] at hU
        have HV := hid (show R = pint p (bl s) from hU)
        have Hat := hid (fun w g => atoi_bad T hsz (fun n h => by rw [hat] at h; cases h) w g)
        clear hU hia hat hsz
        rw [HT.out] at Hat
        go_wp2_with fail
        refine (Hat.out _ HGr.out).mono ?_
        rintro e w3 ⟨v, N, rfl, hb3⟩
        have HB3 := hid (HB.out.trans (hb3.mono hszr))
        clear hb3
        go_wp2_with fail
        refine wp_quiet_in (fun wx => Below w3.heap.size w3 wx) (by kernel_rfl) (by kernel_rfl) (Below.refl _ _).drew ?_
        go_big_quiet_want
        go_big_quiet_op
        go_big_quiet_on
        go_big_quiet_want
        go_big_quiet_op
        apply Exists.intro
        refine ⟨fun _ _ => ?_, ?_⟩
        · with_reducible exact Eq.refl _
        go_big_quiet_on
        go_big_quiet_want
        go_big_quiet_op
        go_big_quiet_on
        go_big_quiet_skip
        go_big_quiet_skip
        go_big_quiet_skip
        go_big_quiet_skip
        go_big_quiet_skip
        go_big_quiet_skip
        go_big_quiet_want
        go_big_quiet_op
        apply Exists.intro
        refine ⟨fun _ _ => ?_, ?_⟩
        · with_reducible exact Eq.refl _
        go_big_quiet_on
        refine wpQuiet_nil ?_
        intro w5 hb5
        have HB5 := hid (HB3.out.trans (hb5.mono HB3.out.size))
        clear hb5
        go_wp2
        go_roundw
        case rel => exact ⟨p, by omega, by go_num, HV, HB5.out⟩
        case measure => simp [intOf]
end Va
end Go.Proofs.YtiellodbkanciaaGreatDoor
