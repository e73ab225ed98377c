/-
  Contracts of the project's shownByte, opening, shownBytes.
-/
import Derived.Test.YtpabhekbkdpkiaaDoorValOwn
import Derived.StillTailTactics
namespace Go.Proofs.YtpabhekbkdpkiaaDoor
open Go.RowKit
namespace Va
open Num (hid)
def digS : ByteArray := ⟨#[48, 49, 50, 51, 52, 53, 54, 55, 56, 57, 97, 98, 99, 100, 101, 102]⟩
theorem shb_39 {b : UInt8} (h : ((b.toNat : Int) == 39) = true) : bs (shb b) = ⟨#[39, 39]⟩ := by
  have e : b.toNat = 39 := by simp only [beq_iff_eq] at h; omega
  unfold shb
  rw [if_pos e]
  rfl
theorem odd_ways (b : UInt8) : ((b.toNat : Int) == 39) = true ∨
    (((b.toNat : Int) == 39) = false ∧ ((b.toNat : Int) == 92) = true ∧ shb b = [92, hexc (b.toNat / 16), hexc (b.toNat % 16)]) ∨
    (((b.toNat : Int) == 39) = false ∧ ((b.toNat : Int) == 92) = false ∧ (b.toNat : Int) < 32 ∧ shb b = [92, hexc (b.toNat / 16), hexc (b.toNat % 16)]) ∨
    (((b.toNat : Int) == 39) = false ∧ ((b.toNat : Int) == 92) = false ∧ ¬ (b.toNat : Int) < 32 ∧ (126 : Int) < (b.toNat : Int) ∧ shb b = [92, hexc (b.toNat / 16), hexc (b.toNat % 16)]) ∨
    (((b.toNat : Int) == 39) = false ∧ ((b.toNat : Int) == 92) = false ∧ ¬ (b.toNat : Int) < 32 ∧ ¬ (126 : Int) < (b.toNat : Int) ∧ shb b = [b]) := by
  simp only [beq_iff_eq, beq_eq_false_iff_ne, ne_eq]
  by_cases h39 : b.toNat = 39
  · exact Or.inl (by omega)
  · have hs : shb b = if odd b then [92, hexc (b.toNat / 16), hexc (b.toNat % 16)] else [b] := if_neg h39
    rw [hs]
    unfold odd
    by_cases h92 : b.toNat = 92
    · exact Or.inr (Or.inl ⟨by omega, by omega, by simp [h92]⟩)
    · by_cases h32 : b.toNat < 32
      · exact Or.inr (Or.inr (Or.inl ⟨by omega, by omega, by omega, by simp [h32]⟩))
      · by_cases h126 : 126 < b.toNat
        · exact Or.inr (Or.inr (Or.inr (Or.inl ⟨by omega, by omega, by omega, by omega, by simp [h126]⟩)))
        · exact Or.inr (Or.inr (Or.inr (Or.inr ⟨by omega, by omega, by omega, by omega, by simp [h92, h32, h126]⟩)))
theorem digS_at : ∀ n : Fin 16, digS[n.val]? = some (hexc n.val) := by decide +kernel
theorem dig_at {n : Nat} (h : n < 16) : (⟨#[48, 49, 50, 51, 52, 53, 54, 55, 56, 57, 97, 98, 99, 100, 101, 102]⟩ : ByteArray)[n]'h = hexc n := by
  have e := digS_at ⟨n, h⟩
  have e2 : digS[n]? = some (digS[n]'h) := getElem?_pos digS n h
  simp only at e
  rw [e2] at e
  exact Option.some.inj e
theorem conv_three (x y z : UInt8) (w : World) : (convert 40 9 (.slice (some ⟨w.heap.size, 0, none⟩) 3 3)).run Tryd.prog (w.alloc (.cells #[.int .u8 (x.toNat : Int), .int .u8 (y.toNat : Int), .int .u8 (z.toNat : Int)] 5)) = .ok (.string (bs [x, y, z])) (w.alloc (.cells #[.int .u8 (x.toNat : Int), .int .u8 (y.toNat : Int), .int .u8 (z.toNat : Int)] 5)) :=
  run_convert_bytes_back (P := Tryd.prog) _ 40 9 5 ⟨w.heap.size, 0, none⟩ 3 [x, y, z] Tryd.underlying40 Tryd.underlying5 Tryd.underlying9 (fun j hj => by
    rw [Addr.add_lit, Nat.zero_add]
    exact new_three w x y z j hj)
theorem wrap8 {n : Nat} (h : n < 16) : IntKind.u8.wrap (n : Int) = (n : Int) := by
  unfold IntKind.wrap
  simp [IntKind.bits, IntKind.signed]
  omega
set_option maxRecDepth 100000 in
set_option maxHeartbeats 1000000 in
theorem shb_any (b : UInt8) (w : World) : Calls Tryd.prog 48 #[.int .u8 (b.toNat : Int)] w fun e w' => e = .returned (.string (bs (shb b))) ∧ Below w.heap.size w w' := by
  rcases odd_ways b with h39 | ⟨h39, h92, hs⟩ | ⟨h39, h92, h32, hs⟩ | ⟨h39, h92, h32, h126, hs⟩ | ⟨h39, h92, h32, h126, hs⟩
  · rw [shb_39 h39]
    go_enter Tryd.func48, Tryd.ntmps48
    go_wp2
    go_ret
    exact ⟨rfl, Below.refl _ _⟩
  · rw [hs]
    clear hs
    have hb := b.toNat_lt
    have hq16 : b.toNat / 16 < 16 := by omega
    have hr16 : b.toNat % 16 < 16 := by omega
    have w1 : IntKind.u8.wrap ((b.toNat : Int) / 16) = ((b.toNat / 16 : Nat) : Int) := wrap8 hq16
    have w2 : ((b.toNat : Int)).tmod 16 = ((b.toNat % 16 : Nat) : Int) := by rw [Int.tmod_eq_emod_of_nonneg (by omega)]; omega
    generalize b.toNat / 16 = q at hq16 w1 ⊢
    generalize b.toNat % 16 = r at hr16 w2 ⊢
    have hq16' : (q : Int) < 16 := by omega
    have hr16' : (r : Int) < 16 := by omega
    have d1 := dig_at hq16
    have d2 := dig_at hr16
    go_enter Tryd.func48, Tryd.ntmps48
    go_wp2
    refine wp_region_still_tail 6 (by kernel_rfl) (by kernel_rfl) ?_
    simp only [List.take_succ_cons, List.take_zero, List.drop_succ_cons, List.drop_zero]
    have BD : Hid (Below w.heap.size w { w with drawn := w.drawn + 1 }) := hid ((Below.refl w.heap.size w).drew)
    generalize ({ w with drawn := w.drawn + 1 } : World) = w5 at *
    still_step
    still_step
    still_step
    still_step
    still_step
    still_step
    refine wpStill_nil ?_
    clear w1 w2
    have hcv : (convert 40 9 (.slice (some ⟨w5.heap.size, 0, none⟩) 3 3)).run Tryd.prog (w5.alloc (.cells #[.int .u8 92, .int .u8 ((hexc q).toNat : Int), .int .u8 ((hexc r).toNat : Int)] 5)) = .ok (.string (bs [92, hexc q, hexc r])) (w5.alloc (.cells #[.int .u8 92, .int .u8 ((hexc q).toNat : Int), .int .u8 ((hexc r).toNat : Int)] 5)) := conv_three 92 (hexc q) (hexc r) w5
    clear d1 d2
    go_wp2
    go_ret
    exact ⟨rfl, BD.out.alloc BD.out.size _⟩
  · rw [hs]
    clear hs
    have hb := b.toNat_lt
    have hq16 : b.toNat / 16 < 16 := by omega
    have hr16 : b.toNat % 16 < 16 := by omega
    have w1 : IntKind.u8.wrap ((b.toNat : Int) / 16) = ((b.toNat / 16 : Nat) : Int) := wrap8 hq16
    have w2 : ((b.toNat : Int)).tmod 16 = ((b.toNat % 16 : Nat) : Int) := by rw [Int.tmod_eq_emod_of_nonneg (by omega)]; omega
    generalize b.toNat / 16 = q at hq16 w1 ⊢
    generalize b.toNat % 16 = r at hr16 w2 ⊢
    have hq16' : (q : Int) < 16 := by omega
    have hr16' : (r : Int) < 16 := by omega
    have d1 := dig_at hq16
    have d2 := dig_at hr16
    go_enter Tryd.func48, Tryd.ntmps48
    go_wp2
    refine wp_region_still_tail 6 (by kernel_rfl) (by kernel_rfl) ?_
    simp only [List.take_succ_cons, List.take_zero, List.drop_succ_cons, List.drop_zero]
    have BD : Hid (Below w.heap.size w { w with drawn := w.drawn + 1 }) := hid ((Below.refl w.heap.size w).drew)
    generalize ({ w with drawn := w.drawn + 1 } : World) = w5 at *
    still_step
    still_step
    still_step
    still_step
    still_step
    still_step
    refine wpStill_nil ?_
    clear w1 w2
    have hcv : (convert 40 9 (.slice (some ⟨w5.heap.size, 0, none⟩) 3 3)).run Tryd.prog (w5.alloc (.cells #[.int .u8 92, .int .u8 ((hexc q).toNat : Int), .int .u8 ((hexc r).toNat : Int)] 5)) = .ok (.string (bs [92, hexc q, hexc r])) (w5.alloc (.cells #[.int .u8 92, .int .u8 ((hexc q).toNat : Int), .int .u8 ((hexc r).toNat : Int)] 5)) := conv_three 92 (hexc q) (hexc r) w5
    clear d1 d2
    go_wp2
    go_ret
    exact ⟨rfl, BD.out.alloc BD.out.size _⟩
  · rw [hs]
    clear hs
    have hb := b.toNat_lt
    have hq16 : b.toNat / 16 < 16 := by omega
    have hr16 : b.toNat % 16 < 16 := by omega
    have w1 : IntKind.u8.wrap ((b.toNat : Int) / 16) = ((b.toNat / 16 : Nat) : Int) := wrap8 hq16
    have w2 : ((b.toNat : Int)).tmod 16 = ((b.toNat % 16 : Nat) : Int) := by rw [Int.tmod_eq_emod_of_nonneg (by omega)]; omega
    generalize b.toNat / 16 = q at hq16 w1 ⊢
    generalize b.toNat % 16 = r at hr16 w2 ⊢
    have hq16' : (q : Int) < 16 := by omega
    have hr16' : (r : Int) < 16 := by omega
    have d1 := dig_at hq16
    have d2 := dig_at hr16
    go_enter Tryd.func48, Tryd.ntmps48
    go_wp2
    refine wp_region_still_tail 6 (by kernel_rfl) (by kernel_rfl) ?_
    simp only [List.take_succ_cons, List.take_zero, List.drop_succ_cons, List.drop_zero]
    have BD : Hid (Below w.heap.size w { w with drawn := w.drawn + 1 }) := hid ((Below.refl w.heap.size w).drew)
    generalize ({ w with drawn := w.drawn + 1 } : World) = w5 at *
    still_step
    still_step
    still_step
    still_step
    still_step
    still_step
    refine wpStill_nil ?_
    clear w1 w2
    have hcv : (convert 40 9 (.slice (some ⟨w5.heap.size, 0, none⟩) 3 3)).run Tryd.prog (w5.alloc (.cells #[.int .u8 92, .int .u8 ((hexc q).toNat : Int), .int .u8 ((hexc r).toNat : Int)] 5)) = .ok (.string (bs [92, hexc q, hexc r])) (w5.alloc (.cells #[.int .u8 92, .int .u8 ((hexc q).toNat : Int), .int .u8 ((hexc r).toNat : Int)] 5)) := conv_three 92 (hexc q) (hexc r) w5
    clear d1 d2
    go_wp2
    go_ret
    exact ⟨rfl, BD.out.alloc BD.out.size _⟩
  · rw [hs]
    have hcv := conv_one b w
    go_enter Tryd.func48, Tryd.ntmps48
    go_wp2
    go_ret
    exact ⟨rfl, (Below.refl _ _).alloc (Nat.le_refl _) _⟩
/-! ### A builder of the call's own -/
theorem own_keeps {w w' : World} {base : Nat} {e : TypeId} {v : Value} {n : Nat} {l : List Value} (h : w.ownsRow base e 1 v n l) (hb : Below w.heap.size w w') : w'.ownsRow base e 1 v n l := by
  obtain ⟨h1, h2⟩ := h
  refine ⟨h1, ?_⟩
  rcases h2 with h2 | ⟨g, cap, cur, e1, e2, e3, e4⟩
  · exact Or.inl h2
  · exact Or.inr ⟨g, cap, cur, e1, e2, (hb.block _ (lt_of_block e3)).trans e3, e4⟩
theorem bat_on {T e : TypeId} {B b : Nat} {p : Value} {l : List Value} {w w' : World} (h : Lib.BuilderAt T e B b p l w) (hb : Below w.heap.size w w') : Lib.BuilderAt T e B b p l w' := by
  obtain ⟨h1, v, h2, h3, h4⟩ := h
  exact ⟨h1, v, (hb.block _ (lt_of_block h2)).trans h2, own_keeps h3 hb, h4⟩
theorem bld_on {T e : TypeId} {B b : Nat} {l : List Value} {w w' : World} (h : Lib.IsBuilder T e B b l w) (hb : Below w.heap.size w w') : Lib.IsBuilder T e B b l w' :=
  h.elim (fun h => Or.inl (bat_on h hb)) (fun h => Or.inr (bat_on h hb))
theorem extra : Builder.Extra Tryd.prog Tryd.replL_ren := {
  sizeBuilder := by kernel_rfl
  liesBuilder := by kernel_rfl
  t5 := Tryd.replL.t5
  a5 := Tryd.replL.a5
  z5 := Tryd.replL.z5
  v5 := Tryd.replL.v5
  infoByte := by kernel_rfl
  cellsByte := by kernel_rfl
  sizeByte := by kernel_rfl
  neB5 := by decide }
abbrev Bld (b : Nat) (l : Bs) (w : World) : Prop := Lib.IsBuilder 65 5 b b (Lib.byteCells l) w
theorem wstr_any (b : Nat) (l x : Bs) (w : World) (h : Bld b l w) (hlen : l.length + x.length ≤ 140737488355328) (hb : b ≤ w.heap.size) :
    Calls Tryd.prog 47 #[.pointer (some ⟨b, 0, none⟩), .string (bs x)] w fun e w' => e = .returned (.tuple #[.int .i64 (bs x).size, .nilIface]) ∧ Bld b (l ++ x) w' ∧ Below b w w' := by
  have hL : Lays.n166 Tryd.prog Tryd.replL_ren := { Tryd.replL with }
  refine (Any.Builder_WriteString hL extra b b (Lib.byteCells l) (bs x) w h (by rw [Lib.byteCells_length, bs_size]; exact hlen) hb).mono ?_
  rintro e w' ⟨rfl, h1, h2⟩
  refine ⟨rfl, Or.inr ?_, h2⟩
  rw [Lib.strCells_eq, ← Lib.byteCells_append] at h1
  exact h1
theorem bstr_any (b : Nat) (l : Bs) (w : World) (h : Bld b l w) (hb : b ≤ w.heap.size) :
    Calls Tryd.prog 49 #[.pointer (some ⟨b, 0, none⟩)] w fun e w' => e = .returned (.string (bs l)) ∧ Below b w w' := by
  have hL : Lays.n169 Tryd.prog Tryd.replL_ren := { Tryd.replL with }
  exact Any.Builder_String_any hL extra b b l w h hb
theorem showS_snoc (l : Bs) (b : UInt8) : showS (l ++ [b]) = showS l ++ shb b := by
  induction l with
  | nil => simp [showS]
  | cons a l ih => simp [showS, ih]
set_option maxRecDepth 100000 in
set_option maxHeartbeats 1000000 in
theorem shown_any (s : ByteArray) (hs : s.size ≤ 2000) (w : World) : Calls Tryd.prog 31 #[.string s] w fun e w' => e = .returned (.string (bs (showS (bl s)))) ∧ Below w.heap.size w w' := by
  have hsl := hid (fun k => showS_length ((bl s).take k))
  have hlk := hid (fun k => List.length_take_le k (bl s))
  have hbl := hid (bl_len s)
  have F0 : Bld w.heap.size [] (w.alloc (.cells #[.pointer none, .slice none 0 0] 65)) := Lib.fresh_isBuilder 65 5 w
  have HF := hid F0
  clear F0
  go_enter Tryd.func31, Tryd.ntmps31
  go_wp2
  go_loopw [7] (fun i wr => ∃ k : Nat, k ≤ s.size ∧ i = .int .i64 k ∧ Hid (Bld w.heap.size (showS ((bl s).take k)) wr) ∧ Below w.heap.size w wr) (fun i _ => s.size - (intOf i).toNat)
  case atStart => exact ⟨0, Nat.zero_le _, rfl, HF, (Below.refl _ _).alloc (Nat.le_refl _) _⟩
  case round =>
    obtain ⟨k, hk, rfl, HK, hb⟩ := hrel
    have HB := hid hb
    have hszr := hb.size
    clear hb
    by_cases hlt : k < s.size
    · have HT := hid (take_snoc hlt)
      have hl1 : (showS ((bl s).take k)).length ≤ 6000 := by
        have h1 := hsl.out k
        have h2 := hlk.out k
        omega
      have HL := hid hl1
      have HS := hid (shb_le s[k])
      clear hl1
      go_wp2_with fail
      refine (shb_any s[k] _).mono ?_
      rintro e w3 ⟨rfl, hb3⟩
      have hsz3 := hb3.size
      have HK3 := hid (bld_on HK.out hb3)
      have HB3 := hid (HB.out.trans (hb3.mono hszr))
      clear hb3
      go_wp2_with fail
      refine (wstr_any w.heap.size _ (shb s[k]) _ HK3.out (by have := HL.out; have := HS.out; omega) (by omega)).mono ?_
      rintro e w4 ⟨rfl, h4, hb4⟩
      have HK4 := hid h4
      have HB4 := hid (HB3.out.trans hb4)
      clear h4 hb4
      go_wp2
      go_roundw
      case rel =>
        refine ⟨k + 1, by omega, by go_num, hid ?_, HB4.out⟩
        rw [HT.out, showS_snoc]
        exact HK4.out
      case measure => simp [intOf]; omega
    · have HE := hid (show (bl s).take k = bl s from List.take_of_length_le (by rw [bl_len]; omega))
      go_wp2_with fail
      refine (bstr_any w.heap.size _ _ HK.out (by omega)).mono ?_
      rintro e w4 ⟨rfl, hb4⟩
      have HB4 := hid (HB.out.trans hb4)
      clear hb4
      go_wp2
      go_ret
      rw [HE.out]
      exact ⟨rfl, HB4.out⟩
set_option maxRecDepth 100000 in
theorem open_text (w : World) : Calls Tryd.prog 30 #[.int .i64 2] w fun e w' => e = .returned (.string ⟨#[39]⟩) ∧ w = w' := by
  have hi : ∀ w, (Instr.index 62 (.agg #[.string ⟨#[]⟩, .string ⟨#[]⟩, .string ⟨#[39]⟩, .string ⟨#[120, 39]⟩]) (.int .i64 2)).run Tryd.prog w = .ok (.string ⟨#[39]⟩) w := fun _ => by kernel_rfl
  go_enter Tryd.func30, Tryd.ntmps30
  go_wp2
  go_ret
  exact ⟨rfl, rfl⟩
set_option maxRecDepth 100000 in
theorem open_blob (w : World) : Calls Tryd.prog 30 #[.int .i64 3] w fun e w' => e = .returned (.string ⟨#[120, 39]⟩) ∧ w = w' := by
  have hi : ∀ w, (Instr.index 62 (.agg #[.string ⟨#[]⟩, .string ⟨#[]⟩, .string ⟨#[39]⟩, .string ⟨#[120, 39]⟩]) (.int .i64 3)).run Tryd.prog w = .ok (.string ⟨#[120, 39]⟩) w := fun _ => by kernel_rfl
  go_enter Tryd.func30, Tryd.ntmps30
  go_wp2
  go_ret
  exact ⟨rfl, rfl⟩
end Va
end Go.Proofs.YtpabhekbkdpkiaaDoor
