/-
  Contract of the reference's Encode.
-/
import Derived.Test.YtgajhipkknpicaaGreatDoorRowEnc
import Derived.Test.YtgajhipkknpicaaGreatDoorGrpNum
import Derived.BigQuiet
namespace Go.Proofs.YtgajhipkknpicaaGreatDoor
open Go.RowKit
namespace Ro
open Va
open Num (hid varB foldI)
theorem rvar_bs (n : Nat) (hn : n < 18446744073709551616) (w : World) : Calls Tryz.prog 30 #[.int .u64 n] w fun e w' => e = .returned (.string (bs (varB n))) ∧ Below w.heap.size w w' := Num.rvar_any n hn w
theorem rfold_n {N : Int} (h : InI N) (w : World) : Calls Tryz.prog 31 #[.int .i64 N] w fun e w' => e = .returned (.int .u64 ((foldI N).toNat : Nat)) ∧ w = w' := by
  have := Num.rfold_any N h.1 h.2 w
  rw [← (fold_nat h).1] at this
  exact this
theorem bs_one (a : ByteArray) (l : Bs) (x : UInt8) (h : a = bs l) : a ++ ⟨#[x]⟩ = bs (l ++ [x]) := by subst h; rw [show (⟨#[x]⟩ : ByteArray) = bs [x] from rfl, bs_append]
set_option maxRecDepth 100000 in
set_option maxHeartbeats 4000000 in
theorem rencode_any (x : Value) (l : Vs) (w : World) (h : RowAt w x l) (hw : Wide l) :
    Calls Tryz.prog 11 #[x] w fun e w' => e = .returned (eV (encR l)) ∧ Below w.heap.size w w' := by
  have G := hid (rgood_any x l)
  have H := hid h
  have HW := hid hw
  obtain ⟨ao, cap, rfl, -, hat⟩ := h.ways
  have HAT := hid hat
  clear h hat hw
  unfold eV
  cases hg : goodR l with
  | false =>
    rw [encR_no hg]
    rw [hg] at G
    go_enter Tryz.func11, Tryz.ntmps11
    go_wp2_with fail
    refine (G.out _ H.out).mono ?_
    rintro e w3 ⟨rfl, hb3⟩
    have B3 := hid hb3
    clear hb3
    go_wp2
    go_ret2
    exact ⟨rfl, B3.out⟩
  | true =>
    rw [encR_yes hg]
    rw [hg] at G
    have hl := few hg
    have HG := hid (goods hg)
    have HM := hid (fun k => upto_most (l := l) (fun v hv => ((goodR_iff l).1 hg).2 v hv) k)
    clear hg
    have hlu : IntKind.u64.wrap (l.length : Int) = ((l.length : Nat) : Int) := u64_id (by omega)
    have HU0 : Hid (bs (varB l.length) = bs (upto l 0)) := hid (by unfold upto; rw [List.take_zero]; simp [encsV])
    go_enter Tryz.func11, Tryz.ntmps11
    go_wp2_with fail
    refine (G.out _ H.out).mono ?_
    rintro e w3 ⟨rfl, hb3⟩
    have B3 := hid hb3
    clear hb3
    go_wp2_with fail
    refine (rvar_bs l.length (by omega) _).mono ?_
    rintro e w5 ⟨rfl, hb5⟩
    have B5 := hid (B3.out.trans (hb5.mono B3.out.size))
    clear hb5
    go_wp2
    go_loopw [4, 5] (fun s i wr => ∃ k : Nat, k ≤ l.length ∧ i = .int .i64 k ∧ s = .string (bs (upto l k)) ∧ Hid (Below w.heap.size w wr)) (fun _ i _ => l.length - (intOf i).toNat)
    case atStart => exact ⟨0, Nat.zero_le _, rfl, by rw [HU0.out], B5⟩
    case round =>
      obtain ⟨k, hk, rfl, rfl, HB⟩ := hrel
      have hszr := HB.out.size
      have hum : (upto l k).length ≤ 100000 := by have := HM.out k; omega
      have hus := bs_size (upto l k)
      by_cases hlt : k < l.length
      · obtain ⟨b, o, rfl, hbl, x0, x1, x2⟩ := HAT.out k hlt
        have hblr : b < wr.heap.size := Nat.lt_of_lt_of_le hbl hszr
        have y0 := (HB.out.cell (p := ⟨b, o + k * 3, none⟩) hbl).trans x0
        have y1 := (HB.out.cell (p := ⟨b, o + k * 3 + 1, none⟩) hbl).trans x1
        have y2 := (HB.out.cell (p := ⟨b, o + k * 3 + 2, none⟩) hbl).trans x2
        clear x0 x1 x2
        have hw1 := HW.out l[k] (List.getElem_mem hlt)
        have HN := hid (upto_next hlt)
        have hgk := HG.out k hlt
        generalize l[k] = p at *
        generalize hP : upto l k = P at *
        have s1 : ¬ 9223372036854775807 < (bs P).size + 1 := by omega
        rcases V.four hgk with rfl | ⟨N, rfl⟩ | ⟨S, hS, rfl⟩ | ⟨S, hS, rfl⟩
        · rw [enc_0] at HN
          simp only at y0 y1 y2
          have HBA := hid (HB.out.alloc hszr (.cells #[.int .u8 0] tU8))
          have hcv : (convert 45 9 (.slice (some ⟨wr.heap.size, 0, none⟩) 1 1)).run Tryz.prog (wr.alloc (.cells #[.int .u8 0] tU8)) = .ok (.string ⟨#[0]⟩) (wr.alloc (.cells #[.int .u8 0] tU8)) := conv_one 0 wr
          have HE : Hid (bs P ++ ⟨#[0]⟩ = bs (upto l (k + 1))) := hid (by rw [HN.out]; exact bs_one _ P 0 rfl)
          have s1' : ¬ 9223372036854775807 < (bs P).size + (⟨#[0]⟩ : ByteArray).size := s1
          clear hgk hw1
          go_wp2
          go_roundw
          case rel => exact ⟨k + 1, by omega, by go_num, by rw [← HE.out], HBA⟩
          case measure => simp [intOf]; omega
        · rw [enc_1] at HN
          simp only at y0 y1 y2 hw1
          have hfn := (fold_nat hw1).2
          have HFo := hid (rfold_n hw1)
          obtain ⟨q, hq⟩ : ∃ q : Nat, (foldI N).toNat = q := ⟨_, rfl⟩
          rw [hq] at HN hfn HFo
          have hvm := Num.varB_le q
          have hvs := bs_size (varB q)
          have HBA := hid (HB.out.alloc hszr (.cells #[.int .u8 1] tU8))
          have hcv : (convert 45 9 (.slice (some ⟨wr.heap.size, 0, none⟩) 1 1)).run Tryz.prog (wr.alloc (.cells #[.int .u8 1] tU8)) = .ok (.string ⟨#[1]⟩) (wr.alloc (.cells #[.int .u8 1] tU8)) := conv_one 1 wr
          have HE : Hid (bs P ++ ⟨#[1]⟩ ++ bs (varB q) = bs (upto l (k + 1))) := hid (by rw [HN.out, bs_one _ P 1 rfl, bs_append, List.append_assoc])
          have s1' : ¬ 9223372036854775807 < (bs P).size + (⟨#[1]⟩ : ByteArray).size := s1
          have s2 : ¬ 9223372036854775807 < (bs P).size + 1 + (bs (varB q)).size := by omega
          have s2' : ¬ 9223372036854775807 < (bs P ++ ⟨#[1]⟩).size + (bs (varB q)).size := by rw [ByteArray.size_append]; exact s2
          clear hgk hq hw1
          go_wp2_with fail
          refine (HFo.out _).mono ?_
          rintro e w8 ⟨rfl, rfl⟩
          go_wp2_with fail
          refine (rvar_bs q hfn _).mono ?_
          rintro e w8 ⟨rfl, hb8⟩
          have HB8 := hid (HBA.out.trans (hb8.mono HBA.out.size))
          clear hb8
          go_wp2
          go_roundw
          case rel => exact ⟨k + 1, by omega, by go_num, by rw [← HE.out], HB8⟩
          case measure => simp [intOf]; omega
        · rw [enc_2] at HN
          simp only at y0 y1 y2
          have hsu : IntKind.u64.wrap (S.size : Int) = ((S.size : Nat) : Int) := u64_id (by omega)
          have hvm := Num.varB_le S.size
          have hvs := bs_size (varB S.size)
          have HBA := hid (HB.out.alloc hszr (.cells #[.int .u8 2] tU8))
          have hcv : (convert 45 9 (.slice (some ⟨wr.heap.size, 0, none⟩) 1 1)).run Tryz.prog (wr.alloc (.cells #[.int .u8 2] tU8)) = .ok (.string ⟨#[2]⟩) (wr.alloc (.cells #[.int .u8 2] tU8)) := conv_one 2 wr
          have HE : Hid (bs P ++ ⟨#[2]⟩ ++ bs (varB S.size) ++ S = bs (upto l (k + 1))) := hid (by rw [HN.out, bs_one _ P 2 rfl, bs_append, show S = bs (bl S) from rfl, bs_append, List.append_assoc, List.append_assoc]; rfl)
          have s1' : ¬ 9223372036854775807 < (bs P).size + (⟨#[2]⟩ : ByteArray).size := s1
          obtain ⟨Q, hQ⟩ : ∃ Q, bs P ++ ⟨#[2]⟩ = Q := ⟨_, rfl⟩
          have hQs : Q.size = (bs P).size + 1 := by rw [← hQ, ByteArray.size_append]; rfl
          obtain ⟨R, hR⟩ : ∃ R, bs (varB S.size) = R := ⟨_, rfl⟩
          rw [hR] at hvs HE
          rw [hQ] at HE
          have s2 : ¬ 9223372036854775807 < Q.size + R.size := by omega
          have s3 : ¬ 9223372036854775807 < (Q ++ R).size + S.size := by rw [ByteArray.size_append]; omega
          have s3' : ¬ 9223372036854775807 < Q.size + R.size + S.size := by omega
          have HV : Hid (∀ w, Calls Tryz.prog 30 #[.int .u64 (S.size : Nat)] w fun e w' => e = .returned (.string R) ∧ Below w.heap.size w w') := hid (fun w => by rw [← hR]; exact rvar_bs S.size (by omega) w)
          have z2 : ∀ wx, Below (wr.heap.size + 1) (wr.alloc (.cells #[.int .u8 2] tU8)) wx → wx.cell? ⟨b, o + k * 3 + 2, none⟩ = some (.string S) := fun wx hx => (hx.cell (p := ⟨b, o + k * 3 + 2, none⟩) (Nat.lt_succ_of_lt hblr)).trans ((((Below.refl wr.heap.size wr).alloc (Nat.le_refl _) (.cells #[.int .u8 2] tU8)).cell (p := ⟨b, o + k * 3 + 2, none⟩) hblr).trans y2)
          have HQ := hid hQ
          clear hgk hw1 hR hQ hvs hQs
          go_wp2_with fail
          rw [HQ.out]
          refine wp_quiet_in (fun wx => Below (wr.heap.size + 1) (wr.alloc (.cells #[.int .u8 2] tU8)) wx) (by kernel_rfl) (by kernel_rfl) (Below.refl _ _).drew ?_
          go_big_quiet_want
          go_big_quiet_op
          go_big_quiet_on
          go_big_quiet_want
          go_big_quiet_op
          go_big_quiet_on
          go_big_quiet_want
          go_big_quiet_op
          go_big_quiet_on
          go_big_quiet_want
          go_big_quiet_op
          refine ⟨.pointer (some ⟨b, o + k * 3, none⟩), fun wx hx => ?_, ?_⟩
          · simp [go_sem]
          go_big_quiet_on
          go_big_quiet_want
          go_big_quiet_op
          refine ⟨.pointer (some ⟨b, o + k * 3 + 2, none⟩), fun wx hx => ?_, ?_⟩
          · simp [go_sem]
          go_big_quiet_on
          go_big_quiet_want
          go_big_quiet_op
          refine ⟨.string S, fun wx hx => ?_, ?_⟩
          · simp [go_sem, z2 wx hx]
          go_big_quiet_on
          go_big_quiet_want
          go_big_quiet_op
          refine ⟨.int .i64 (S.size : Nat), fun wx hx => ?_, ?_⟩
          · simp [go_sem]
          go_big_quiet_on
          go_big_quiet_want
          go_big_quiet_op
          refine ⟨.int .u64 (S.size : Nat), fun wx hx => ?_, ?_⟩
          · simp [go_sem]
          go_big_quiet_on
          go_big_quiet_want
          go_big_quiet_op
          refine ⟨.string R, fun wx hx => ?_, ?_⟩
          · refine (HV.out _).mono ?_
            rintro e w6 ⟨rfl, hb6⟩
            exact ⟨rfl, hx.trans (hb6.mono (by have := hx.size; simp at this; omega))⟩
          go_big_quiet_on
          go_big_quiet_want
          go_big_quiet_op
          refine ⟨.string (Q ++ R), fun wx hx => ?_, ?_⟩
          · simp [go_sem]
          go_big_quiet_on
          go_big_quiet_want
          go_big_quiet_op
          go_big_quiet_on
          go_big_quiet_want
          go_big_quiet_op
          go_big_quiet_on
          go_big_quiet_want
          go_big_quiet_op
          refine ⟨.pointer (some ⟨b, o + k * 3, none⟩), fun wx hx => ?_, ?_⟩
          · simp [go_sem]
          go_big_quiet_on
          go_big_quiet_want
          go_big_quiet_op
          refine ⟨.pointer (some ⟨b, o + k * 3 + 2, none⟩), fun wx hx => ?_, ?_⟩
          · simp [go_sem]
          go_big_quiet_on
          go_big_quiet_want
          go_big_quiet_op
          refine ⟨.string S, fun wx hx => ?_, ?_⟩
          · simp [go_sem, z2 wx hx]
          go_big_quiet_on
          go_big_quiet_want
          go_big_quiet_op
          refine ⟨.string (Q ++ R ++ S), fun wx hx => ?_, ?_⟩
          · simp [go_sem]
          go_big_quiet_on
          go_big_quiet_want
          go_big_quiet_op
          go_big_quiet_on
          refine wpQuiet_nil ?_
          intro w5 hb5
          have HB5 := hid (HBA.out.trans (hb5.mono (by omega)))
          clear hb5 z2
          go_wp2
          go_roundw
          case rel => exact ⟨k + 1, by omega, by go_num, by rw [← HE.out], HB5⟩
          case measure => simp [intOf]; omega
        · rw [enc_3] at HN
          simp only at y0 y1 y2
          have hsu : IntKind.u64.wrap (S.size : Int) = ((S.size : Nat) : Int) := u64_id (by omega)
          have hvm := Num.varB_le S.size
          have hvs := bs_size (varB S.size)
          have HBA := hid (HB.out.alloc hszr (.cells #[.int .u8 3] tU8))
          have hcv : (convert 45 9 (.slice (some ⟨wr.heap.size, 0, none⟩) 1 1)).run Tryz.prog (wr.alloc (.cells #[.int .u8 3] tU8)) = .ok (.string ⟨#[3]⟩) (wr.alloc (.cells #[.int .u8 3] tU8)) := conv_one 3 wr
          have HE : Hid (bs P ++ ⟨#[3]⟩ ++ bs (varB S.size) ++ S = bs (upto l (k + 1))) := hid (by rw [HN.out, bs_one _ P 3 rfl, bs_append, show S = bs (bl S) from rfl, bs_append, List.append_assoc, List.append_assoc]; rfl)
          have s1' : ¬ 9223372036854775807 < (bs P).size + (⟨#[3]⟩ : ByteArray).size := s1
          obtain ⟨Q, hQ⟩ : ∃ Q, bs P ++ ⟨#[3]⟩ = Q := ⟨_, rfl⟩
          have hQs : Q.size = (bs P).size + 1 := by rw [← hQ, ByteArray.size_append]; rfl
          obtain ⟨R, hR⟩ : ∃ R, bs (varB S.size) = R := ⟨_, rfl⟩
          rw [hR] at hvs HE
          rw [hQ] at HE
          have s2 : ¬ 9223372036854775807 < Q.size + R.size := by omega
          have s3 : ¬ 9223372036854775807 < (Q ++ R).size + S.size := by rw [ByteArray.size_append]; omega
          have s3' : ¬ 9223372036854775807 < Q.size + R.size + S.size := by omega
          have HV : Hid (∀ w, Calls Tryz.prog 30 #[.int .u64 (S.size : Nat)] w fun e w' => e = .returned (.string R) ∧ Below w.heap.size w w') := hid (fun w => by rw [← hR]; exact rvar_bs S.size (by omega) w)
          have z2 : ∀ wx, Below (wr.heap.size + 1) (wr.alloc (.cells #[.int .u8 3] tU8)) wx → wx.cell? ⟨b, o + k * 3 + 2, none⟩ = some (.string S) := fun wx hx => (hx.cell (p := ⟨b, o + k * 3 + 2, none⟩) (Nat.lt_succ_of_lt hblr)).trans ((((Below.refl wr.heap.size wr).alloc (Nat.le_refl _) (.cells #[.int .u8 3] tU8)).cell (p := ⟨b, o + k * 3 + 2, none⟩) hblr).trans y2)
          have HQ := hid hQ
          clear hgk hw1 hR hQ hvs hQs
          go_wp2_with fail
          rw [HQ.out]
          refine wp_quiet_in (fun wx => Below (wr.heap.size + 1) (wr.alloc (.cells #[.int .u8 3] tU8)) wx) (by kernel_rfl) (by kernel_rfl) (Below.refl _ _).drew ?_
          go_big_quiet_want
          go_big_quiet_op
          go_big_quiet_on
          go_big_quiet_want
          go_big_quiet_op
          go_big_quiet_on
          go_big_quiet_want
          go_big_quiet_op
          go_big_quiet_on
          go_big_quiet_want
          go_big_quiet_op
          refine ⟨.pointer (some ⟨b, o + k * 3, none⟩), fun wx hx => ?_, ?_⟩
          · simp [go_sem]
          go_big_quiet_on
          go_big_quiet_want
          go_big_quiet_op
          refine ⟨.pointer (some ⟨b, o + k * 3 + 2, none⟩), fun wx hx => ?_, ?_⟩
          · simp [go_sem]
          go_big_quiet_on
          go_big_quiet_want
          go_big_quiet_op
          refine ⟨.string S, fun wx hx => ?_, ?_⟩
          · simp [go_sem, z2 wx hx]
          go_big_quiet_on
          go_big_quiet_want
          go_big_quiet_op
          refine ⟨.int .i64 (S.size : Nat), fun wx hx => ?_, ?_⟩
          · simp [go_sem]
          go_big_quiet_on
          go_big_quiet_want
          go_big_quiet_op
          refine ⟨.int .u64 (S.size : Nat), fun wx hx => ?_, ?_⟩
          · simp [go_sem]
          go_big_quiet_on
          go_big_quiet_want
          go_big_quiet_op
          refine ⟨.string R, fun wx hx => ?_, ?_⟩
          · refine (HV.out _).mono ?_
            rintro e w6 ⟨rfl, hb6⟩
            exact ⟨rfl, hx.trans (hb6.mono (by have := hx.size; simp at this; omega))⟩
          go_big_quiet_on
          go_big_quiet_want
          go_big_quiet_op
          refine ⟨.string (Q ++ R), fun wx hx => ?_, ?_⟩
          · simp [go_sem]
          go_big_quiet_on
          go_big_quiet_want
          go_big_quiet_op
          go_big_quiet_on
          go_big_quiet_want
          go_big_quiet_op
          go_big_quiet_on
          go_big_quiet_want
          go_big_quiet_op
          refine ⟨.pointer (some ⟨b, o + k * 3, none⟩), fun wx hx => ?_, ?_⟩
          · simp [go_sem]
          go_big_quiet_on
          go_big_quiet_want
          go_big_quiet_op
          refine ⟨.pointer (some ⟨b, o + k * 3 + 2, none⟩), fun wx hx => ?_, ?_⟩
          · simp [go_sem]
          go_big_quiet_on
          go_big_quiet_want
          go_big_quiet_op
          refine ⟨.string S, fun wx hx => ?_, ?_⟩
          · simp [go_sem, z2 wx hx]
          go_big_quiet_on
          go_big_quiet_want
          go_big_quiet_op
          refine ⟨.string (Q ++ R ++ S), fun wx hx => ?_, ?_⟩
          · simp [go_sem]
          go_big_quiet_on
          go_big_quiet_want
          go_big_quiet_op
          go_big_quiet_on
          refine wpQuiet_nil ?_
          intro w5 hb5
          have HB5 := hid (HBA.out.trans (hb5.mono (by omega)))
          clear hb5 z2
          go_wp2
          go_roundw
          case rel => exact ⟨k + 1, by omega, by go_num, by rw [← HE.out], HB5⟩
          case measure => simp [intOf]; omega
      · have HT : Hid (bs (upto l k) = bs (encL l)) := hid (by unfold upto encL; rw [List.take_of_length_le (by omega)])
        rw [HT.out]
        go_wp2
        go_ret2
        exact ⟨rfl, HB.out⟩
end Ro
end Go.Proofs.YtgajhipkknpicaaGreatDoor
