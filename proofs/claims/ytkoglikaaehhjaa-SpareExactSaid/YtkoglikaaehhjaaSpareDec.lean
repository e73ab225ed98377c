/-
  Contract of the project's Decode.
-/
import Derived.Test.YtkoglikaaehhjaaSpareDst
namespace Go.Proofs.Ytkoglikaaehhjaa
open Go.RowKit
namespace Sp
open Num (hid)
open Mem (Bs bs IAt tI tIs Chg wpList_append_run)
open Part (numAt)
theorem trod_ret {w wr : World} {T : Tr} {lv : Value} (hb : Tb w.heap.size T.next lv wr) : wr.cell? ⟨w.heap.size, 0, none⟩ = some (.int .i64 T.next) ∧ wr.cell? ⟨w.heap.size, 1, none⟩ = some lv := hb.cells
/-- The first two numbers. -/
theorem num_1 (S : Bs) (h : S.length = 232) (w : World) : Calls Try.prog 30 #[.string ((bs S).extract 1 (bs S).size), .int .i64 4] w fun e w' => e = .returned (.tuple #[.int .i64 (numAt S 1 4 : Nat), .string (bs (S.drop 5))]) ∧ Below w.heap.size w w' := by
  have H := number_any (S.drop 1) 4 (by decide) (by decide) (by rw [List.length_drop]; omega) w
  rw [num_drop, List.drop_drop, ← ex_drop] at H
  exact H
theorem num_5 (S : Bs) (h : S.length = 232) (w : World) : Calls Try.prog 30 #[.string (bs (S.drop 5)), .int .i64 1] w fun e w' => e = .returned (.tuple #[.int .i64 (numAt S 5 1 : Nat), .string (bs (S.drop (6 + 4 * 0)))]) ∧ Below w.heap.size w w' := by
  have H := number_any (S.drop 5) 1 (by decide) (by decide) (by rw [List.length_drop]; omega) w
  rw [num_drop, List.drop_drop] at H
  exact H
theorem num_k (S : Bs) (h : S.length = 232) (k : Nat) (hk : k < 50) (w : World) : Calls Try.prog 30 #[.string (bs (S.drop (6 + 4 * k))), .int .i64 4] w fun e w' => e = .returned (.tuple #[.int .i64 (numAt S (6 + 4 * k) 4 : Nat), .string (bs (S.drop (6 + 4 * (k + 1))))]) ∧ Below w.heap.size w w' := by
  have H := number_any (S.drop (6 + 4 * k)) 4 (by decide) (by decide) (by rw [List.length_drop]; omega) w
  rw [num_drop, List.drop_drop, show 6 + 4 * k + 4 = 6 + 4 * (k + 1) by omega] at H
  exact H
theorem dec_short {S : Bs} (h : S.length ≠ 232) : decT S = (noT, 1) := by unfold decT; rw [if_pos h]
set_option maxRecDepth 100000 in
set_option maxHeartbeats 4000000 in
theorem decode_any (S : Bs) (w : World) :
    Calls Try.prog 11 #[.string (bs S)] w fun e w' => DecGives (decT S) w w' e := by
  have hz := bs_size S
  by_cases hl : S.length = 232
  · have hl2 : (((bs S).size : Int) != 232) = false := by simp only [bne, Bool.not_eq_false', beq_iff_eq]; omega
    have h1 : 1 ≤ (bs S).size := by omega
    have N1 := hid (num_1 S hl)
    have N5 := hid (num_5 S hl)
    have NK := hid (num_k S hl)
    have hd : decT S = if okT (rawT 50 S) = true ∧ pageT (rawT 50 S) = S then (rawT 50 S, 0) else (noT, 4) := by unfold decT; rw [if_neg (by simpa using hl)]
    have hraw := raw_L 50 S
    obtain ⟨mc, hmc⟩ : ∃ m, min (numAt S 5 1) 50 = m := ⟨_, rfl⟩
    rw [hmc] at hraw
    have hmin : min ((numAt S 5 1 : Nat) : Int) 50 = (mc : Int) := by omega
    have hm50 : mc ≤ 50 := by omega
    rw [hraw] at hd
    generalize hX : decT S = X at *
    have HD := hid hd
    have HLn := hid (L_next S)
    have HLl := hid (L_len S)
    generalize numAt S 1 4 = n1 at *
    generalize numAt S 5 1 = n5 at *
    clear hz hX hd hraw hmc
    have D0 := hid (Dst.start w 0)
    obtain ⟨t0, t1⟩ := D0.out.tb.free
    obtain ⟨t2, t3⟩ := D0.out.tb.cells
    go_enter Try.func11, Try.ntmps11
    go_wp2_with fail
    refine (N1.out _).mono ?_
    rintro e w3 ⟨rfl, hb⟩
    have D1 := hid (D0.out.on hb)
    clear hb t0 t1 t2 t3
    go_wp2_with fail
    refine (N5.out _).mono ?_
    rintro e w4 ⟨rfl, hb⟩
    have D2 := hid (D1.out.on hb)
    clear hb
    obtain ⟨t0, t1⟩ := D2.out.tb.free
    obtain ⟨t2, t3⟩ := D2.out.tb.cells
    have hlt := D2.out.tb.lt
    have D3 : Hid (Dst w n1 nilS (L S 0) (w4.setCell ⟨w.heap.size + 1, 0, none⟩ (.int .i64 n1))) := hid (D2.out.next n1)
    go_wp2_with fail
    go_loopw [6, 30] (fun r i wr => ∃ (k : Nat) (lv : Value), k ≤ mc ∧ i = .int .i64 k ∧ r = .string (bs (S.drop (6 + 4 * k))) ∧ Hid (Dst w n1 lv (L S k) wr)) (fun _ i _ => mc - (intOf i).toNat)
    case atStart => exact ⟨0, _, Nat.zero_le _, rfl, rfl, D3⟩
    case round =>
      obtain ⟨k, lv, hk, rfl, rfl, HS⟩ := hrel
      clear t0 t1 t2 t3 hlt D0 D1 D2 D3
      by_cases hlt : k < mc
      · have hlt' : (k : Int) < mc := by omega
        have HN := hid (NK.out k (by omega))
        obtain ⟨ao, cap, rfl⟩ := HS.out.li.shape
        rw [HLl.out k] at HS
        have HNx := hid (HLn.out k)
        have HL0 := HLl.out k
        go_wp2_with fail
        refine (HN.out _).mono ?_
        rintro e w5 ⟨rfl, hb⟩
        have D4 := hid (HS.out.on hb)
        have hp := D4.out.push ((numAt S (6 + 4 * k) 4 : Nat) : Int) (by omega)
        rw [HL0] at hp
        obtain ⟨ao2, cap2, W2, hr, f1, c1, hlt2, D5⟩ := hp
        have HR := hid hr
        have D6 := hid D5
        obtain ⟨t2, t3⟩ := D4.out.tb.cells
        have hlt3 := D4.out.tb.lt
        clear hb hr D5
        go_wp2_with (at_builtin; refine wpList_append_run rfl (.tmp 38) (.tmp 40) tIs tIs rfl _ _ (by simp [Act.eval]) (by simp [Act.eval]) HR.out ?_)
        go_roundw
        case rel => exact ⟨k + 1, _, by omega, by go_num, rfl, hid (by rw [HNx.out]; exact D6.out)⟩
        case measure => simp [intOf]; omega
      · obtain rfl : k = mc := by omega
        have hlt' : ¬ (k : Int) < k := by omega
        have HE := encode_any ⟨n1, L S k⟩ lv wr (HS.out.li.at (by rw [HLl.out k]; omega))
        obtain ⟨ao, cap, rfl⟩ := HS.out.li.shape
        unfold trV sV2 at HE
        simp only at HE
        rw [HLl.out k] at HE HS
        obtain ⟨t2, t3⟩ := HS.out.tb.cells
        have hlt3 := HS.out.tb.lt
        have hlS := HLl.out k
        cases ho : okT ⟨n1, L S k⟩ with
        | false =>
          rw [enc_bad ho] at HE
          have hx := HD.out
          rw [if_neg (fun e => by rw [ho] at e; cases e.1)] at hx
          subst hx
          have HEe := hid HE
          clear HE HD ho hlS
          go_wp2_with fail
          refine HEe.out.mono ?_
          rintro e w5 ⟨rfl, hb⟩
          have D4 := hid (HS.out.on hb)
          clear hb t2 t3 hlt3
          obtain ⟨s0, s1⟩ := D4.out.rs.free
          obtain ⟨r0, r1⟩ := D4.out.rs.cells
          have hlr := D4.out.rs.lt
          have HF := hid D4.out.nil
          go_wp2
          obtain ⟨g4, g5⟩ := HF.out
          obtain ⟨u0, u1⟩ := g4.cells
          refine @bodyPost_ret Try.prog Try.f11 (fun e w' => DecGives (noT, 4) w w' e) _ _ (.tuple #[trV noT nilS, .int .i64 4]) ?_ ?_ ?_
          · simp [results, trV, noT, go_sem, u0, u1]
          · rfl
          · exact ⟨⟨nilS, rfl, Lrow.nil _ _⟩, g5⟩
        | true =>
          rw [enc_good ho] at HE
          by_cases hs : pageT ⟨n1, L S k⟩ = S
          · have hx := HD.out
            rw [if_pos ⟨ho, hs⟩] at hx
            subst hx
            rw [hs] at HE
            have HEe := hid HE
            have hq : ((bs S).toList == (bs S).toList) = true := by simp
            have HLS := hid hlS
            clear HE HD ho hs hlS
            go_wp2_with fail
            refine HEe.out.mono ?_
            rintro e w5 ⟨rfl, hb⟩
            have D4 := hid (HS.out.on hb)
            clear hb t2 t3 hlt3
            obtain ⟨s0, s1⟩ := D4.out.rs.free
            obtain ⟨r0, r1⟩ := D4.out.rs.cells
            have hlr := D4.out.rs.lt
            obtain ⟨t2, t3⟩ := D4.out.tb.cells
            have hlt3 := D4.out.tb.lt
            have HF := hid D4.out.fin
            go_wp2
            obtain ⟨g4, g1, g5⟩ := HF.out
            obtain ⟨u0, u1⟩ := g4.cells
            refine @bodyPost_ret Try.prog Try.f11 (fun e w' => DecGives (⟨n1, L S k⟩, 0) w w' e) _ _ (.tuple #[trV ⟨n1, L S k⟩ (.slice ao k cap), .int .i64 0]) ?_ ?_ ?_
            · simp [results, trV, go_sem, u0, u1]
            · rfl
            · exact ⟨⟨_, rfl, g1⟩, g5⟩
          · have hx := HD.out
            rw [if_neg (fun e => hs e.2)] at hx
            subst hx
            have HEe := hid HE
            have hq : ((bs (pageT ⟨n1, L S k⟩)).toList == (bs S).toList) = false := by rw [bs_list, bs_list]; simpa using hs
            clear HE HD ho hs hlS
            generalize pageT ⟨n1, L S k⟩ = P at *
            go_wp2_with fail
            refine HEe.out.mono ?_
            rintro e w5 ⟨rfl, hb⟩
            have D4 := hid (HS.out.on hb)
            clear hb t2 t3 hlt3
            obtain ⟨s0, s1⟩ := D4.out.rs.free
            obtain ⟨r0, r1⟩ := D4.out.rs.cells
            have hlr := D4.out.rs.lt
            have HF := hid D4.out.nil
            go_wp2
            obtain ⟨g4, g5⟩ := HF.out
            obtain ⟨u0, u1⟩ := g4.cells
            refine @bodyPost_ret Try.prog Try.f11 (fun e w' => DecGives (noT, 4) w w' e) _ _ (.tuple #[trV noT nilS, .int .i64 4]) ?_ ?_ ?_
            · simp [results, trV, noT, go_sem, u0, u1]
            · rfl
            · exact ⟨⟨nilS, rfl, Lrow.nil _ _⟩, g5⟩
  · have hl2 : (((bs S).size : Int) != 232) = true := by simp only [bne, Bool.not_eq_true', beq_eq_false_iff_ne]; omega
    rw [dec_short hl]
    clear hz hl
    have T0 := hid (Tb.new 0 nilS w)
    have BT := hid ((Below.refl w.heap.size w).alloc (Nat.le_refl _) (tObj 0 nilS))
    obtain ⟨s0, s1⟩ := T0.out.free
    obtain ⟨r0, r1⟩ := T0.out.cells
    have hlr := T0.out.lt
    go_enter Try.func11, Try.ntmps11
    go_wp2
    obtain ⟨u0, u1⟩ := T0.out.cells
    refine @bodyPost_ret Try.prog Try.f11 (fun e w' => DecGives (noT, 1) w w' e) _ _ (.tuple #[trV noT nilS, .int .i64 1]) ?_ ?_ ?_
    · simp [results, trV, noT, go_sem, u0, u1]
    · rfl
    · exact ⟨⟨nilS, rfl, Lrow.nil _ _⟩, BT.out⟩
end Sp
end Go.Proofs.Ytkoglikaaehhjaa
