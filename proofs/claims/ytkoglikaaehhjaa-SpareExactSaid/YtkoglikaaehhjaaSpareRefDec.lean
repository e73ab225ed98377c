/-
  Contract of the reference's Decode.
-/
import Derived.Test.YtkoglikaaehhjaaSpareRefEnc
import Derived.Test.YtkoglikaaehhjaaSpareDec
namespace Go.Proofs.Ytkoglikaaehhjaa
open Go.RowKit
namespace Sp
open Num (hid unfF unfixL)
open Mem (Bs bs IAt tI tIs Chg wpList_append_run)
open Part (numAt)
theorem numAt4_lt (S : Bs) (i : Nat) : numAt S i 4 < 4294967296 := by
  have h := Part.numAt_lt S i 4
  have h5 : (256 : Nat) ^ 4 = 4294967296 := by decide
  omega
theorem runfix (S : Bs) (i j : Nat) (hj : j = i + 4) (hl : i + 4 ≤ S.length) (w : World) : Calls Try.prog 31 #[.string ((bs S).extract i j)] w fun e w' => e = .returned (.tuple #[.int .u64 (numAt S i 4 : Nat), .int .i64 0]) ∧ w = w' := by
  subst hj
  have h := Num.runfixed_any ((bs S).extract i (i + 4)) w
  have e1 : ((bs S).extract i (i + 4)).data.toList = (S.drop i).take 4 := by rw [ex_mid, show i + 4 - i = 4 by omega]; exact bl_bs _
  rw [e1, unfix_take S i 4 (by decide) (by decide) hl] at h
  exact h
theorem numAt_one (S : Bs) (i : Nat) (h : i < (bs S).size) : numAt S i 1 = ((bs S)[i]'h).toNat := by
  have hl : i < S.length := by rw [bs_size] at h; exact h
  unfold numAt
  rw [List.drop_eq_getElem_cons hl]
  show unfF 0 [S[i]] = _
  unfold unfF unfF
  rw [Nat.zero_mul, Nat.zero_add]
  rfl
set_option maxRecDepth 100000 in
set_option maxHeartbeats 4000000 in
theorem rdecode_any (S : Bs) (w : World) :
    Calls Try.prog 12 #[.string (bs S)] w fun e w' => DecGives (decT S) w w' e := by
  have hz := bs_size S
  by_cases hl : S.length = 232
  · have hl2 : (((bs S).size : Int) != 232) = false := by simp only [bne, Bool.not_eq_false', beq_iff_eq]; omega
    have h5 : 5 < (bs S).size := by omega
    have hn5 := numAt_one S 5 h5
    have N1 := hid (runfix S 1 5 rfl (by omega))
    have NK := hid (fun k (hk : k < 56) => runfix S (6 + 4 * k) (10 + 4 * k) (by omega) (by omega))
    have HLt := hid (numAt4_lt S)
    have hd := dec_ref S
    rw [if_neg (by simpa using hl)] at hd
    have hraw := raw_L 56 S
    obtain ⟨mc, hmc⟩ : ∃ m, min (numAt S 5 1) 56 = m := ⟨_, rfl⟩
    rw [hmc] at hraw
    rw [hraw] at hd
    generalize hX : decT S = X at *
    have HD := hid hd
    have HLn := hid (L_next S)
    have HLl := hid (L_len S)
    have hw1 : wrap64 ((numAt S 1 4 : Nat) : Int) = ((numAt S 1 4 : Nat) : Int) := by have := numAt4_lt S 1; rw [Num.wrap_i]; omega
    generalize numAt S 1 4 = n1 at *
    obtain ⟨n5, he5⟩ : ∃ n, numAt S 5 1 = n := ⟨_, rfl⟩
    rw [he5] at hn5 hmc
    have hn5' : ((bs S)[5]'h5).toNat = n5 := hn5.symm
    have hw5 : wrap64 (n5 : Int) = (n5 : Int) := by have := ((bs S)[5]'h5).toNat_lt; rw [Num.wrap_i]; omega
    have hm50 : mc ≤ 56 := by omega
    have HM := hid hmc
    clear hX hd hraw hmc hn5 he5
    have D0 := hid (Dst.start w n1)
    obtain ⟨t0, t1⟩ := D0.out.tb.free
    obtain ⟨t2, t3⟩ := D0.out.tb.cells
    have T0 := hid (Tb.new 0 nilS w)
    go_enter Try.func12, Try.ntmps12
    go_wp2_with fail
    refine (N1.out _).mono ?_
    rintro e w3 ⟨rfl, rfl⟩
    go_wp2_with fail
    clear hw1
    go_loopw [7] (fun i wr => ∃ (k : Nat) (lv : Value), k ≤ mc ∧ i = .int .i64 k ∧ Hid (Dst w n1 lv (L S k) wr)) (fun i _ => mc - (intOf i).toNat)
    case atStart => exact ⟨0, _, Nat.zero_le _, rfl, D0⟩
    case round =>
      obtain ⟨k, lv, hk, rfl, HS⟩ := hrel
      clear t0 t1 t2 t3 D0
      by_cases hlt : k < mc
      · have hlt1 : (k : Int) < n5 := by have := HM.out; omega
        have hlt2 : 10 + 4 * (k : Int) ≤ 232 := by omega
        have HN := hid (NK.out k (by omega))
        obtain ⟨ao, cap, rfl⟩ := HS.out.li.shape
        rw [HLl.out k] at HS
        have HNx := hid (HLn.out k)
        have HL0 := HLl.out k
        have hp := HS.out.push ((numAt S (6 + 4 * k) 4 : Nat) : Int) (by omega)
        rw [HL0] at hp
        obtain ⟨ao2, cap2, W2, hr, f1, c1, hlt3, D5⟩ := hp
        have HR := hid hr
        have D6 := hid D5
        obtain ⟨t2, t3⟩ := HS.out.tb.cells
        have hlt4 := HS.out.tb.lt
        have hwk : wrap64 ((numAt S (6 + 4 * k) 4 : Nat) : Int) = ((numAt S (6 + 4 * k) 4 : Nat) : Int) := by have := HLt.out (6 + 4 * k); rw [Num.wrap_i]; omega
        generalize numAt S (6 + 4 * k) 4 = nk at *
        clear hr D5
        go_wp2_with fail
        refine (HN.out _).mono ?_
        rintro e w5 ⟨rfl, rfl⟩
        go_wp2_with (at_builtin; refine wpList_append_run rfl (.tmp 51) (.tmp 54) tIs tIs rfl _ _ (by simp [Act.eval]) (by simp [Act.eval]) HR.out ?_)
        go_roundw
        case rel => exact ⟨k + 1, _, by omega, by go_num, hid (by rw [HNx.out]; exact D6.out)⟩
        case measure => simp [intOf]; omega
      · obtain rfl : k = mc := by omega
        have hstop : n5 ≤ k ∨ (k < n5 ∧ k = 56) := by have := HM.out; omega
        rcases hstop with hs1 | ⟨hs1, hs2⟩
        · have hlt1 : ¬ (k : Int) < n5 := by omega
          clear hs1 HM
          have HE := rencode_any ⟨n1, L S k⟩ lv wr (HS.out.li.at (by rw [HLl.out k]; omega))
          obtain ⟨ao, cap, rfl⟩ := HS.out.li.shape
          unfold trV sV2 at HE
          simp only at HE
          rw [HLl.out k] at HE HS
          obtain ⟨t2, t3⟩ := HS.out.tb.cells
          have hlt3 := HS.out.tb.lt
          have hlS := HLl.out k
          cases ho : okT ⟨n1, L S k⟩ with
          | false =>
            rw [enc_bad ho] at HE
            have hx := HD.out
            rw [if_neg (fun e => by rw [ho] at e; cases e.1)] at hx
            subst hx
            have HEe := hid HE
            clear HE HD ho hlS
            go_wp2_with fail
            refine HEe.out.mono ?_
            rintro e w5 ⟨rfl, hb⟩
            have D4 := hid (HS.out.on hb)
            clear hb t2 t3 hlt3
            obtain ⟨s0, s1⟩ := D4.out.rs.free
            obtain ⟨r0, r1⟩ := D4.out.rs.cells
            have hlr := D4.out.rs.lt
            have HF := hid D4.out.nil
            go_wp2
            obtain ⟨g4, g5⟩ := HF.out
            obtain ⟨u0, u1⟩ := g4.cells
            refine @bodyPost_ret Try.prog Try.f12 (fun e w' => DecGives (noT, 4) w w' e) _ _ (.tuple #[trV noT nilS, .int .i64 4]) ?_ ?_ ?_
            · simp [results, trV, noT, go_sem, u0, u1]
            · rfl
            · exact ⟨⟨nilS, rfl, Lrow.nil _ _⟩, g5⟩
          | true =>
            rw [enc_good ho] at HE
            by_cases hs : pageT ⟨n1, L S k⟩ = S
            · have hx := HD.out
              rw [if_pos ⟨ho, hs⟩] at hx
              subst hx
              rw [hs] at HE
              have HEe := hid HE
              have hq : ((bs S).toList == (bs S).toList) = true := by simp
              have HLS := hid hlS
              clear HE HD ho hs hlS
              go_wp2_with fail
              refine HEe.out.mono ?_
              rintro e w5 ⟨rfl, hb⟩
              have D4 := hid (HS.out.on hb)
              clear hb t2 t3 hlt3
              obtain ⟨s0, s1⟩ := D4.out.rs.free
              obtain ⟨r0, r1⟩ := D4.out.rs.cells
              have hlr := D4.out.rs.lt
              obtain ⟨t2, t3⟩ := D4.out.tb.cells
              have hlt3 := D4.out.tb.lt
              have HF := hid D4.out.fin
              go_wp2
              obtain ⟨g4, g1, g5⟩ := HF.out
              obtain ⟨u0, u1⟩ := g4.cells
              refine @bodyPost_ret Try.prog Try.f12 (fun e w' => DecGives (⟨n1, L S k⟩, 0) w w' e) _ _ (.tuple #[trV ⟨n1, L S k⟩ (.slice ao k cap), .int .i64 0]) ?_ ?_ ?_
              · simp [results, trV, go_sem, u0, u1]
              · rfl
              · exact ⟨⟨_, rfl, g1⟩, g5⟩
            · have hx := HD.out
              rw [if_neg (fun e => hs e.2)] at hx
              subst hx
              have HEe := hid HE
              have hq : ((bs (pageT ⟨n1, L S k⟩)).toList == (bs S).toList) = false := by rw [bs_list, bs_list]; simpa using hs
              clear HE HD ho hs hlS
              generalize pageT ⟨n1, L S k⟩ = P at *
              go_wp2_with fail
              refine HEe.out.mono ?_
              rintro e w5 ⟨rfl, hb⟩
              have D4 := hid (HS.out.on hb)
              clear hb t2 t3 hlt3
              obtain ⟨s0, s1⟩ := D4.out.rs.free
              obtain ⟨r0, r1⟩ := D4.out.rs.cells
              have hlr := D4.out.rs.lt
              have HF := hid D4.out.nil
              go_wp2
              obtain ⟨g4, g5⟩ := HF.out
              obtain ⟨u0, u1⟩ := g4.cells
              refine @bodyPost_ret Try.prog Try.f12 (fun e w' => DecGives (noT, 4) w w' e) _ _ (.tuple #[trV noT nilS, .int .i64 4]) ?_ ?_ ?_
              · simp [results, trV, noT, go_sem, u0, u1]
              · rfl
              · exact ⟨⟨nilS, rfl, Lrow.nil _ _⟩, g5⟩
        · have hlt1 : (k : Int) < n5 := by omega
          have hlt2 : ¬ 10 + 4 * (k : Int) ≤ 232 := by omega
          clear hs1 hs2 HM
          have HE := rencode_any ⟨n1, L S k⟩ lv wr (HS.out.li.at (by rw [HLl.out k]; omega))
          obtain ⟨ao, cap, rfl⟩ := HS.out.li.shape
          unfold trV sV2 at HE
          simp only at HE
          rw [HLl.out k] at HE HS
          obtain ⟨t2, t3⟩ := HS.out.tb.cells
          have hlt3 := HS.out.tb.lt
          have hlS := HLl.out k
          cases ho : okT ⟨n1, L S k⟩ with
          | false =>
            rw [enc_bad ho] at HE
            have hx := HD.out
            rw [if_neg (fun e => by rw [ho] at e; cases e.1)] at hx
            subst hx
            have HEe := hid HE
            clear HE HD ho hlS
            go_wp2_with fail
            refine HEe.out.mono ?_
            rintro e w5 ⟨rfl, hb⟩
            have D4 := hid (HS.out.on hb)
            clear hb t2 t3 hlt3
            obtain ⟨s0, s1⟩ := D4.out.rs.free
            obtain ⟨r0, r1⟩ := D4.out.rs.cells
            have hlr := D4.out.rs.lt
            have HF := hid D4.out.nil
            go_wp2
            obtain ⟨g4, g5⟩ := HF.out
            obtain ⟨u0, u1⟩ := g4.cells
            refine @bodyPost_ret Try.prog Try.f12 (fun e w' => DecGives (noT, 4) w w' e) _ _ (.tuple #[trV noT nilS, .int .i64 4]) ?_ ?_ ?_
            · simp [results, trV, noT, go_sem, u0, u1]
            · rfl
            · exact ⟨⟨nilS, rfl, Lrow.nil _ _⟩, g5⟩
          | true =>
            rw [enc_good ho] at HE
            by_cases hs : pageT ⟨n1, L S k⟩ = S
            · have hx := HD.out
              rw [if_pos ⟨ho, hs⟩] at hx
              subst hx
              rw [hs] at HE
              have HEe := hid HE
              have hq : ((bs S).toList == (bs S).toList) = true := by simp
              have HLS := hid hlS
              clear HE HD ho hs hlS
              go_wp2_with fail
              refine HEe.out.mono ?_
              rintro e w5 ⟨rfl, hb⟩
              have D4 := hid (HS.out.on hb)
              clear hb t2 t3 hlt3
              obtain ⟨s0, s1⟩ := D4.out.rs.free
              obtain ⟨r0, r1⟩ := D4.out.rs.cells
              have hlr := D4.out.rs.lt
              obtain ⟨t2, t3⟩ := D4.out.tb.cells
              have hlt3 := D4.out.tb.lt
              have HF := hid D4.out.fin
              go_wp2
              obtain ⟨g4, g1, g5⟩ := HF.out
              obtain ⟨u0, u1⟩ := g4.cells
              refine @bodyPost_ret Try.prog Try.f12 (fun e w' => DecGives (⟨n1, L S k⟩, 0) w w' e) _ _ (.tuple #[trV ⟨n1, L S k⟩ (.slice ao k cap), .int .i64 0]) ?_ ?_ ?_
              · simp [results, trV, go_sem, u0, u1]
              · rfl
              · exact ⟨⟨_, rfl, g1⟩, g5⟩
            · have hx := HD.out
              rw [if_neg (fun e => hs e.2)] at hx
              subst hx
              have HEe := hid HE
              have hq : ((bs (pageT ⟨n1, L S k⟩)).toList == (bs S).toList) = false := by rw [bs_list, bs_list]; simpa using hs
              clear HE HD ho hs hlS
              generalize pageT ⟨n1, L S k⟩ = P at *
              go_wp2_with fail
              refine HEe.out.mono ?_
              rintro e w5 ⟨rfl, hb⟩
              have D4 := hid (HS.out.on hb)
              clear hb t2 t3 hlt3
              obtain ⟨s0, s1⟩ := D4.out.rs.free
              obtain ⟨r0, r1⟩ := D4.out.rs.cells
              have hlr := D4.out.rs.lt
              have HF := hid D4.out.nil
              go_wp2
              obtain ⟨g4, g5⟩ := HF.out
              obtain ⟨u0, u1⟩ := g4.cells
              refine @bodyPost_ret Try.prog Try.f12 (fun e w' => DecGives (noT, 4) w w' e) _ _ (.tuple #[trV noT nilS, .int .i64 4]) ?_ ?_ ?_
              · simp [results, trV, noT, go_sem, u0, u1]
              · rfl
              · exact ⟨⟨nilS, rfl, Lrow.nil _ _⟩, g5⟩
  · have hl2 : (((bs S).size : Int) != 232) = true := by simp only [bne, Bool.not_eq_true', beq_eq_false_iff_ne]; omega
    rw [dec_short hl]
    clear hz hl
    have T0 := hid (Tb.new 0 nilS w)
    have BT := hid ((Below.refl w.heap.size w).alloc (Nat.le_refl _) (tObj 0 nilS))
    obtain ⟨s0, s1⟩ := T0.out.free
    obtain ⟨r0, r1⟩ := T0.out.cells
    have hlr := T0.out.lt
    go_enter Try.func12, Try.ntmps12
    go_wp2
    obtain ⟨u0, u1⟩ := T0.out.cells
    refine @bodyPost_ret Try.prog Try.f12 (fun e w' => DecGives (noT, 1) w w' e) _ _ (.tuple #[trV noT nilS, .int .i64 1]) ?_ ?_ ?_
    · simp [results, trV, noT, go_sem, u0, u1]
    · rfl
    · exact ⟨⟨nilS, rfl, Lrow.nil _ _⟩, BT.out⟩
end Sp
end Go.Proofs.Ytkoglikaaehhjaa
