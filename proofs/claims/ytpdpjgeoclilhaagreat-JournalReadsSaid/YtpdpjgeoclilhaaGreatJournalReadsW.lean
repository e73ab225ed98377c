/-
  The walk of JournalReads: whatever bytes stand in the file, both find the same and make the same of it.
-/
import Derived.Test.YtpdpjgeoclilhaaGreatJouTw
import Derived.Test.YtpdpjgeoclilhaaGreatJouAwake
namespace Go.Proofs.YtpdpjgeoclilhaaGreat
open Go.RowKit Go.Shelf
namespace Jo
open Num (hid)
open Disk (Mod Fil Plc Sees Stays Ctl)
open Seal (full full_any full_size closeS closeE rclose_any)
open Mem (Bs bs LAt ptr blk_cell blk_free blk_new blk_set)
open Ref (Refs RSees)

/-- A sector that came in. -/
structure SdC where
  k : Int
  n : Int
  s : Nat
  d : ByteArray
abbrev sdV (x : SdC) : List Value := [.int .i64 x.k, .int .i64 x.n, .int .u64 (x.s : Nat), .string x.d]
theorem close_ways (K N : Int) (S : Nat) (d : ByteArray) : (closeE K N d ≠ 0) ∨ (closeE K N d = 0 ∧ (d.size = 232 → (closeS K N S d).size = 256)) := by
  unfold closeE closeS
  split
  · exact Or.inr ⟨rfl, fun h => by rw [Seal.sealS_size, h]⟩
  · exact Or.inl (by decide)
theorem x_size (s : ByteArray) (h : s.size = 256) : ((⟨#[120]⟩ : ByteArray) ++ s.extract 1 s.size).size = 256 := by
  rw [ByteArray.size_append, ByteArray.size_extract, h]
  rfl
theorem cat_size (T s : ByteArray) (k : Nat) (hT : T.size = 256 * k) (hs : s.size = 256) : (T ++ s).size = 256 * (k + 1) := by
  rw [ByteArray.size_append, hT, hs]
  omega
theorem new_two (w : World) : Calls Tryz.prog 10 #[.int .i64 200] w fun e w' => e = .returned (ptr (w.heap.size + 1)) ∧ Disk.Has w.heap.size (w.heap.size + 1) w.heap.size (Mod.new 200) w' ∧ Below w.heap.size w w' := Disk.new_has 200 w
theorem rnew_two (w : World) : Calls Tryz.prog 11 #[.int .i64 200] w fun e w' => e = .returned (ptr w.heap.size) ∧ Refs (fun k => k = w.heap.size) w.heap.size (Mod.new 200) w' ∧ Below w.heap.size w w' := Ref.rnew_any 200 w
set_option maxRecDepth 100000 in
set_option maxHeartbeats 4000000 in
theorem reads_walk (v0 : Value) (l0 : List SdC) (a1 : Int) (a2 : ByteArray) (w : World) (hL : LAt 4 sdV w v0 l0) (hS : ∀ x ∈ l0, x.s < 18446744073709551616) (ha2 : a2.size ≤ maxLen) :
    Calls Tryz.prog 3 #[v0, .int .i64 a1, .string a2] w fun e w' => e = .returned (.bool true) ∧ Below w.heap.size w w' := by
  obtain ⟨ao, cap, rfl, hlm, hlc, -⟩ := hL.ways
  have HL := hid hL
  have HS := hid hS
  obtain ⟨nl, hnl⟩ : ∃ x, l0.length = x := ⟨_, rfl⟩
  rw [hnl] at HL hlm hlc ⊢
  have HNL := hid hnl
  clear hL hS hnl
  go_enter Tryz.func3, Tryz.ntmps3
  go_wp2_with fail
  refine (awake_any w).mono ?_
  rintro e w1 ⟨rfl, hb1⟩
  have HB1 := hid hb1
  clear hb1
  go_wp2_with fail
  go_loopw [7, 8] (fun tv iv wr => ∃ (k : Nat) (T : ByteArray), k ≤ nl ∧ k ≤ 12 ∧ tv = .string T ∧ iv = .int .i64 k ∧ Hid (T.size = 256 * k) ∧ Hid (Below w.heap.size w wr)) (fun _ iv _ => nl - (intOf iv).toNat)
  case atStart => exact ⟨0, ⟨#[]⟩, Nat.zero_le _, by omega, rfl, rfl, hid rfl, HB1⟩
  case round =>
    obtain ⟨k, T, hk, hk2, rfl, rfl, HT, HB⟩ := hrel
    by_cases hgo : k < nl ∧ k < 12
    · obtain ⟨hlt, h12⟩ := hgo
      have hki : (k : Int) < (nl : Int) := by omega
      have hk12 : (k : Int) < 12 := by omega
      have hkc : (k : Int) < (cap : Int) := by omega
      have i1 : k < l0.length := by have := HNL.out; omega
      obtain ⟨ao', cap', hv', -, -, hq⟩ := HL.out.ways
      rw [HNL.out] at hv'
      cases hv'
      obtain ⟨b, o, rfl, hbN, hq⟩ := hq k i1
      have hs := HS.out _ (List.getElem_mem i1)
      have q : ∀ i, i < 4 → wr.cell? ⟨b, o + k * 4 + i, none⟩ = (sdV l0[k])[i]? := fun i hi => (HB.out.cell (p := ⟨b, o + k * 4 + i, none⟩) hbN).trans (hq i hi)
      generalize l0[k] = x at *
      have q0 : wr.cell? ⟨b, o + k * 4, none⟩ = some (.int .i64 x.k) := q 0 (by omega)
      have q1 : wr.cell? ⟨b, o + k * 4 + 1, none⟩ = some (.int .i64 x.n) := q 1 (by omega)
      have q2 : wr.cell? ⟨b, o + k * 4 + 2, none⟩ = some (.int .u64 (x.s : Nat)) := q 2 (by omega)
      have q3 : wr.cell? ⟨b, o + k * 4 + 3, none⟩ = some (.string x.d) := q 3 (by omega)
      have HSX := hid hs
      clear q hq i1 hs
      go_wp2_with fail
      have hq := blk_new wr (.cells #[.int .i64 x.k, .int .i64 x.n, .int .u64 (x.s : Nat), .string x.d] tSe)
      have hb2 : Below wr.heap.size wr (wr.alloc (.cells #[.int .i64 x.k, .int .i64 x.n, .int .u64 (x.s : Nat), .string x.d] tSe)) := (Below.refl _ _).alloc (Nat.le_refl _) _
      obtain ⟨w2, hw2⟩ : ∃ y, wr.alloc (.cells #[.int .i64 x.k, .int .i64 x.n, .int .u64 (x.s : Nat), .string x.d] tSe) = y := ⟨_, rfl⟩
      rw [hw2] at hq hb2 ⊢
      have HB2 : Hid (Below w.heap.size w w2) := hid (HB.out.trans (hb2.mono HB.out.size))
      clear hw2 hb2
      refine (full_any x.d w2).mono ?_
      rintro e w3 ⟨rfl, hb3⟩
      have hq3 : w3.heap[wr.heap.size]? = some (.cells #[.int .i64 x.k, .int .i64 x.n, .int .u64 (x.s : Nat), .string x.d] tSe (0, 0)) := (hb3.block _ (lt_of_block hq)).trans hq
      have HB3 : Hid (Below w.heap.size w w3) := hid (HB2.out.trans (hb3.mono HB2.out.size))
      have c0 : w3.cell? ⟨wr.heap.size, 0, none⟩ = some (.int .i64 x.k) := blk_cell hq3 0
      have c1 : w3.cell? ⟨wr.heap.size, 1, none⟩ = some (.int .i64 x.n) := blk_cell hq3 1
      have c2 : w3.cell? ⟨wr.heap.size, 2, none⟩ = some (.int .u64 (x.s : Nat)) := blk_cell hq3 2
      have c3 : w3.cell? ⟨wr.heap.size, 3, none⟩ = some (.string x.d) := blk_cell hq3 3
      have z3 : w3.frozen? ⟨wr.heap.size, 3, none⟩ = false := blk_free hq3 3
      have HS4 : Hid (Below w.heap.size w (w3.setCell ⟨wr.heap.size, 3, none⟩ (.string (full x.d)))) := hid (HB3.out.setCell HB.out.size _)
      have hfs := full_size x.d
      generalize full x.d = D at *
      clear hq hb3 hq3 HB2
      go_wp2_with fail
      refine (rclose_any x.k x.n x.s HSX.out D _).mono ?_
      rintro e w4 ⟨rfl, hb4⟩
      have HB4 : Hid (Below w.heap.size w w4) := hid (HS4.out.trans (hb4.mono HS4.out.size))
      have HCW := hid (close_ways x.k x.n x.s D)
      have HFS := hid hfs
      clear hb4 c0 c1 c2 c3 z3 HS4 HB3 hfs
      generalize closeE x.k x.n D = ce at *
      generalize closeS x.k x.n x.s D = cs at *
      by_cases hce : ce = 0
      · have hce1 : (ce != 0) = false := by simp [hce]
        have hcs : cs.size = 256 := by
          rcases HCW.out with h | ⟨_, h⟩
          · exact absurd hce h
          · exact h HFS.out
        have hTl : T.size ≤ 2816 := by have := HT.out; omega
        have hg1 : (1 : Int) ≤ (cs.size : Int) := by rw [hcs]; decide
        have hXS := x_size cs hcs
        have hC1 := cat_size T cs k HT.out hcs
        have hC2 := cat_size T _ k HT.out hXS
        have hn1 : ¬ 9223372036854775807 < T.size + cs.size := by rw [hcs]; omega
        have hn2 : ¬ 9223372036854775807 < T.size + ((⟨#[120]⟩ : ByteArray) ++ cs.extract 1 cs.size).size := by rw [hXS]; omega
        have hn3 : ¬ 9223372036854775807 < (⟨#[120]⟩ : ByteArray).size + (cs.extract 1 cs.size).size := by rw [ByteArray.size_extract, hcs]; decide
        have HC1 := hid hC1
        have HC2 := hid hC2
        have HCS := hid hcs
        have HXS := hid hXS
        clear hcs hTl hC1 hC2 hXS hce HCW
        by_cases hsp : (k : Int) = a1
        · have hsp1 : ((k : Int) == a1) = true := by simp [hsp]
          have HSP := hid hsp
          clear hsp
          go_wp2
          go_roundw
          case rel => exact ⟨k + 1, _, by omega, by omega, rfl, by go_num, HC2, HB4⟩
          case measure => simp [intOf]; omega
        · have hsp1 : ((k : Int) == a1) = false := by simp [hsp]
          have HSP := hid hsp
          clear hsp
          go_wp2
          go_roundw
          case rel => exact ⟨k + 1, _, by omega, by omega, rfl, by go_num, HC1, HB4⟩
          case measure => simp [intOf]; omega
      · have hce1 : (ce != 0) = true := by simp [hce]
        clear hce HCW
        go_wp2
        go_ret
        exact ⟨rfl, HB4.out⟩
    · have hno : ¬ ((k : Int) < (nl : Int)) ∨ ¬ ((k : Int) < 12) := by omega
      have hTs : T.size ≤ 3072 := by have := HT.out; omega
      have hTm : T.size ≤ maxLen := Nat.le_trans hTs (by decide)
      have HTM := hid hTm
      clear hTs hTm hgo
      obtain ⟨w5, hw5⟩ : ∃ x, x = wr := ⟨_, rfl⟩
      subst hw5
      go_upto_region 5 with fail
      go_cut [31] (fun cv wx => cv = .bool false ∧ wx = w5)
      case first =>
        rcases hno with hno | hno
        · go_wp2_with fail
          go_meet
          exact ⟨rfl, rfl⟩
        · by_cases hx : (k : Int) < (nl : Int)
          · go_wp2_with fail
            go_meet
            exact ⟨rfl, rfl⟩
          · go_wp2_with fail
            go_meet
            exact ⟨rfl, rfl⟩
      case rest =>
      obtain ⟨rfl, rfl⟩ := hcut
      clear hno
      by_cases hm : (a2.size : Int) > 4096
      · go_wp2
        go_ret
        exact ⟨rfl, HB.out⟩
      · go_wp2_with fail
        refine (new_two wc).mono ?_
        rintro e w6 ⟨rfl, h6, hb6⟩
        have H6 := hid h6
        have HB6 := hid hb6
        clear h6 hb6
        go_wp2_with fail
        refine (rnew_two w6).mono ?_
        rintro e w7 ⟨rfl, h7, hb7⟩
        have H7 := hid (two_new HB.out H6.out HB6.out h7 hb7)
        clear h7 hb7 H6 HB6
        obtain ⟨d, hd⟩ : ∃ x, wc.heap.size + 1 = x := ⟨_, rfl⟩
        obtain ⟨m, hmm⟩ : ∃ x, wc.heap.size = x := ⟨_, rfl⟩
        obtain ⟨r, hr⟩ : ∃ x, w6.heap.size = x := ⟨_, rfl⟩
        rw [hd, hmm, hr] at H7
        rw [hd, hr]
        clear hd hmm hr
        generalize Mod.new 200 = M0 at *
        go_wp2_with fail
        refine (two_load_j H7.out T HTM.out).mono ?_
        rintro e w8 ⟨rfl, h8⟩
        have H8 := hid h8
        clear h8
        generalize (M0.load jn T.data.toList).1 = le at *
        go_wp2_with fail
        refine (two_rload_j H8.out T HTM.out).mono ?_
        rintro e w9 ⟨rfl, h9⟩
        have H9 := hid h9
        clear h9
        generalize (M0.load jn T.data.toList).1 = le2 at *
        generalize (M0.load jn T.data.toList).2 = M1 at *
        go_upto_if 71 with fail
        go_cut [] (fun wx => ∃ Mx, Hid (Two w d m r Mx Mx wx))
        case first =>
          by_cases h0 : (a2.size : Int) > 0
          · go_wp2_with fail
            refine (two_load_d H9.out a2 ha2).mono ?_
            rintro e w10 ⟨rfl, h10⟩
            have H10 := hid h10
            clear h10
            generalize (M1.load dn a2.data.toList).1 = le3 at *
            go_wp2_with fail
            refine (two_rload_d H10.out a2 ha2).mono ?_
            rintro e w11 ⟨rfl, h11⟩
            have H11 := hid h11
            clear h11
            generalize (M1.load dn a2.data.toList).1 = le4 at *
            go_wp2_with fail
            go_meet
            exact ⟨_, H11⟩
          · go_wp2_with fail
            go_meet
            exact ⟨_, H9⟩
        case rest =>
        clear H9 H8 H7
        obtain ⟨M2, H10⟩ := hcut
        have hlen := two_len H10.out
        obtain ⟨X, hX⟩ : ∃ X, findM M2 = X := ⟨_, rfl⟩
        have HFI := hid (hX ▸ two_find H10.out)
        rw [hX] at hlen
        have HLN := hid hlen
        have HX := hid hX
        clear hX hlen H10
        go_wp2_with fail
        refine HFI.out.mono ?_
        rintro e w11 ⟨v, rfl, h11⟩
        have HRF := hid (HX.out ▸ two_rfind h11)
        clear h11 HFI
        go_wp2_with fail
        refine HRF.out.mono ?_
        rintro e w12 ⟨u, rfl, h12, hp1, hp2⟩
        have HP1 := hid hp1
        have HP2 := hid hp2
        obtain ⟨ao1, cap1, hv1, -⟩ := hp1
        obtain ⟨ao2, cap2, hv2, -⟩ := hp2
        subst hv1
        subst hv2
        have H12 := hid h12
        have HSM := hid (same13_any HLN.out HP1.out HP2.out)
        clear h12 HRF HLN HP1 HP2 HX
        generalize ansL X = L at *
        generalize ansN X = is at *
        generalize ansP X = P at *
        generalize X.1 = xe at *
        generalize X.2.2 = M3 at *
        obtain ⟨len, hlen⟩ : ∃ x, L.length = x := ⟨_, rfl⟩
        rw [hlen] at HSM ⊢
        clear hlen
        have b1 := eq_b (rfl : P = P)
        have b2 : (is != is) = false := by cases is <;> rfl
        have b3 : (xe != xe) = false := by simp
        go_wp2_with fail
        refine HSM.out.mono ?_
        rintro e w13 ⟨rfl, hb13⟩
        have H13 := hid (H12.out.on hb13)
        clear hb13 HSM H12
        have HY1 := hid (two_back H13.out)
        have HY2 : Hid (∀ M w1, Two w d m r M M3 w1 → Calls Tryz.prog 18 #[ptr r] w1 fun e w' => e = .returned (.int .i64 (backM M3).1) ∧ Two w d m r M (backM M3).2 w') := hid (fun M w1 h => two_rback h)
        generalize backM M3 = Y at *
        have b4 : (Y.1 == Y.1) = true := by simp
        go_wp2_with fail
        refine HY1.out.mono ?_
        rintro e w14 ⟨rfl, h14⟩
        have H14 := hid h14
        clear h14 HY1 H13
        go_wp2_with fail
        refine (HY2.out _ _ H14.out).mono ?_
        rintro e w15 ⟨rfl, h15⟩
        have H15 := hid h15
        clear h15 HY2 H14
        generalize Y.1 = ye at *
        generalize Y.2 = M4 at *
        go_wp2_with fail
        refine (two_bytes H15.out).mono ?_
        rintro e w16 ⟨rfl, h16⟩
        have H16 := hid h16
        clear h16 H15
        go_wp2_with fail
        refine (two_rbytes H16.out).mono ?_
        rintro e w17 ⟨rfl, h17⟩
        have H17 := hid h17
        clear h17 H16
        generalize bs (M4.bytes dn) = B at *
        have b5 : (B.toList == B.toList) = true := by simp
        go_wp2_with fail
        refine (two_size_d H17.out).mono ?_
        rintro e w18 ⟨rfl, rfl⟩
        have HSD := hid (two_rsize_d H17.out)
        generalize M4.size dn = sd at *
        have b6 : (sd == sd) = true := by simp
        go_wp2_with fail
        refine HSD.out.mono ?_
        rintro e w19 ⟨rfl, rfl⟩
        clear HSD
        go_wp2_with fail
        refine (two_size_j H17.out).mono ?_
        rintro e w20 ⟨rfl, rfl⟩
        have HSJ := hid (two_rsize_j H17.out)
        generalize M4.size jn = sj at *
        have b7 : (sj == sj) = true := by simp
        go_wp2_with fail
        refine HSJ.out.mono ?_
        rintro e w21 ⟨rfl, rfl⟩
        clear HSJ
        go_wp2
        go_ret
        exact ⟨rfl, H17.out.below⟩
end Jo
end Go.Proofs.YtpdpjgeoclilhaaGreat
