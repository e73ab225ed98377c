/-
  SparePages: the walk of the statement.
-/
import Derived.Test.YtiomojidfkpagaaSpareAwake
import Derived.Test.YtiomojidfkpagaaSpareRefDec
namespace Go.Proofs.Ytiomojidfkpagaa
open Go.RowKit
namespace Sp
open Num (hid)
open Mem (Bs bs IAt)
set_option maxRecDepth 100000 in
set_option maxHeartbeats 1000000 in
/-- The same trunk twice. -/
theorem same_yes (T : Tr) (u v : Value) (w : World) (hu : IAt w u T.list) (hv : IAt w v T.list) (hm : T.list.length ≤ 1000000) :
    Calls Try.prog 32 #[trV T u, trV T v] w fun e w' => e = .returned (.bool true) ∧ Below w.heap.size w w' := by
  obtain ⟨a1, p1, rfl, -, -, h1⟩ := Mem.IAt.ways1 hu
  obtain ⟨a2, p2, rfl, -, -, h2⟩ := Mem.IAt.ways1 hv
  have H1 := hid h1
  have H2 := hid h2
  obtain ⟨next, l⟩ := T
  unfold trV
  simp only at H1 H2 hm ⊢
  obtain ⟨nl, hnl⟩ : ∃ x, l.length = x := ⟨_, rfl⟩
  rw [hnl] at hm ⊢
  have HNL := hid hnl
  have HM := hid hm
  have hB : Below w.heap.size w ((w.alloc (tObj next (.slice a1 nl p1))).alloc (tObj next (.slice a2 nl p2))) := ((Below.refl w.heap.size w).alloc (Nat.le_refl _) _).alloc (by simp) _
  have B1 := hid hB
  have u1 : Tb w.heap.size next (.slice a1 nl p1) ((w.alloc (tObj next (.slice a1 nl p1))).alloc (tObj next (.slice a2 nl p2))) := (Tb.new _ _ w).on ((Below.refl _ _).alloc (Nat.le_refl _) _)
  have u2 := Tb.new next (.slice a2 nl p2) (w.alloc (tObj next (.slice a1 nl p1)))
  have e1 : (w.alloc (tObj next (.slice a1 nl p1))).heap.size = w.heap.size + 1 := by simp
  rw [e1] at u2
  have U1 := hid u1
  have U2 := hid u2
  clear hu hv h1 h2 hnl hB u1 u2 e1 hm
  go_enter Try.func32, Try.ntmps32
  go_upto_region 1 with fail
  generalize (w.alloc (tObj next (.slice a1 nl p1))).alloc (tObj next (.slice a2 nl p2)) = z at *
  obtain ⟨c0, c1⟩ := U1.out.cells
  obtain ⟨d0, d1⟩ := U2.out.cells
  have l1 := U1.out.lt
  have l2 := U2.out.lt
  go_wp2_with fail
  go_loopw [5] (fun i wr => ∃ k : Nat, k ≤ nl ∧ i = .int .i64 k ∧ ∃ q, wr = z.drewN q) (fun i _ => nl - (intOf i).toNat)
  case atStart => exact ⟨0, Nat.zero_le _, rfl, 0, rfl⟩
  case round =>
    obtain ⟨k, hk, rfl, q, rfl⟩ := hrel
    by_cases hlt : k < nl
    · have hlt' : (k : Int) < nl := by omega
      have hm2 := HM.out
      have i1 : k < l.length := by have := HNL.out; omega
      obtain ⟨g1, o1, rfl, hg1, x1⟩ := H1.out k i1
      obtain ⟨g2, o2, rfl, hg2, x2⟩ := H2.out k i1
      have y1 := (B1.out.cell (p := ⟨g1, o1 + k, none⟩) hg1).trans x1
      have y2 := (B1.out.cell (p := ⟨g2, o2 + k, none⟩) hg2).trans x2
      generalize l[k] = x at *
      clear x1 x2
      have HK := hid hlt
      go_wp2
      go_quiet (fail)
      go_wp2
      go_roundw
      case rel => exact ⟨k + 1, HK.out, by go_num, _, rfl⟩
      case measure => have := HK.out; simp [intOf]; omega
    · obtain rfl : k = nl := by omega
      have hlt' : ¬ (k : Int) < k := by omega
      go_wp2
      go_ret
      exact ⟨rfl, below_drewN B1.out q⟩
end Sp
namespace sparePages
open Sp
open Num (hid)
open Mem (Bs bs IAt)
set_option maxRecDepth 100000 in
set_option maxHeartbeats 4000000 in
theorem walk (t : Tr) (lv : Value) (S : Bs) (w : World) (hI : IAt w lv t.list) :
    Calls Try.prog 4 #[.agg #[.int .i64 t.next, lv], .string (bs S)] w fun e w' => e = .returned (.bool true) ∧ Below w.heap.size w w' := by
  obtain ⟨ao, cap, rfl, hm, -, -⟩ := Mem.IAt.ways1 hI
  have B0 := hid ((Below.refl w.heap.size w).alloc (Nat.le_refl _) (tObj t.next (.slice ao t.list.length cap)))
  have T0 := hid (Tb.new t.next (.slice ao t.list.length cap) w)
  have I0 := hid hI
  have HE := hid (fun wx (h : IAt wx (.slice ao t.list.length cap) t.list) => encode_any t _ wx h)
  have HR := hid (fun wx (h : IAt wx (.slice ao t.list.length cap) t.list) => rencode_any t _ wx h)
  have HD := hid (fun wx => decode_any S wx)
  have HRD := hid (fun wx => rdecode_any S wx)
  have HL : Hid ((decT S).1.list.length ≤ 1000000) := hid (by
    unfold decT
    split
    · exact Nat.zero_le _
    · split
      · rename_i h; exact Nat.le_trans ((okT_iff _).1 h.1).2.1 (by decide)
      · exact Nat.zero_le _)
  unfold trV sV2 at HE HR
  generalize encT t = E at *
  obtain ⟨es, ee⟩ := E
  generalize decT S = D at *
  obtain ⟨T, de⟩ := D
  simp only at HE HR HL
  have hq : ((bs es).toList == (bs es).toList) = true := by simp
  clear hI hm
  go_enter Try.func4, Try.ntmps4
  go_wp2_with fail
  refine (awake_any _).mono ?_
  rintro e w1 ⟨rfl, hb1⟩
  have B1 := hid (B0.out.trans (hb1.mono B0.out.size))
  have T1 := hid (T0.out.on hb1)
  have I1 := hid (I0.out.on B1.out)
  clear hb1
  obtain ⟨c0, c1⟩ := T1.out.cells
  have hl := T1.out.lt
  go_wp2_with fail
  refine (HE.out _ I1.out).mono ?_
  rintro e w2 ⟨rfl, hb⟩
  have B2 := hid (B1.out.trans (hb.mono B1.out.size))
  have T2 := hid (T1.out.on hb)
  have I2 := hid (I1.out.on hb)
  clear hb c0 c1 hl
  obtain ⟨c0, c1⟩ := T2.out.cells
  have hl := T2.out.lt
  go_wp2_with fail
  refine (HR.out _ I2.out).mono ?_
  rintro e w3 ⟨rfl, hb⟩
  have B3 := hid (B2.out.trans (hb.mono B2.out.size))
  clear hb c0 c1 hl
  go_wp2_with fail
  refine (HD.out _).mono ?_
  rintro e w4 ⟨⟨u, rfl, ru⟩, hb⟩
  obtain ⟨a1, p1, rfl⟩ := ru.shape
  unfold trV
  simp only at ru ⊢
  have B4 := hid (B3.out.trans (hb.mono B3.out.size))
  have hb5 : Below w4.heap.size w4 (w4.alloc (tObj T.next (.slice a1 T.list.length p1))) := (Below.refl _ _).alloc (Nat.le_refl _) _
  have R5 := hid (ru.on hb5)
  have B5 := hid (B4.out.trans (hb5.mono B4.out.size))
  have U5 := hid (Tb.new T.next (.slice a1 T.list.length p1) w4)
  clear hb ru hb5
  go_upto_region 6 with fail
  generalize w4.alloc (tObj T.next (.slice a1 T.list.length p1)) = w5 at *
  go_wp2_with fail
  refine (HRD.out _).mono ?_
  rintro e w6 ⟨⟨v, rfl, rv⟩, hb⟩
  obtain ⟨a2, p2, rfl⟩ := rv.shape
  unfold trV
  simp only at rv ⊢
  have B6 := hid (B5.out.trans (hb.mono B5.out.size))
  have hb7 : Below w6.heap.size w6 (w6.alloc (tObj T.next (.slice a2 T.list.length p2))) := (Below.refl _ _).alloc (Nat.le_refl _) _
  have R7 := hid ((R5.out.on hb).on hb7)
  have V7 := hid (rv.on hb7)
  have B7 := hid (B6.out.trans (hb7.mono B6.out.size))
  have U7 := hid ((U5.out.on hb).on hb7)
  have X7 := hid (Tb.new T.next (.slice a2 T.list.length p2) w6)
  clear hb rv hb7
  go_upto_region 7 with fail
  generalize w6.alloc (tObj T.next (.slice a2 T.list.length p2)) = w7 at *
  have HS := same_yes T _ _ w7 (R7.out.at HL.out) (V7.out.at HL.out) HL.out
  unfold trV at HS
  have HSm := hid HS
  obtain ⟨c0, c1⟩ := U7.out.cells
  obtain ⟨d0, d1⟩ := X7.out.cells
  have l1 := U7.out.lt
  have l2 := X7.out.lt
  clear HS
  go_wp2_with fail
  refine HSm.out.mono ?_
  rintro e w8 ⟨rfl, hb⟩
  have B8 := hid (B7.out.trans (hb.mono B7.out.size))
  clear hb
  go_wp2
  go_ret
  exact ⟨rfl, B8.out⟩
end sparePages
end Go.Proofs.Ytiomojidfkpagaa
