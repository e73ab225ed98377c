/-
  Contract of the laws' own holds: a log that holds just these frames.
-/
import Derived.Test.YtgmbiiocjhkpdaaGreatLogPL
namespace Go.Proofs.YtgmbiiocjhkpdaaGreat
open Go.RowKit Go.Shelf
namespace Lo
open Num (hid)
open Jo (okB kK kN kS kD okB_iff psO nows)
open Disk (Mod Fil Sees Stays)
open Mem (Bs bs LAt tI Chg ptr blk_cell blk_free blk_new blk_set blk_other blk_alloc row_kept row_shape row_type)
variable {O O' : Nat → Prop} {d m j b : Nat} {f f' : Value} {M M' : Mod} {fs fs' : List Fr} {w w' : World}
/-- While it is asked: the log, its disk but for what asking turns. -/
structure HI (O : Nat → Prop) (d m j b : Nat) (f : Value) (M : Mod) (fs : List Fr) (w wr : World) : Prop where
  pl : ∃ M', PL O d m j b f M' fs wr ∧ SameD M M'
  st : Stays O w wr
theorem HI.on {wr wx : World} (h : HI O d m j b f M fs w wr) (hb : Below wr.heap.size wr wx) : HI O d m j b f M fs w wx := by
  obtain ⟨⟨M', h1, h2⟩, h3⟩ := h
  exact ⟨⟨M', h1.on hb, h2⟩, h3.trans (stays_of hb)⟩
theorem wantK_yes {l : List FI} {n k : Nat} (hk : k < l.length) (h : numOf l[k].n = n) : wantK l n (k + 1) = pgL l[k].fill := by
  unfold wantK
  rw [List.getElem?_eq_getElem hk]
  exact if_pos h
theorem wantK_no {l : List FI} {n k : Nat} (hk : k < l.length) (h : ¬ numOf l[k].n = n) : wantK l n (k + 1) = wantK l n k := by
  rw [wantK]
  rw [List.getElem?_eq_getElem hk]
  exact if_neg h
theorem wf_nat10 {n : Nat} (h : n < 10) : Wf (n : Int) := wf_of (by omega) (by omega)
set_option maxRecDepth 100000 in
set_option maxHeartbeats 4000000 in
theorem holds_any {l : List FI} {v : Value} (h : PL O d m j b f M (frs (fms l)) w) (hh : Holds (fms l) M) (hl : l.length ≤ 10000) (hr : RowIn O w v l) :
    Calls Tryz.prog 46 #[ptr j, v] w fun e w' => e = .returned (.bool true) ∧ HI O d m j b f M (frs (fms l)) w w' := by
  obtain ⟨ao, cap, rfl, hcap⟩ := hr.len
  have hlen := len_any h
  rw [show (frs (fms l)).length = l.length by rw [frs_len]; exact List.length_map ..] at hlen
  have HLEN := hid hlen
  have HI0 : Hid (HI O d m j b f M (frs (fms l)) w w) := hid ⟨⟨M, h, rfl, hh.1, rfl⟩, Disk.Stays.refl _ _⟩
  have HROW : Hid (∀ wr, Stays O w wr → ∀ k (hk : k < l.length), ∃ g o, ao = some ⟨g, o, none⟩ ∧ g < wr.heap.size ∧ (∀ i, i < 4 → wr.cell? ⟨g, o + k * 4 + i, none⟩ = (fiV l[k])[i]?)) := hid (fun wr hs k hk => by
    obtain ⟨ao', cap', e, _, _, hc⟩ := (hr wr hs).ways
    cases e
    obtain ⟨g, o, e1, e2, e3⟩ := hc k hk
    exact ⟨g, o, e1, e2, e3⟩)
  have HGET : Hid (∀ n M', n < 10 → SameD M M' → ∀ wr, PL O d m j b f M' (frs (fms l)) wr → Stays O w wr → Calls Tryz.prog 17 #[ptr j, .int .i64 (n : Nat)] wr fun e w' => e = .returned (.tuple #[.string (bs (wantK l n l.length)), .bool (decide (wantK l n l.length ≠ [])), .int .i64 0]) ∧ HI O d m j b f M (frs (fms l)) w w') := hid (fun n M' hn hs wr hp hst => by
    obtain ⟨M'', e, hs2⟩ := get_holds (hh.same hs) n
    have hg := get_any hp (n : Int) (wf_nat10 hn)
    rw [e] at hg
    refine hg.mono ?_
    rintro e w' ⟨rfl, h1, h2⟩
    exact ⟨rfl, ⟨M'', h1, hs.trans hs2⟩, hst.trans h2⟩)
  have HL := hid hl
  have HCP : Hid (l.length ≤ cap) := hid hcap
  obtain ⟨len, hle⟩ : ∃ len, l.length = len := ⟨_, rfl⟩
  have HLE := hid hle
  rw [hle] at HLEN
  clear hlen h hh hl hr hcap hle
  go_enter Tryz.func46, Tryz.ntmps46
  go_wp2_with fail
  refine HLEN.out.mono ?_
  rintro e w1 ⟨rfl, rfl⟩
  rw [HLE.out]
  go_wp2_with fail
  go_loopw [5] (fun nv wr => ∃ n : Nat, n ≤ 10 ∧ nv = .int .i64 n ∧ Hid (HI O d m j b f M (frs (fms l)) w wr)) (fun nv _ => 10 - (intOf nv).toNat)
  case atStart => exact ⟨0, by omega, rfl, HI0⟩
  case round =>
    obtain ⟨n, hn, rfl, HN⟩ := hrel
    by_cases hn10 : (n : Int) < 10
    · obtain ⟨w5, hw5⟩ : ∃ x, x = wr := ⟨_, rfl⟩
      subst hw5
      go_wp2_with fail
      go_loopw [6, 7] (fun sv iv wr => ∃ k : Nat, k ≤ len ∧ sv = .string (bs (wantK l n k)) ∧ iv = .int .i64 k ∧ Hid (HI O d m j b f M (frs (fms l)) w wr)) (fun _ iv _ => len - (intOf iv).toNat)
      case atStart => exact ⟨0, Nat.zero_le _, rfl, rfl, HN⟩
      case round =>
        obtain ⟨k, hk, rfl, rfl, HK⟩ := hrel
        by_cases hkl : (k : Int) < (len : Int)
        · have hkL : k < l.length := by have := HLE.out; omega
          have HLT : Hid (k < len) := hid (by omega)
          have hkc : (k : Int) < (cap : Int) := by have := HCP.out; omega
          have hkw : (k : Int) ≤ 10000 := by have := HL.out; omega
          obtain ⟨g, o, rfl, hg, hcell⟩ := HROW.out wr HK.out.st k hkL
          have q0 : wr.cell? ⟨g, o + k * 4, none⟩ = some (.int .i64 l[k].n) := hcell 0 (by decide)
          have q1 : wr.cell? ⟨g, o + k * 4 + 1, none⟩ = some (.int .u8 (l[k].fill.toNat : Int)) := hcell 1 (by decide)
          have q2 : wr.cell? ⟨g, o + k * 4 + 2, none⟩ = some (.bool l[k].commit) := hcell 2 (by decide)
          have q3 : wr.cell? ⟨g, o + k * 4 + 3, none⟩ = some (.bool l[k].sync) := hcell 3 (by decide)
          have HNUM := hid (number_any l[k])
          have HPG := hid (page14_any l[k].fill)
          have HF1 : Hid (∀ wx, Below wr.heap.size wr wx → wx.cell? ⟨g, o + k * 4 + 1, none⟩ = some (.int .u8 (l[k].fill.toNat : Int))) := hid (fun wx hx => (hx.cell (p := ⟨g, o + k * 4 + 1, none⟩) hg).trans q1)
          clear hcell
          by_cases hx : numOf l[k].n = n
          · have hW := wantK_yes hkL hx
            have hxb : ((numOf l[k].n : Int) == (n : Int)) = true := by simp; omega
            have HW := hid hW
            clear hx hW
            generalize l[k] = x at *
            go_wp2_with fail
            refine (HNUM.out _).mono ?_
            rintro e w2 ⟨rfl, hb2⟩
            have HB2 := hid hb2
            have e1 := HF1.out w2 hb2
            clear hb2 q0 q1 q2 q3
            go_wp2_with fail
            refine (HPG.out _).mono ?_
            rintro e w3 ⟨rfl, hb3⟩
            have HNX := hid ((HK.out.on HB2.out).on hb3)
            clear hb3 e1
            go_wp2
            go_roundw
            case rel => exact ⟨k + 1, HLT.out, by rw [HW.out], by go_num, HNX⟩
            case measure => exact meas_lt' HLT.out
          · have hW := wantK_no hkL hx
            have hxb : ((numOf l[k].n : Int) == (n : Int)) = false := by simp; omega
            have HW := hid hW
            clear hx hW
            generalize l[k] = x at *
            go_wp2_with fail
            refine (HNUM.out _).mono ?_
            rintro e w2 ⟨rfl, hb2⟩
            have HNX := hid (HK.out.on hb2)
            clear hb2 q0 q1 q2 q3
            go_wp2
            go_roundw
            case rel => exact ⟨k + 1, HLT.out, by rw [HW.out], by go_num, HNX⟩
            case measure => exact meas_lt' HLT.out
        · obtain rfl : k = len := by omega
          obtain ⟨⟨M', hp, hs⟩, hst⟩ := HK.out
          have hg := HGET.out n M' (by omega) hs wr hp hst
          rw [HLE.out] at hg
          obtain ⟨W, hW⟩ : ∃ W, wantK l n k = W := ⟨_, rfl⟩
          rw [hW] at hg ⊢
          have HG := hid hg
          have HLT : Hid (n < 10) := hid (by omega)
          clear hp hs hst hg hW
          by_cases hw0 : W = []
          · subst hw0
            have hne : (bs []).toList.isEmpty = true := by rw [ByteArray.toList_eq]; rfl
            go_wp2_with fail
            refine HG.out.mono ?_
            rintro e w2 ⟨rfl, h2⟩
            have H2 := hid h2
            clear h2
            go_wp2
            go_roundw
            case rel => exact ⟨n + 1, HLT.out, by go_num, H2⟩
            case measure => exact meas_lt' HLT.out
          · have hne : (bs W).toList.isEmpty = false := by
              rw [ByteArray.toList_eq]
              show W.isEmpty = false
              simpa using hw0
            have hd : decide (W ≠ []) = true := decide_eq_true hw0
            rw [hd] at HG
            generalize bs W = S at *
            clear hw0 hd
            go_wp2_with fail
            refine HG.out.mono ?_
            rintro e w2 ⟨rfl, h2⟩
            have H2 := hid h2
            clear h2
            go_wp2
            go_roundw
            case rel => exact ⟨n + 1, HLT.out, by go_num, H2⟩
            case measure => exact meas_lt' HLT.out
    · obtain rfl : n = 10 := by omega
      have HE := hid HN.out
      go_wp2
      go_ret
      exact ⟨rfl, HE.out⟩
end Lo
end Go.Proofs.YtgmbiiocjhkpdaaGreat
