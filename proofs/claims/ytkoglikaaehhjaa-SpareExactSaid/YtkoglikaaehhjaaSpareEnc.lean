/-
  Contract of the project's Encode.
-/
import Derived.Test.YtkoglikaaehhjaaSpareBld
import Derived.Test.YtkoglikaaehhjaaSpareGood
import Derived.Test.YtkoglikaaehhjaaNumFixed
namespace Go.Proofs.Ytkoglikaaehhjaa
open Go.RowKit
namespace Sp
open Num (hid fixF)
open Mem (Bs bs IAt)
theorem fixed_w (n : Nat) (k : Nat) (hn : n < 18446744073709551616) (hk : 1 ≤ k) (hk8 : k ≤ 8) (w : World) : Calls Try.prog 24 #[.int .u64 (n : Nat), .int .i64 (k : Nat)] w fun e w' => e = .returned (.string (bs (fixF k n))) ∧ Below w.heap.size w w' := by
  have h := Num.fixed_any n hn k w
  have e : Num.clampW (k : Int) = k := by unfold Num.clampW; rw [if_neg (by omega), if_neg (by omega)]; rfl
  rw [e] at h
  exact h
theorem fixed_4 (n : Nat) (hn : n < 18446744073709551616) (w : World) : Calls Try.prog 24 #[.int .u64 (n : Nat), .int .i64 4] w fun e w' => e = .returned (.string (bs (fixF 4 n))) ∧ Below w.heap.size w w' := fixed_w n 4 hn (by decide) (by decide) w
theorem fixed_1 (n : Nat) (hn : n < 18446744073709551616) (w : World) : Calls Try.prog 24 #[.int .u64 (n : Nat), .int .i64 1] w fun e w' => e = .returned (.string (bs (fixF 1 n))) ∧ Below w.heap.size w w' := fixed_w n 1 hn (by decide) (by decide) w
theorem u64_id {k : Nat} (h : k < 18446744073709551616) : IntKind.u64.wrap (k : Int) = (k : Int) := by rw [Num.wrap_u]; omega
abbrev bObj : Obj := .cells #[.pointer none, .slice none 0 0] tBld
/-- What the walk carries: the builder made behind w3 and its bytes. -/
structure Est (w3 : World) (l : Bs) (wr : World) : Prop where
  fb : FB w3.heap.size l wr
  be : Below w3.heap.size w3 wr
  lt : w3.heap.size < wr.heap.size
theorem Est.start (w3 : World) : Est w3 [] (w3.alloc bObj) := ⟨FB.fresh w3, (Below.refl _ _).alloc (Nat.le_refl _) _, by simp⟩
theorem Est.on {w3 : World} {l : Bs} {wr w' : World} (h : Est w3 l wr) (hb : Below wr.heap.size wr w') : Est w3 l w' := ⟨h.fb.on hb, h.be.trans (hb.mono (Nat.le_of_lt h.lt)), Nat.lt_of_lt_of_le h.lt hb.size⟩
theorem Est.put {w3 : World} {l : Bs} {wr : World} (h : Est w3 l wr) (x : Bs) (hl : l.length ≤ 1000000) (hx : x.length ≤ 1000000) :
    Calls Try.prog 23 #[.pointer (some ⟨w3.heap.size, 0, none⟩), .string (bs x)] wr fun e w' => e = .returned (.tuple #[.int .i64 (bs x).size, .nilIface]) ∧ Est w3 (l ++ x) w' := by
  refine (fstr_any w3.heap.size l x wr h.fb (by omega) (Nat.le_of_lt h.lt)).mono ?_
  rintro e w' ⟨rfl, h1, h2, -⟩
  exact ⟨rfl, h1, h.be.trans h2, Nat.lt_of_lt_of_le h.lt h2.size⟩
theorem Est.len {w3 : World} {l : Bs} {wr : World} (h : Est w3 l wr) : Calls Try.prog 26 #[.pointer (some ⟨w3.heap.size, 0, none⟩)] wr fun e w' => e = .returned (.int .i64 l.length) ∧ wr = w' := flen_any _ l wr h.fb
theorem Est.fin {w3 : World} {l : Bs} {wr : World} (h : Est w3 l wr) :
    Calls Try.prog 27 #[.pointer (some ⟨w3.heap.size, 0, none⟩)] wr fun e w' => e = .returned (.string (bs l)) ∧ Below w3.heap.size w3 w' := by
  refine (fend_any w3.heap.size l wr h.fb (Nat.le_of_lt h.lt)).mono ?_
  rintro e w' ⟨rfl, h1⟩
  exact ⟨rfl, h.be.trans h1⟩
theorem Est.cell {w3 : World} {l : Bs} {wr : World} (h : Est w3 l wr) {b o : Nat} {v : Value} (hb : b < w3.heap.size) (hc : w3.cell? ⟨b, o, none⟩ = some v) : wr.cell? ⟨b, o, none⟩ = some v := (h.be.cell (p := ⟨b, o, none⟩) hb).trans hc
def upto (t : Tr) (k : Nat) : Bs := headT t ++ nums (t.list.take k)
theorem upto_next (t : Tr) {k : Nat} (h : k < t.list.length) : upto t (k + 1) = upto t k ++ fixF 4 t.list[k].toNat := by
  unfold upto
  rw [List.take_succ_eq_append_getElem h, nums_append, nums_one, List.append_assoc]
theorem upto_all (t : Tr) {k : Nat} (h : t.list.length ≤ k) : upto t k = bodyT t := by unfold upto bodyT; rw [List.take_of_length_le h]
theorem upto_len (t : Tr) (k : Nat) (h : k ≤ t.list.length) : (upto t k).length = 6 + k * 4 := by unfold upto; rw [List.length_append, head_len, nums_len, List.length_take]; omega
def sV2 (x : Bs × Int) : Value := .tuple #[.string (bs x.1), .int .i64 x.2]
theorem enc_bad {t : Tr} (h : okT t = false) : encT t = ([], 1) := by unfold encT; rw [h]; rfl
theorem enc_good {t : Tr} (h : okT t = true) : encT t = (pageT t, 0) := by unfold encT; rw [if_pos h]
set_option maxRecDepth 100000 in
set_option maxHeartbeats 4000000 in
theorem encode_any (t : Tr) (lv : Value) (w : World) (h : IAt w lv t.list) :
    Calls Try.prog 9 #[trV t lv] w fun e w' => e = .returned (sV2 (encT t)) ∧ Below w.heap.size w w' := by
  obtain ⟨ao, cap, rfl, hm, -, hat⟩ := Mem.IAt.ways1 h
  have B1 := hid ((Below.refl w.heap.size w).alloc (Nat.le_refl _) (tObj t.next (.slice ao t.list.length cap)))
  have HG := hid (good_any t (.slice ao t.list.length cap) _ (h.on B1.out))
  unfold sV2
  cases ho : okT t with
  | false =>
    rw [ho] at HG
    rw [enc_bad ho]
    unfold trV at *
    clear h hat ho
    go_enter Try.func9, Try.ntmps9
    go_wp2_with fail
    refine HG.out.mono ?_
    rintro e w3 ⟨rfl, hb⟩
    have B2 := hid (B1.out.trans (hb.mono B1.out.size))
    clear hb
    go_wp2
    go_ret2
    exact ⟨rfl, B2.out⟩
  | true =>
    rw [ho] at HG
    rw [enc_good ho]
    obtain ⟨⟨h1, h2⟩, h3, h4⟩ := (okT_iff t).1 ho
    have HL := hid (upto_len t)
    have HNx := hid (fun k (h : k < t.list.length) => upto_next t h)
    have HU0 : Hid (upto t 0 = ([4] : Bs) ++ fixF 4 t.next.toNat ++ fixF 1 t.list.length) := hid (by unfold upto headT nums; simp)
    have HU1 : Hid (upto t t.list.length ++ zeros (232 - (6 + t.list.length * 4)) = pageT t) := hid (by rw [upto_all t (Nat.le_refl _)]; unfold pageT; rw [body_len])
    have HK := hid hat
    have H4 := hid h4
    clear h hat ho
    unfold trV at *
    generalize hP : pageT t = P at *
    clear hP
    obtain ⟨nl, hnl⟩ : ∃ x, t.list.length = x := ⟨_, rfl⟩
    obtain ⟨m, hm0⟩ : ∃ m : Nat, t.next = (m : Int) := ⟨t.next.toNat, by omega⟩
    rw [hnl] at B1 HG HL HU0 HU1 h3 ⊢
    rw [hm0] at B1 HG HU0 h2 ⊢
    rw [show ((m : Int)).toNat = m from rfl] at HU0
    have hu0 : IntKind.u64.wrap (m : Int) = (m : Int) := u64_id (by omega)
    have hu1 : IntKind.u64.wrap (nl : Int) = (nl : Int) := u64_id (by omega)
    have HF4 := hid (fixed_4 m (by omega))
    have HF1 := hid (fixed_1 nl (by omega))
    have HNL := hid hnl
    have HR := hid (repeat_any (232 - (6 + nl * 4)) (by omega))
    have ec : (((232 - (6 + nl * 4) : Nat)) : Int) = 232 - ((6 + nl * 4 : Nat) : Int) := by omega
    rw [ec] at HR
    have HEC := hid ec
    clear hnl hm0 h1 hm ec
    have HZ : Hid ((zeros (232 - (6 + nl * 4))).length ≤ 1000000) := hid (by rw [zeros_len]; omega)
    generalize zeros (232 - (6 + nl * 4)) = Z at *
    go_enter Try.func9, Try.ntmps9
    go_wp2_with fail
    refine HG.out.mono ?_
    rintro e w3 ⟨rfl, hb⟩
    have B2 := hid (B1.out.trans (hb.mono B1.out.size))
    have hlt : w.heap.size < w3.heap.size := by have := hb.size; simp at this; omega
    have k0 : w3.cell? ⟨w.heap.size, 0, none⟩ = some (.int .i64 (m : Int)) := (hb.cell (p := ⟨w.heap.size, 0, none⟩) (by simp)).trans (box_cells w _ _).1
    have k1 : w3.cell? ⟨w.heap.size, 1, none⟩ = some (.slice ao nl cap) := (hb.cell (p := ⟨w.heap.size, 1, none⟩) (by simp)).trans (box_cells w _ _).2
    have K0 := hid k0
    have K1 := hid k1
    have HLT := hid hlt
    have S0 := hid (Est.start w3)
    clear hb k0 k1 hlt
    go_wp2_with fail
    refine (S0.out.put [4] (by decide) (by decide)).mono ?_
    rintro e w4 ⟨rfl, hs⟩
    have S1 := hid hs
    have c0 := S1.out.cell HLT.out K0.out
    clear hs
    go_wp2_with fail
    refine (HF4.out _).mono ?_
    rintro e w5 ⟨rfl, hb⟩
    have S2 := hid (S1.out.on hb)
    clear hb c0
    go_wp2_with fail
    refine (S2.out.put (fixF 4 m) (by decide) (by rw [Num.fixF_length]; decide)).mono ?_
    rintro e w6 ⟨rfl, hs⟩
    have S3 := hid hs
    have c1 := S3.out.cell HLT.out K1.out
    clear hs
    go_wp2_with fail
    refine (HF1.out _).mono ?_
    rintro e w7 ⟨rfl, hb⟩
    have S4 := hid (S3.out.on hb)
    clear hb c1
    go_wp2_with fail
    refine (S4.out.put (fixF 1 nl) (by simp [Num.fixF_length]) (by rw [Num.fixF_length]; decide)).mono ?_
    rintro e w8 ⟨rfl, hs⟩
    have S5 : Hid (Est w3 (upto t 0) w8) := hid (by rw [HU0.out]; simpa using hs)
    have c1 := S5.out.cell HLT.out K1.out
    clear hs
    go_wp2_with fail
    go_loopw [25] (fun i wr => ∃ k : Nat, k ≤ nl ∧ i = .int .i64 k ∧ Hid (Est w3 (upto t k) wr)) (fun i _ => nl - (intOf i).toNat)
    case atStart => exact ⟨0, Nat.zero_le _, rfl, S5⟩
    case round =>
      obtain ⟨k, hk, rfl, HS⟩ := hrel
      have hul := HL.out k hk
      clear c1
      by_cases hlt : k < nl
      · have hlt' : (k : Int) < nl := by omega
        have i1 : k < t.list.length := by have := HNL.out; omega
        obtain ⟨b, o, rfl, hbl, x0⟩ := HK.out k i1
        have hbl3 : b < w3.heap.size := by have := HLT.out; omega
        have y0 := HS.out.cell hbl3 ((B2.out.cell (p := ⟨b, o + k, none⟩) hbl).trans x0)
        have hx := H4.out _ (List.getElem_mem i1)
        have HN := HNx.out k i1
        obtain ⟨x, hx0⟩ : ∃ x : Nat, t.list[k] = (x : Int) := ⟨t.list[k].toNat, by omega⟩
        rw [hx0] at y0 hx HN
        have HN2 : Hid (upto t (k + 1) = upto t k ++ fixF 4 x) := hid HN
        have hux : IntKind.u64.wrap (x : Int) = (x : Int) := u64_id (by omega)
        have HFx := hid (fixed_4 x (by omega))
        clear x0 HN hx0 hx i1
        go_wp2_with fail
        refine (HFx.out _).mono ?_
        rintro e w9 ⟨rfl, hb⟩
        have S6 := hid (HS.out.on hb)
        clear hb y0
        go_wp2_with fail
        refine (S6.out.put (fixF 4 x) (by omega) (by rw [Num.fixF_length]; decide)).mono ?_
        rintro e w10 ⟨rfl, hs⟩
        have S7 := hid hs
        clear hs
        go_wp2
        go_roundw
        case rel => exact ⟨k + 1, by omega, by go_num, hid (by rw [HN2.out]; exact S7.out)⟩
        case measure => simp [intOf]; omega
      · obtain rfl : k = nl := by omega
        have hlt' : ¬ (k : Int) < k := by omega
        have hlen := HS.out.len
        rw [hul] at hlen
        have HLN := hid hlen
        clear hlen
        go_wp2_with fail
        refine HLN.out.mono ?_
        rintro e w9 ⟨rfl, rfl⟩
        go_wp2_with fail
        refine (HR.out _).mono ?_
        rintro e w10 ⟨rfl, hb⟩
        have S6 := hid (HS.out.on hb)
        clear hb
        go_wp2_with fail
        refine (S6.out.put Z (by omega) HZ.out).mono ?_
        rintro e w11 ⟨rfl, hs⟩
        have S7 : Hid (Est w3 P w11) := hid (by rw [HU1.out] at hs; exact hs)
        clear hs
        go_wp2_with fail
        refine S7.out.fin.mono ?_
        rintro e w12 ⟨rfl, hb⟩
        have B3 := hid (B2.out.trans (hb.mono B2.out.size))
        clear hb
        go_wp2
        go_ret2
        exact ⟨rfl, B3.out⟩
end Sp
end Go.Proofs.Ytkoglikaaehhjaa
