/-
  Contract of the project's Encode.
-/
import Derived.Test.YtiellodbkanciaaGreatDoorRowKey
import Derived.Test.YtiellodbkanciaaGreatDoorGrpNum
namespace Go.Proofs.YtiellodbkanciaaGreatDoor
open Go.RowKit
namespace Ro
open Va
open Num (hid varB foldI)
structure Er where
  s : Bs
  e : Int
def encR (l : Vs) : Er := if goodR l then ⟨encL l, 0⟩ else ⟨[], 1⟩
def eV (x : Er) : Value := .tuple #[.string (bs x.s), .int .i64 x.e]
theorem encR_no {l : Vs} (h : goodR l = false) : encR l = ⟨[], 1⟩ := by unfold encR; rw [h]; rfl
theorem encR_yes {l : Vs} (h : goodR l = true) : encR l = ⟨encL l, 0⟩ := if_pos h
def upto (l : Vs) (k : Nat) : Bs := varB l.length ++ encsV (l.take k)
theorem upto_next {l : Vs} {k : Nat} (h : k < l.length) : upto l (k + 1) = upto l k ++ encV l[k] := by
  unfold upto
  rw [List.take_succ_eq_append_getElem h]
  unfold encsV
  rw [List.flatMap_append, List.append_assoc]
  simp
theorem encV_most {v : V} (h : v.good = true) : (encV v).length ≤ 2011 := by
  refine good_cases (P := fun v => (encV v).length ≤ 2011) ?_ ?_ ?_ h
  · simp [encV, tailV]
  · intro N
    have := Num.varB_le (foldI N).toNat
    simp [encV, tailV]; omega
  · intro K S hK hS
    have := Num.varB_le S.size
    have hk1 : ¬ K = 1 := by omega
    unfold encV tailV
    simp only [if_neg hk1, if_pos hK, List.length_cons, List.length_append, bl_len]
    omega
theorem upto_most {l : Vs} (h : ∀ v ∈ l, v.good = true) (k : Nat) : (upto l k).length ≤ 10 + l.length * 2011 := by
  have h1 : ∀ r : Vs, (∀ v ∈ r, v.good = true) → (encsV r).length ≤ r.length * 2011 := by
    intro r
    induction r with
    | nil => intro _; exact Nat.zero_le _
    | cons v r ih =>
      intro hr
      have a := encV_most (hr v (by simp))
      have b := ih (fun x hx => hr x (by simp [hx]))
      have e : encsV (v :: r) = encV v ++ encsV r := rfl
      rw [e, List.length_append, List.length_cons]
      omega
  have h2 := h1 (l.take k) (fun v hv => h v (List.mem_of_mem_take hv))
  have h3 := Num.varB_le l.length
  unfold upto
  rw [List.length_append]
  rw [List.length_take] at h2
  omega
theorem var_bs (n : Nat) (hn : n < 18446744073709551616) (w : World) : Calls Tryz.prog 60 #[.int .u64 n] w fun e w' => e = .returned (.string (bs (varB n))) ∧ Below w.heap.size w w' := Num.var_any n hn w
theorem u64_id {n : Nat} (h : n < 18446744073709551616) : IntKind.u64.wrap (n : Int) = (n : Int) := by rw [Num.wrap_u]; omega
theorem fold_n {N : Int} (h : InI N) (w : World) : Calls Tryz.prog 62 #[.int .i64 N] w fun e w' => e = .returned (.int .u64 ((foldI N).toNat : Nat)) ∧ w = w' := by
  have := Num.fold_any N h.1 h.2 w
  rw [← (fold_nat h).1] at this
  exact this
theorem byte_k {K : Int} (h : 0 ≤ K) (h3 : K ≤ 3) : IntKind.u8.wrap K = ((UInt8.ofNat K.toNat).toNat : Int) := by
  rw [byte_nat h h3]
  unfold IntKind.wrap
  simp [IntKind.bits, IntKind.signed]
  omega
theorem V.four {v : V} (h : v.good = true) : v = ⟨0, 0, bs []⟩ ∨ (∃ N, v = ⟨1, N, bs []⟩) ∨ (∃ S, S.size ≤ 2000 ∧ v = ⟨2, 0, S⟩) ∨ (∃ S, S.size ≤ 2000 ∧ v = ⟨3, 0, S⟩) := by
  rcases V.good_ways h with e | e | ⟨hK, e, hS⟩
  · exact Or.inl e
  · exact Or.inr (Or.inl ⟨_, e⟩)
  · rcases hK with hK | hK
    · rw [hK] at e; exact Or.inr (Or.inr (Or.inl ⟨_, hS, e⟩))
    · rw [hK] at e; exact Or.inr (Or.inr (Or.inr ⟨_, hS, e⟩))
theorem enc_0 : encV ⟨0, 0, bs []⟩ = [0] := rfl
theorem enc_1 (N : Int) : encV ⟨1, N, bs []⟩ = [1] ++ varB (foldI N).toNat := rfl
theorem enc_2 (S : ByteArray) : encV ⟨2, 0, S⟩ = [2] ++ (varB S.size ++ bl S) := rfl
theorem enc_3 (S : ByteArray) : encV ⟨3, 0, S⟩ = [3] ++ (varB S.size ++ bl S) := rfl
theorem fbyte_k (b : Nat) (l : Bs) (x : UInt8) (K : Int) (hK : (x.toNat : Int) = K) (w : World) (h : FB b l w) (hlen : l.length + 1 ≤ 140737488355328) (hb : b ≤ w.heap.size) :
    Calls Tryz.prog 61 #[.pointer (some ⟨b, 0, none⟩), .int .u8 K] w fun e w' => e = .returned .nilIface ∧ FB b (l ++ [x]) w' ∧ Below b w w' ∧ Lib.OthersKept tU8 (some b) w w' := by
  subst hK
  exact fbyte_any b l x w h hlen hb
theorem fstrS_any (b : Nat) (l : Bs) (S : ByteArray) (w : World) (h : FB b l w) (hlen : l.length + S.size ≤ 140737488355328) (hb : b ≤ w.heap.size) :
    Calls Tryz.prog 59 #[.pointer (some ⟨b, 0, none⟩), .string S] w fun e w' => e = .returned (.tuple #[.int .i64 S.size, .nilIface]) ∧ FB b (l ++ bl S) w' ∧ Below b w w' ∧ Lib.OthersKept tU8 (some b) w w' :=
  fstr_any b l (bl S) w h (by rw [bl_len]; exact hlen) hb
set_option maxRecDepth 100000 in
set_option maxHeartbeats 4000000 in
theorem encode_any (x : Value) (l : Vs) (w : World) (h : RowAt w x l) (hw : Wide l) :
    Calls Tryz.prog 25 #[x] w fun e w' => e = .returned (eV (encR l)) ∧ Below w.heap.size w w' := by
  have G := hid (good_any x l)
  have H := hid h
  have HW := hid hw
  obtain ⟨ao, cap, rfl, -, hat⟩ := h.ways
  have HAT := hid hat
  clear h hat hw
  unfold eV
  cases hg : goodR l with
  | false =>
    rw [encR_no hg]
    rw [hg] at G
    go_enter Tryz.func25, Tryz.ntmps25
    go_wp2_with fail
    refine (G.out _ H.out).mono ?_
    rintro e w3 ⟨rfl, hb3⟩
    have B3 := hid hb3
    clear hb3
    go_wp2
    go_ret2
    exact ⟨rfl, B3.out⟩
  | true =>
    rw [encR_yes hg]
    rw [hg] at G
    have hl := few hg
    have HG := hid (goods hg)
    have HM := hid (fun k => upto_most (l := l) (fun v hv => ((goodR_iff l).1 hg).2 v hv) k)
    clear hg
    have hlu : IntKind.u64.wrap (l.length : Int) = ((l.length : Nat) : Int) := u64_id (by omega)
    go_enter Tryz.func25, Tryz.ntmps25
    go_wp2_with fail
    refine (G.out _ H.out).mono ?_
    rintro e w3 ⟨rfl, hb3⟩
    have hsz3 := hb3.size
    have F0 := hid (FB.fresh w3)
    have B4 := hid ((hb3.trans (((Below.refl w.heap.size w3).alloc hsz3 (.cells #[.pointer none, .slice none 0 0] tBld)))))
    clear hb3
    go_wp2_with fail
    refine (var_bs l.length (by omega) _).mono ?_
    rintro e w5 ⟨rfl, hb5⟩
    have B5 := hid (B4.out.trans (hb5.mono B4.out.size))
    have F5 := hid (F0.out.on hb5)
    have hl5 : w3.heap.size < w5.heap.size := by have := hb5.size; simp at this; omega
    have hvm := Num.varB_le l.length
    clear hb5
    go_wp2_with fail
    refine (fstr_any w3.heap.size [] (varB l.length) _ F5.out (by show 0 + _ ≤ _; omega) (by omega)).mono ?_
    rintro e w6 ⟨rfl, hf6, hb6, -⟩
    have HF6 : Hid (FB w3.heap.size (upto l 0) w6) := hid (by unfold upto; rw [List.take_zero]; simpa [encsV] using hf6)
    have B6 := hid (B5.out.trans (hb6.mono hsz3))
    have hl6 := hb6.size
    have hl7 : w3.heap.size < w6.heap.size := by omega
    clear hf6 hb6 hvm
    go_wp2
    go_loopw [17] (fun i wr => ∃ k : Nat, k ≤ l.length ∧ i = .int .i64 k ∧ Hid (FB w3.heap.size (upto l k) wr) ∧ Below w.heap.size w wr ∧ w3.heap.size < wr.heap.size) (fun i _ => l.length - (intOf i).toNat)
    case atStart => exact ⟨0, Nat.zero_le _, rfl, HF6, B6.out, hl7⟩
    case round =>
      obtain ⟨k, hk, rfl, HF, hb, hlr⟩ := hrel
      have HB := hid hb
      have hszr := hb.size
      clear hb
      have hum : (upto l k).length ≤ 100000 := by have := HM.out k; omega
      by_cases hlt : k < l.length
      · obtain ⟨b, o, rfl, hbl, x0, x1, x2⟩ := HAT.out k hlt
        have y0 := (HB.out.cell (p := ⟨b, o + k * 3, none⟩) hbl).trans x0
        have y1 := (HB.out.cell (p := ⟨b, o + k * 3 + 1, none⟩) hbl).trans x1
        have y2 := (HB.out.cell (p := ⟨b, o + k * 3 + 2, none⟩) hbl).trans x2
        clear x0 x1 x2
        have hw1 := HW.out l[k] (List.getElem_mem hlt)
        have HN := hid (upto_next hlt)
        have hgk := HG.out k hlt
        generalize l[k] = p at *
        have HB2 := hid (HB.out.alloc hszr (.cells #[.int .i64 p.K, .int .i64 p.N, .string p.S] tV))
        have HF2 := hid (HF.out.on ((Below.refl _ _).alloc (Nat.le_refl _) (.cells #[.int .i64 p.K, .int .i64 p.N, .string p.S] tV)))
        have HX2 := hid (Bx.new p.K p.N p.S wr)
        rcases V.four hgk with rfl | ⟨N, rfl⟩ | ⟨S, hS, rfl⟩ | ⟨S, hS, rfl⟩
        · clear hgk
          rw [enc_0] at HN
          simp only at y0 y1 y2 HB2 HF2 HX2
          go_wp2_with fail
          refine (fbyte_k w3.heap.size _ 0 0 rfl _ HF2.out (by omega) (by simp; omega)).mono ?_
          rintro e w7 ⟨rfl, hf7, hb7, hk7⟩
          have HF7 := hid hf7
          have B7 := hid (HB2.out.trans (hb7.mono hsz3))
          have hl8 : w3.heap.size < w7.heap.size := by have := hb7.size; simp at this; omega
          obtain ⟨c0, c1, c2⟩ := (kept_val hk7 HX2.out (by omega)).cells
          clear hf7 hb7 hk7
          go_wp2
          go_roundw
          case rel => exact ⟨k + 1, by omega, by go_num, hid (by rw [HN.out]; exact HF7.out), B7.out, hl8⟩
          case measure => simp [intOf]; omega
        · clear hgk
          rw [enc_1] at HN
          simp only at y0 y1 y2 HB2 HF2 HX2 hw1
          have hfn := (fold_nat hw1).2
          have HFo := hid (fold_n hw1)
          obtain ⟨q, hq⟩ : ∃ q : Nat, (foldI N).toNat = q := ⟨_, rfl⟩
          rw [hq] at HN hfn HFo
          have hvm := Num.varB_le q
          clear hq hw1
          go_wp2_with fail
          refine (fbyte_k w3.heap.size _ 1 1 rfl _ HF2.out (by omega) (by simp; omega)).mono ?_
          rintro e w7 ⟨rfl, hf7, hb7, hk7⟩
          have HF7 := hid hf7
          have B7 := hid (HB2.out.trans (hb7.mono hsz3))
          have hl8 : w3.heap.size < w7.heap.size := by have := hb7.size; simp at this; omega
          obtain ⟨c0, c1, c2⟩ := (kept_val hk7 HX2.out (by omega)).cells
          clear hf7 hb7 hk7
          go_wp2_with fail
          refine (HFo.out _).mono ?_
          rintro e w8 ⟨rfl, rfl⟩
          go_wp2_with fail
          refine (var_bs q hfn _).mono ?_
          rintro e w8 ⟨rfl, hb8⟩
          have B8 := hid (B7.out.trans (hb8.mono B7.out.size))
          have HF8 := hid (HF7.out.on hb8)
          have hl9 : w3.heap.size < w8.heap.size := by have := hb8.size; omega
          clear hb8 c0 c1 c2
          go_wp2_with fail
          refine (fstr_any w3.heap.size _ (varB q) _ HF8.out (by rw [List.length_append, List.length_singleton]; omega) (by omega)).mono ?_
          rintro e w9 ⟨rfl, hf9, hb9, -⟩
          have HF9 := hid hf9
          have B9 := hid (B8.out.trans (hb9.mono hsz3))
          have hl10 : w3.heap.size < w9.heap.size := by have := hb9.size; omega
          clear hf9 hb9 hfn hvm
          go_wp2
          go_roundw
          case rel => exact ⟨k + 1, by omega, by go_num, hid (by rw [HN.out, ← List.append_assoc]; exact HF9.out), B9.out, hl10⟩
          case measure => simp [intOf]; omega
        · clear hgk
          rw [enc_2] at HN
          simp only at y0 y1 y2 HB2 HF2 HX2
          have hsu : IntKind.u64.wrap (S.size : Int) = ((S.size : Nat) : Int) := u64_id (by omega)
          have hvm := Num.varB_le S.size
          have HS := hid hS
          go_wp2_with fail
          refine (fbyte_k w3.heap.size _ 2 2 rfl _ HF2.out (by omega) (by simp; omega)).mono ?_
          rintro e w7 ⟨rfl, hf7, hb7, hk7⟩
          have HF7 := hid hf7
          have B7 := hid (HB2.out.trans (hb7.mono hsz3))
          have hl8 : w3.heap.size < w7.heap.size := by have := hb7.size; simp at this; omega
          have HX7 := hid (kept_val hk7 HX2.out (by omega))
          obtain ⟨c0, c1, c2⟩ := HX7.out.cells
          clear hf7 hb7 hk7
          go_wp2_with fail
          refine (var_bs S.size (by omega) _).mono ?_
          rintro e w8 ⟨rfl, hb8⟩
          have B8 := hid (B7.out.trans (hb8.mono B7.out.size))
          have HF8 := hid (HF7.out.on hb8)
          have HX8 := hid (HX7.out.on hb8)
          have hl9 : w3.heap.size < w8.heap.size := by have := hb8.size; omega
          clear hb8 c0 c1 c2
          go_wp2_with fail
          refine (fstr_any w3.heap.size _ (varB S.size) _ HF8.out (by rw [List.length_append, List.length_singleton]; omega) (by omega)).mono ?_
          rintro e w9 ⟨rfl, hf9, hb9, hk9⟩
          have HF9 := hid hf9
          have B9 := hid (B8.out.trans (hb9.mono hsz3))
          have hl10 : w3.heap.size < w9.heap.size := by have := hb9.size; omega
          obtain ⟨c0, c1, c2⟩ := (kept_val hk9 HX8.out (by omega)).cells
          clear hf9 hb9 hk9
          go_wp2_with fail
          refine (fstrS_any w3.heap.size _ S _ HF9.out (by rw [List.length_append, List.length_append, List.length_singleton]; omega) (by omega)).mono ?_
          rintro e w10 ⟨rfl, hf10, hb10, -⟩
          have HF10 := hid hf10
          have B10 := hid (B9.out.trans (hb10.mono hsz3))
          have hl11 : w3.heap.size < w10.heap.size := by have := hb10.size; omega
          clear hf10 hb10 c0 c1 c2 hvm
          go_wp2
          go_roundw
          case rel => exact ⟨k + 1, by omega, by go_num, hid (by rw [HN.out, ← List.append_assoc, ← List.append_assoc]; exact HF10.out), B10.out, hl11⟩
          case measure => simp [intOf]; omega
        · clear hgk
          rw [enc_3] at HN
          simp only at y0 y1 y2 HB2 HF2 HX2
          have hsu : IntKind.u64.wrap (S.size : Int) = ((S.size : Nat) : Int) := u64_id (by omega)
          have hvm := Num.varB_le S.size
          have HS := hid hS
          go_wp2_with fail
          refine (fbyte_k w3.heap.size _ 3 3 rfl _ HF2.out (by omega) (by simp; omega)).mono ?_
          rintro e w7 ⟨rfl, hf7, hb7, hk7⟩
          have HF7 := hid hf7
          have B7 := hid (HB2.out.trans (hb7.mono hsz3))
          have hl8 : w3.heap.size < w7.heap.size := by have := hb7.size; simp at this; omega
          have HX7 := hid (kept_val hk7 HX2.out (by omega))
          obtain ⟨c0, c1, c2⟩ := HX7.out.cells
          clear hf7 hb7 hk7
          go_wp2_with fail
          refine (var_bs S.size (by omega) _).mono ?_
          rintro e w8 ⟨rfl, hb8⟩
          have B8 := hid (B7.out.trans (hb8.mono B7.out.size))
          have HF8 := hid (HF7.out.on hb8)
          have HX8 := hid (HX7.out.on hb8)
          have hl9 : w3.heap.size < w8.heap.size := by have := hb8.size; omega
          clear hb8 c0 c1 c2
          go_wp2_with fail
          refine (fstr_any w3.heap.size _ (varB S.size) _ HF8.out (by rw [List.length_append, List.length_singleton]; omega) (by omega)).mono ?_
          rintro e w9 ⟨rfl, hf9, hb9, hk9⟩
          have HF9 := hid hf9
          have B9 := hid (B8.out.trans (hb9.mono hsz3))
          have hl10 : w3.heap.size < w9.heap.size := by have := hb9.size; omega
          obtain ⟨c0, c1, c2⟩ := (kept_val hk9 HX8.out (by omega)).cells
          clear hf9 hb9 hk9
          go_wp2_with fail
          refine (fstrS_any w3.heap.size _ S _ HF9.out (by rw [List.length_append, List.length_append, List.length_singleton]; omega) (by omega)).mono ?_
          rintro e w10 ⟨rfl, hf10, hb10, -⟩
          have HF10 := hid hf10
          have B10 := hid (B9.out.trans (hb10.mono hsz3))
          have hl11 : w3.heap.size < w10.heap.size := by have := hb10.size; omega
          clear hf10 hb10 c0 c1 c2 hvm
          go_wp2
          go_roundw
          case rel => exact ⟨k + 1, by omega, by go_num, hid (by rw [HN.out, ← List.append_assoc, ← List.append_assoc]; exact HF10.out), B10.out, hl11⟩
          case measure => simp [intOf]; omega
      · have HT : Hid (upto l k = encL l) := hid (by unfold upto encL; rw [List.take_of_length_le (by omega)])
        rw [HT.out] at HF
        go_wp2_with fail
        refine (fend_any w3.heap.size _ _ HF.out (by omega)).mono ?_
        rintro e w5 ⟨rfl, hb5⟩
        have B5 := hid (HB.out.trans (hb5.mono hsz3))
        clear hb5
        go_wp2
        go_ret2
        exact ⟨rfl, B5.out⟩
end Ro
end Go.Proofs.YtiellodbkanciaaGreatDoor
