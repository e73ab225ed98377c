/-
  Contract of the project's Decode.
-/
import Derived.Test.YtiellodbkanciaaGreatDoorRowVal
import Derived.Lib.BufferRead
import Derived.RegionTactic
namespace Go.Proofs.YtiellodbkanciaaGreatDoor
open Go.RowKit
namespace Ro
open Va
open Num (hid unvL)
theorem infoV : (Tryz.prog.info? tV).map (fun i => (i.zero, i.size, i.bytes)) = some (some (.agg #[.int .i64 0, .int .i64 0, .string ⟨#[]⟩]), 3, 32) := by kernel_rfl
/-- 'out = append(out, v)', v one value in a new block. -/
theorem wpList_append_val {w w0 : World} {ops : Array Oper} {rest : List Oper} {o : Oper} {a : Act} {Q : Exit → Act → World → Prop} (hgd : o.guard = none) (s x : Operand)
    (ho : o.op = .call { callee := .builtin .append, args := #[s, x], argTypes := #[tR, tR] })
    (base : Nat) (d : Value) (l : Vs) (hs : a.eval s = d) (hown : OwnR w base d l) (hbel : Below base w0 w) (hbase : base ≤ w.heap.size)
    (g : Nat) (v : V) (hx : a.eval x = .slice (some ⟨g, 0, none⟩) 1 1) (hcell : At3 w g 0 v) (hlen : l.length ≤ 1000)
    (h : ∀ d' w', OwnR w' base d' (l ++ [v]) → Below base w0 w' → wpList Tryz.prog ops Q rest (a.put o.dst d') w') : wpList Tryz.prog ops Q (o :: rest) a w := by
  obtain ⟨i, hi, h0, h1, h2⟩ := info_parts infoV
  refine wpList_append_own w hgd s x tR ho base tV i (.agg #[.int .i64 0, .int .i64 0, .string ⟨#[]⟩]) 3 32 Tryz.underlying41 hi h0 h1 h2 rfl (by decide) d l.length (vcells l) hs hown ⟨g, 0, none⟩ 1 1 (vcells [v]) hx rfl ?_ ?_ ?_ ?_ hbase ?_
  · intro j u hj
    obtain ⟨c0, c1, c2⟩ := hcell
    match j, hj with
    | 0, hj => simp [vcells] at hj; subst hj; simpa [Addr.add] using c0
    | 1, hj => simp [vcells] at hj; subst hj; simpa [Addr.add] using c1
    | 2, hj => simp [vcells] at hj; subst hj; simpa [Addr.add] using c2
  · intro u hu
    simp [vcells] at hu
    rcases hu with rfl | rfl | rfl <;> rfl
  · unfold maxLen; omega
  · omega
  · intro d' w' ho' hg' _
    refine h d' w' ?_ (hbel.grown hg' hbase (fun k hk => (hown.lt k hk).1))
    unfold OwnR
    rw [vcells_append, List.length_append]
    exact ho'
theorem OwnR.one {b base : Nat} {d : Value} {l : Vs} {w w' : World} (h : OwnR w base d l) (ho : One b w w') (hb : b < base) : OwnR w' base d l := by
  obtain ⟨h1, h2⟩ := h
  refine ⟨h1, ?_⟩
  rcases h2 with h2 | ⟨g, cap, cur, e1, e2, e3, e4⟩
  · exact Or.inl h2
  · exact Or.inr ⟨g, cap, cur, e1, e2, (ho.block _ (lt_of_block e3) (by omega)).trans e3, e4⟩
theorem OwnR.on {base : Nat} {d : Value} {l : Vs} {w w' : World} (h : OwnR w base d l) (hb : Below w.heap.size w w') : OwnR w' base d l := by
  obtain ⟨h1, h2⟩ := h
  refine ⟨h1, ?_⟩
  rcases h2 with h2 | ⟨g, cap, cur, e1, e2, e3, e4⟩
  · exact Or.inl h2
  · exact Or.inr ⟨g, cap, cur, e1, e2, (hb.block _ (lt_of_block e3)).trans e3, e4⟩
theorem OwnR.empty (w : World) (base : Nat) : OwnR w base (.slice none 0 0) [] := World.ownsRow_nil w base tV 3
theorem ds_on_on (d : Ds) (p q : Vs) : (d.on p).on q = d.on (q ++ p) := by cases d <;> simp [Ds.on]
theorem ds_nil (d : Ds) : d.on [] = d := by cases d <;> rfl
/-- Behind j of n rounds. -/
def Rounds (n : Nat) (S0 : Bs) (b base j : Nat) (d : Value) (w : World) : Prop :=
  ∃ (rs : Vs) (S : Bs) (e : Int), rs.length = j ∧ Rd b S e w ∧ OwnR w base d rs ∧
    ((e = 0 ∧ S.length ≤ 281474976710656 ∧ decN n S0 = (decN (n - j) S).on rs) ∨ (e ≠ 0 ∧ decN n S0 = .no e))
theorem Rounds.next {n : Nat} {S0 : Bs} {j : Nat} (hj : j < n) {rs : Vs} {S : Bs} (h : decN n S0 = (decN (n - j) S).on rs) : decN n S0 = ((decV S).on (decN (n - (j + 1)))).on rs := by
  rw [h]
  obtain ⟨m, hm⟩ : ∃ m, n - j = m + 1 := ⟨n - j - 1, by omega⟩
  have hm2 : n - (j + 1) = m := by omega
  rw [hm, hm2]
  rfl
theorem decV_len {S T : Bs} {v : V} (h : decV S = .ok v T) : T.length ≤ S.length := by
  obtain ⟨_, _, h3⟩ := decV_back S v T h
  rw [h3, List.length_append]
  omega
/-- One round: value and append. -/
theorem rounds_step {n : Nat} {S0 : Bs} {b base j : Nat} (hj : j < n) {d : Value} {w : World} (h : Rounds n S0 b base j d w) (hb : b < base) :
    Calls Tryz.prog 78 #[ptr b] w fun e w' => ∃ (v : V) (rs : Vs) (S : Bs) (q : Int), e = .returned (.agg #[.int .i64 v.K, .int .i64 v.N, .string v.S]) ∧ rs.length = j ∧ OwnR w' base d rs ∧ Rd b S q w' ∧ One b w w' ∧
      ((q = 0 ∧ S.length ≤ 281474976710656 ∧ decN n S0 = (decN (n - (j + 1)) S).on (rs ++ [v])) ∨ (q ≠ 0 ∧ decN n S0 = .no q)) := by
  obtain ⟨rs, S, e0, h1, h2, h4, h5⟩ := h
  rcases h5 with ⟨rfl, h3, h5⟩ | ⟨h5, h6⟩
  · have h7 := Rounds.next hj h5
    refine (value_live b S h3 w h2).mono ?_
    rintro e w' ⟨v, rfl, hm, ho⟩
    cases hd : decV S with
    | ok v' T =>
      rw [hd] at hm h7
      obtain ⟨rfl, hr⟩ := hm
      refine ⟨v, rs, T, 0, rfl, h1, h4.one ho hb, hr, ho, Or.inl ⟨rfl, Nat.le_trans (decV_len hd) h3, ?_⟩⟩
      rw [h7]
      show ((decN (n - (j + 1)) T).on [v]).on rs = _
      rw [ds_on_on]
    | no q =>
      rw [hd] at hm h7
      obtain ⟨hq, T, hr⟩ := hm
      exact ⟨v, rs, T, q, rfl, h1, h4.one ho hb, hr, ho, Or.inr ⟨hq, h7⟩⟩
  · refine (value_dead b S e0 h5 w h2).mono ?_
    rintro e w' ⟨rfl, hr, ho⟩
    exact ⟨⟨0, 0, bs []⟩, rs, S, e0, rfl, h1, h4.one ho hb, hr, ho, Or.inr ⟨h5, h6⟩⟩
theorem decR_up (S : Bs) : decR S = if (upT S 16).e ≠ 0 then ⟨[], (upT S 16).e⟩ else (decN (upT S 16).v (upT S 16).s).fin := by
  unfold decR upT
  by_cases h1 : (unvL 0 0 S).2.2 = 0
  · have h1' : ¬ (unvL 0 0 S).2.2 ≠ 0 := by simpa using h1
    rw [if_neg h1', if_neg h1']
    by_cases h2 : 16 < (unvL 0 0 S).1
    · rw [if_pos h2, if_pos h2]
      rfl
    · rw [if_neg h2, if_neg h2]
      rfl
  · have h1' : (unvL 0 0 S).2.2 ≠ 0 := h1
    rw [if_pos h1', if_pos h1']
    exact (if_pos h1').symm
theorem upT_most (S : Bs) (m : Nat) : (upT S m).v ≤ m ∧ ((upT S m).e ≠ 0 → (upT S m).v = 0) := by
  unfold upT
  split
  · exact ⟨Nat.zero_le _, fun _ => rfl⟩
  · split
    · exact ⟨Nat.zero_le _, fun _ => rfl⟩
    · rename_i h; exact ⟨by show (unvL 0 0 S).1 ≤ m; omega, fun h => absurd rfl h⟩
/-- What Decode answers. -/
def DecGives (x : Rr) (w w' : World) (e : Ending) : Prop := (∃ d, e = .returned (.tuple #[d, .int .i64 x.e]) ∧ RowAt w' d x.r) ∧ Below w.heap.size w w'
set_option maxRecDepth 100000 in
set_option maxHeartbeats 2000000 in
theorem decode_dead (S T : Bs) (q : Int) (hq : q ≠ 0) (w : World) (hup : Calls Tryz.prog 77 #[ptr w.heap.size, .int .u64 16] (w.alloc (.cells #[.string (bs S), .int .i64 0] tRd)) fun e w' => e = .returned (.int .i64 0) ∧ Rd w.heap.size T q w' ∧ One w.heap.size (w.alloc (.cells #[.string (bs S), .int .i64 0] tRd)) w') :
    Calls Tryz.prog 35 #[.string (bs S)] w fun e w' => DecGives ⟨[], q⟩ w w' e := by
  have HUP := hid hup
  have O0 := hid ((One.refl w.heap.size w).alloc (.cells #[.string (bs S), .int .i64 0] tRd))
  have hne : (q == 0) = false := by simpa using hq
  have HQ := hid hq
  clear hup hq
  go_enter Tryz.func35, Tryz.ntmps35
  go_wp2_with fail
  refine HUP.out.mono ?_
  rintro e w1 ⟨rfl, hr, ho⟩
  have HR := hid hr
  have HO := hid (O0.out.trans ho)
  clear hr ho
  go_wp2
  go_loopw [4, 9] (fun d i wr => d = .slice none 0 0 ∧ i = .int .i64 0 ∧ wr = w1) (fun _ _ _ => 0)
  case atStart => exact ⟨rfl, rfl, rfl⟩
  case round =>
    obtain ⟨rfl, rfl, rfl⟩ := hrel
    obtain ⟨c0, c1⟩ := HR.out.cells
    have hl := HR.out.lt
    have HB := hid (HO.out.below (B := w.heap.size) (Nat.le_refl _) (Nat.le_refl _))
    have HF := hid (fail_dead w.heap.size T q 4 HQ.out _ HR.out)
    generalize hT : bs T = X at *
    cases hX : (X.toList == []) with
    | true =>
      go_wp2
      go_region
      all_goals
        go_wp2
        go_ret2
        exact ⟨⟨_, rfl, RowAt.nil _ _ _⟩, HB.out.drew⟩
    | false =>
      go_wp2_with fail
      refine HF.out.mono ?_
      rintro e w2 ⟨rfl, rfl⟩
      go_wp2
      go_region
      all_goals
        go_wp2
        go_ret2
        exact ⟨⟨_, rfl, RowAt.nil _ _ _⟩, HB.out.drew⟩
theorem One.then_below {b : Nat} {w w3 w4 : World} (h : One b w w3) (k : Below w.heap.size w3 w4) : One b w w4 :=
  ⟨k.os.trans h.os, k.tape.trans h.tape, k.output.trans h.output, Nat.le_trans h.size k.size, fun i hi hb => (k.block i hi).trans (h.block i hi hb)⟩
theorem at3_new (v : V) (w : World) : At3 (w.alloc (.cells #[.int .i64 v.K, .int .i64 v.N, .string v.S] tV)) w.heap.size 0 v := by
  obtain ⟨h0, h1, h2⟩ := (Bx.new v.K v.N v.S w).cells
  exact ⟨h0, h1, h2⟩
theorem Ds.fin_nil (r : Vs) : (Ds.ok r []).fin = ⟨r, 0⟩ := rfl
theorem Ds.fin_more (r : Vs) {t : Bs} (h : t ≠ []) : (Ds.ok r t).fin = ⟨[], 4⟩ := by
  match t, h with
  | _ :: _, _ => rfl
theorem str_nil {S : Bs} (h : S = []) : ((bs S).toList == []) = true := by subst h; rw [ByteArray.toList_eq]; rfl
theorem str_more {S : Bs} (h : S ≠ []) : ((bs S).toList == []) = false := by
  rw [beq_eq_false_iff_ne, ByteArray.toList_eq]
  exact h
set_option maxRecDepth 100000 in
set_option maxHeartbeats 4000000 in
theorem decode_live (S T : Bs) (n : Nat) (hn : n ≤ 16) (hT : T.length ≤ 281474976710656) (w : World) (hup : Calls Tryz.prog 77 #[ptr w.heap.size, .int .u64 16] (w.alloc (.cells #[.string (bs S), .int .i64 0] tRd)) fun e w' => e = .returned (.int .i64 (n : Nat)) ∧ Rd w.heap.size T 0 w' ∧ One w.heap.size (w.alloc (.cells #[.string (bs S), .int .i64 0] tRd)) w') :
    Calls Tryz.prog 35 #[.string (bs S)] w fun e w' => DecGives (decN n T).fin w w' e := by
  have HUP := hid hup
  obtain ⟨x, hx⟩ : ∃ x, (decN n T).fin = x := ⟨_, rfl⟩
  rw [hx]
  have HX := hid hx
  clear hx
  have O0 := hid ((One.refl w.heap.size w).alloc (.cells #[.string (bs S), .int .i64 0] tRd))
  clear hup
  go_enter Tryz.func35, Tryz.ntmps35
  go_wp2_with fail
  refine HUP.out.mono ?_
  rintro e w1 ⟨rfl, hr, ho⟩
  have HR := hid hr
  have HO := hid (O0.out.trans ho)
  have hl1 := hr.lt
  have H0 : Hid (Rounds n T w.heap.size (w.heap.size + 1) 0 (.slice none 0 0) w1) := hid ⟨[], T, 0, rfl, hr, OwnR.empty _ _, Or.inl ⟨rfl, hT, by rw [ds_nil]; rfl⟩⟩
  clear hr ho
  go_wp2
  go_loopw [4, 9] (fun d i wr => ∃ j : Nat, j ≤ n ∧ i = .int .i64 j ∧ Hid (Rounds n T w.heap.size (w.heap.size + 1) j d wr) ∧ Hid (One w.heap.size w wr) ∧ w.heap.size < wr.heap.size) (fun _ i _ => n - (intOf i).toNat)
  case atStart => exact ⟨0, Nat.zero_le _, rfl, H0, HO, hl1⟩
  case round =>
    obtain ⟨j, hj, rfl, HRo, HOr, hlr⟩ := hrel
    by_cases hlt : j < n
    · have hlt' : (j : Int) < n := by omega
      have HS := hid (rounds_step hlt HRo.out (Nat.lt_succ_self _))
      go_wp2_with fail
      refine HS.out.mono ?_
      rintro e w3 ⟨v, rs, S3, q, rfl, hlen, hown, hrd, hone, hd⟩
      have HO3 := hid (HOr.out.trans hone)
      have hl3 : w.heap.size < w3.heap.size := Nat.lt_of_lt_of_le hlr hone.size
      have HD := hid hd
      have HRd := hid (hrd.alloc (.cells #[.int .i64 v.K, .int .i64 v.N, .string v.S] tV))
      have HO4 := hid (HO3.out.alloc (.cells #[.int .i64 v.K, .int .i64 v.N, .string v.S] tV))
      have hownA : OwnR (w3.alloc (.cells #[.int .i64 v.K, .int .i64 v.N, .string v.S] tV)) (w.heap.size + 1) u4 rs := hown.on ((Below.refl _ _).alloc (Nat.le_refl _) _)
      have HOw := hid hownA
      clear hd hrd hone hown hownA
      go_wp2_with (at_builtin; refine wpList_append_val rfl (.tmp 11) (.tmp 13) rfl (w.heap.size + 1) u4 rs rfl HOw.out (Below.refl _ _) (by simp; omega) w3.heap.size v rfl (at3_new v w3) (by omega) ?_)
      intro d' w4 hown' hbel'
      have HOw' := hid hown'
      have HRd' := hid (show Rd w.heap.size S3 q w4 from (hbel'.block _ (Nat.lt_succ_self _)).trans HRd.out)
      have HO5 := hid (HO4.out.then_below (hbel'.mono (Nat.le_succ _)))
      have hl5 : w.heap.size < w4.heap.size := by have := hbel'.size; simp at this; omega
      have HN : Hid (Rounds n T w.heap.size (w.heap.size + 1) (j + 1) d' w4) := hid ⟨rs ++ [v], S3, q, by simp [hlen], HRd'.out, HOw'.out, HD.out⟩
      clear hown' hbel'
      go_wp2
      go_roundw
      case rel => exact ⟨j + 1, by omega, by go_num, HN, HO5, hl5⟩
      case measure => simp [intOf]; omega
    · have hjn : j = n := by omega
      subst hjn
      obtain ⟨rs, S3, q, hlen, hrd, hown, hd⟩ := HRo.out
      have HB := hid (HOr.out.below (B := w.heap.size) (Nat.le_refl _) (Nat.le_refl _))
      obtain ⟨c0, c1⟩ := hrd.cells
      have HRow := hid (OwnR.row hown (by unfold maxLen; omega))
      have hlt' : ¬ (j : Int) < j := by omega
      have hsz0 := bs_size S3
      rcases hd with ⟨rfl, hS3, hd⟩ | ⟨hq, hd⟩
      · have hd' : decN j T = .ok rs S3 := by
          rw [hd, Nat.sub_self]
          show Ds.ok (rs ++ []) S3 = _
          rw [List.append_nil]
        have hx := HX.out
        rw [hd'] at hx
        by_cases h0 : S3 = []
        · have hX := str_nil h0
          rw [h0, Ds.fin_nil] at hx
          subst hx
          rw [h0] at c0 hX
          have c0' : wr.cell? ⟨w.heap.size, 0, none⟩ = some (.string ⟨#[]⟩) := c0
          clear hd hd' hrd hown hX c0 h0
          go_wp2
          go_ret2
          exact ⟨⟨_, rfl, HRow.out⟩, HB.out⟩
        · have hX := str_more h0
          rw [Ds.fin_more rs h0] at hx
          subst hx
          have HF := hid (fail_live w.heap.size S3 4 _ hrd)
          clear hd hd' hrd hown
          generalize bs S3 = X at *
          go_wp2_with fail
          refine HF.out.mono ?_
          rintro e w2 ⟨rfl, hr2, ho2⟩
          obtain ⟨d0, d1⟩ := hr2.cells
          have hl2 := hr2.lt
          have HB2 := hid (HB.out.trans (ho2.below (B := w.heap.size) (Nat.le_refl _) (by omega)))
          clear hr2 ho2 c0 c1
          go_wp2
          go_region
          all_goals
            go_wp2
            go_ret2
            exact ⟨⟨_, rfl, RowAt.nil _ _ _⟩, HB2.out.drew⟩
      · have hx := HX.out
        rw [hd] at hx
        have hx' : (⟨[], q⟩ : Rr) = x := hx
        subst hx'
        have hne : (q == 0) = false := by simpa using hq
        have HF := hid (fail_dead w.heap.size S3 q 4 hq _ hrd)
        clear hd hrd hown
        cases hX : ((bs S3).toList == []) with
        | true =>
          generalize bs S3 = X at *
          go_wp2
          go_region
          all_goals
            go_wp2
            go_ret2
            exact ⟨⟨_, rfl, RowAt.nil _ _ _⟩, HB.out.drew⟩
        | false =>
          generalize bs S3 = X at *
          go_wp2_with fail
          refine HF.out.mono ?_
          rintro e w2 ⟨rfl, rfl⟩
          go_wp2
          go_region
          all_goals
            go_wp2
            go_ret2
            exact ⟨⟨_, rfl, RowAt.nil _ _ _⟩, HB.out.drew⟩
theorem decode_any (S : ByteArray) (hs : S.size ≤ 281474976710656) (w : World) : Calls Tryz.prog 35 #[.string S] w fun e w' => DecGives (decR (bl S)) w w' e := by
  have hl : (bl S).length ≤ 281474976710656 := by rw [bl_len]; exact hs
  have hup := upto_live w.heap.size 16 (by decide) (bl S) hl _ (Rd.new (bl S) 0 w)
  have hlen := upT_len (bl S) 16
  obtain ⟨hm, h0⟩ := upT_most (bl S) 16
  rw [decR_up]
  generalize upT (bl S) 16 = u at *
  obtain ⟨n, T, q⟩ := u
  simp only at hup hlen hm h0 ⊢
  by_cases hq : q = 0
  · subst hq
    rw [if_neg (by simp)]
    exact decode_live (bl S) T n hm (by omega) w hup
  · rw [if_pos hq]
    rw [h0 hq] at hup
    exact decode_dead (bl S) T q hq w hup
end Ro
end Go.Proofs.YtiellodbkanciaaGreatDoor
