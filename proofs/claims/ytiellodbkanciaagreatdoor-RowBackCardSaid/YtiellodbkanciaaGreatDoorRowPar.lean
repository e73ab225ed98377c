/-
  Contract of the project's Parse.
-/
import Derived.Test.YtiellodbkanciaaGreatDoorRowPass
import Derived.Test.YtiellodbkanciaaGreatDoorRowDec
import Derived.Test.YtiellodbkanciaaGreatDoorGrpRowA
namespace Go.Proofs.YtiellodbkanciaaGreatDoor
open Go.RowKit
namespace Ro
open Va
open Num (hid)
/-- At the loop's head: what follows j values. -/
def headP (j : Nat) (S : Bs) : Ps := if [41].isPrefixOf S then .ok [] 1 else if j = 0 then parN 16 S else if sepL.isPrefixOf S then (parN (16 - j) (S.drop 2)).on [] 2 else .no
def PT (s : Bs) : Ps := if [40].isPrefixOf s then headP 0 (s.drop 1) else .no
theorem parR_PT (s : Bs) : parR s = (PT s).fin := by
  unfold parR PT headP
  split
  · split
    · rfl
    · rw [if_pos rfl]
  · rfl
theorem ps_on_on (d : Ps) (p q : Vs) (k m : Nat) : (d.on p k).on q m = d.on (q ++ p) (m + k) := by cases d <;> simp [Ps.on, Nat.add_assoc]
theorem ps_nil (d : Ps) : d.on [] 0 = d := by cases d <;> simp [Ps.on]
theorem parse_err (s : Bs) : (parseL s).e = 0 ∨ (parseL s).e = 4 := by
  rw [parse_eq]
  split
  · exact Or.inl rfl
  · split
    · cases pq 2000 (s.drop 1) with
      | none => exact Or.inr rfl
      | some x => exact Or.inl rfl
    · split
      · cases pq 2000 (s.drop 2) with
        | none => exact Or.inr rfl
        | some x => exact Or.inl rfl
      · cases pintL s with
        | none => exact Or.inr rfl
        | some x => exact Or.inl rfl
theorem head_end {j : Nat} {S : Bs} (h : [41].isPrefixOf S = true) : headP j S = .ok [] 1 := if_pos h
theorem head_first {S : Bs} (h : [41].isPrefixOf S = false) : headP 0 S = parN 16 S := by unfold headP; rw [h]; rfl
theorem head_sep {j : Nat} {S : Bs} (h : [41].isPrefixOf S = false) (hj : j ≠ 0) (hs : sepL.isPrefixOf S = true) : headP j S = (parN (16 - j) (S.drop 2)).on [] 2 := by unfold headP; rw [h, if_neg Bool.false_ne_true, if_neg hj, if_pos hs]
theorem head_no {j : Nat} {S : Bs} (h : [41].isPrefixOf S = false) (hj : j ≠ 0) (hs : sepL.isPrefixOf S = false) : headP j S = .no := by unfold headP; rw [h, if_neg Bool.false_ne_true, if_neg hj, hs]; rfl
theorem head_16 {S : Bs} (h : [41].isPrefixOf S = false) : headP 16 S = .no := by
  unfold headP
  rw [h, if_neg Bool.false_ne_true, if_neg (by decide)]
  split <;> rfl
/-- One value more. -/
theorem par_step {j : Nat} (hj : j < 16) (S : Bs) : ((parseL S).e = 0 → parN (16 - j) S = (headP (j + 1) (S.drop (parseL S).n)).on [uOf (parseL S)] (parseL S).n) ∧ ((parseL S).e ≠ 0 → parN (16 - j) S = .no) := by
  obtain ⟨m, hm⟩ : ∃ m, 16 - j = m + 1 := ⟨16 - j - 1, by omega⟩
  have hm2 : 16 - (j + 1) = m := by omega
  rw [hm]
  constructor
  · intro h
    unfold parN headP
    rw [if_neg (by simpa using h), if_neg (show ¬ j + 1 = 0 by omega), hm2]
    by_cases h1 : [41].isPrefixOf (S.drop (parseL S).n) = true
    · rw [if_pos h1, if_pos h1]
      rfl
    · rw [if_neg h1, if_neg h1]
      by_cases h2 : sepL.isPrefixOf (S.drop (parseL S).n) = true
      · rw [if_pos h2, if_pos h2, ps_on_on]
        rfl
      · rw [if_neg h2, if_neg h2]
        rfl
  · intro h
    unfold parN
    rw [if_pos h]
/-- The reader at the loop's head, behind rs. -/
def PAt (s : Bs) (rs : Vs) (S : Bs) (q : Int) : Prop := (q = 0 ∧ rs.length ≤ 16 ∧ ∃ k, k + S.length + 1 = s.length ∧ PT s = (headP rs.length S).on rs k) ∨ (q = 4 ∧ PT s = .no)
theorem PAt.val {s : Bs} {rs : Vs} {S1 : Bs} {k1 : Nat} (hj : rs.length < 16) (hk : k1 + S1.length + 1 = s.length) (h : PT s = (parN (16 - rs.length) S1).on rs k1) : PAt s (rs ++ [uOf (parseL S1)]) (S1.drop (parseL S1).n) (parseL S1).e := by
  obtain ⟨h1, h2⟩ := par_step hj S1
  by_cases he : (parseL S1).e = 0
  · have hn := (parse_back S1 he).2.1
    rw [h1 he, ps_on_on] at h
    refine Or.inl ⟨he, by rw [List.length_append]; exact hj, k1 + (parseL S1).n, by rw [List.length_drop]; omega, ?_⟩
    rw [h, List.length_append]
    rfl
  · rw [h2 he] at h
    refine Or.inr ⟨?_, h⟩
    rcases parse_err S1 with h | h
    · exact absurd h he
    · exact h
def lenOf : Value → Nat | .slice _ n _ => n | _ => 0
theorem OwnR.lenOf {w : World} {base : Nat} {d : Value} {l : Vs} (h : OwnR w base d l) : Ro.lenOf d = l.length := by
  rcases h.2 with ⟨rfl, h0⟩ | ⟨g, cap, cur, rfl, _⟩
  · exact h0.symm
  · rfl
theorem OwnR.shape {w : World} {base : Nat} {d : Value} {l : Vs} (h : OwnR w base d l) : ∃ ao cap, d = .slice ao l.length cap := by
  rcases h.2 with ⟨rfl, h0⟩ | ⟨g, cap, cur, rfl, _⟩
  · exact ⟨Option.none, 0, by rw [h0]⟩
  · exact ⟨_, cap, rfl⟩
/-- What Parse answers. -/
def ParGives (x : Pr) (w w' : World) (e : Ending) : Prop := (∃ d, e = .returned (.tuple #[d, .int .i64 x.n, .int .i64 x.e]) ∧ RowAt w' d x.r) ∧ Below w.heap.size w w'
set_option maxRecDepth 100000 in
set_option maxHeartbeats 1000000 in
theorem shown_dead (b : Nat) (S : Bs) (q : Int) (hq : q ≠ 0) (w : World) (h : Rd b S q w) :
    Calls Tryz.prog 84 #[ptr b] w fun e w' => e = .returned (valR 0 0 (bs [])) ∧ Rd b S q w' ∧ One b w w' := by
  have hbl := h.lt
  have hne : (q == 0) = false := by simpa using hq
  obtain ⟨c0, c1⟩ := h.cells
  have HR := hid (h.alloc (.cells #[.int .i64 0, .int .i64 0, .string ⟨#[]⟩] tV))
  have HO := hid ((One.refl b w).alloc (.cells #[.int .i64 0, .int .i64 0, .string ⟨#[]⟩] tV))
  clear h
  go_enter Tryz.func84, Tryz.ntmps84
  go_wp2
  exact bodyPost_ret (v := valR 0 0 (bs [])) (by simp [results, valR, bs, go_sem]) rfl ⟨rfl, by first | exact HR.out | (repeat (first | exact HR.out | refine Rd.other ?_ (by omega) _ _)), by first | exact HO.out | (repeat (first | exact HO.out | refine One.high ?_ (Nat.le_refl _) _ _))⟩
/-- The reader behind a value, in plain words: what is appended, what is left. -/
def Shown (s : Bs) (b : Nat) (rs : Vs) (w w' : World) (e : Ending) : Prop := ∃ (v : V) (S : Bs) (q : Int), e = .returned (.agg #[.int .i64 v.K, .int .i64 v.N, .string v.S]) ∧ Rd b S q w' ∧ One b w w' ∧ PAt s (rs ++ [v]) S q
theorem shown_val {s : Bs} {b : Nat} {rs : Vs} {S1 : Bs} {k1 : Nat} {w : World} (hj : rs.length < 16) (hk : k1 + S1.length + 1 = s.length) (hs : s.length ≤ 281474976710656) (h : PT s = (parN (16 - rs.length) S1).on rs k1) (hr : Rd b S1 0 w) (g : Glob w) :
    Calls Tryz.prog 84 #[ptr b] w fun e w' => Shown s b rs w w' e := by
  refine (shown_live b S1 (by unfold maxLen; omega) w hr g).mono ?_
  rintro e w' ⟨rfl, hr', ho⟩
  exact ⟨uOf (parseL S1), _, _, rfl, hr', ho, PAt.val hj hk h⟩
theorem shown_no {s : Bs} {b : Nat} {rs : Vs} {S1 : Bs} {w : World} (h : PT s = .no) (hr : Rd b S1 4 w) :
    Calls Tryz.prog 84 #[ptr b] w fun e w' => Shown s b rs w w' e := by
  refine (shown_dead b S1 4 (by decide) w hr).mono ?_
  rintro e w' ⟨rfl, hr', ho⟩
  exact ⟨⟨0, 0, bs []⟩, S1, 4, rfl, hr', ho, Or.inr ⟨rfl, h⟩⟩
def ParAt (s : Bs) (w : World) (d : Value) (wr : World) : Prop := ∃ (rs : Vs) (S : Bs) (q : Int), OwnR wr (w.heap.size + 1) d rs ∧ Rd w.heap.size S q wr ∧ One w.heap.size w wr ∧ rs.length ≤ 17 ∧ PAt s rs S q
set_option maxRecDepth 100000 in
set_option maxHeartbeats 8000000 in
theorem parse_bs (s : Bs) (hs : s.length ≤ 281474976710656) (w : World) (g : Glob w) : Calls Tryz.prog 37 #[.string (bs s)] w fun e w' => ParGives (parR s) w w' e := by
  obtain ⟨x, hx⟩ : ∃ x, parR s = x := ⟨_, rfl⟩
  rw [hx]
  rw [parR_PT] at hx
  have HX := hid hx
  have Hg := hid g
  have O0 := hid ((One.refl w.heap.size w).alloc (.cells #[.string (bs s), .int .i64 0] tRd))
  have HW : Hid (Calls Tryz.prog 82 #[ptr w.heap.size, .string ⟨#[40]⟩] (w.alloc (.cells #[.string (bs s), .int .i64 0] tRd)) fun e w' => e = .returned (.tuple #[]) ∧ Rd w.heap.size (wordT s [40]).s (wordT s [40]).e w' ∧ One w.heap.size (w.alloc (.cells #[.string (bs s), .int .i64 0] tRd)) w') := hid (word_live w.heap.size s [40] _ (Rd.new s 0 w))
  have HS0 := hid (bs_size s)
  generalize hY : bs s = Y at *
  clear hx g hY
  go_enter Tryz.func37, Tryz.ntmps37
  go_wp2_with fail
  refine HW.out.mono ?_
  rintro e w1 ⟨rfl, hr, ho⟩
  have HP : Hid (ParAt s w (.slice Option.none 0 0) w1) := hid (by
    refine ⟨[], _, _, OwnR.empty _ _, hr, O0.out.trans ho, by simp, ?_⟩
    unfold wordT
    by_cases h4 : [40].isPrefixOf s = true
    · rw [if_pos h4]
      have hl := prefix_len h4
      have hl' : 1 ≤ s.length := hl
      refine Or.inl ⟨rfl, by simp, 0, ?_, ?_⟩
      · show 0 + (s.drop 1).length + 1 = s.length
        rw [List.length_drop]; omega
      · rw [ps_nil]
        exact if_pos h4
    · rw [if_neg h4]
      exact Or.inr ⟨rfl, if_neg h4⟩)
  clear hr ho HW O0
  go_wp2
  go_loopw [5] (fun d wr => Hid (ParAt s w d wr)) (fun d _ => 18 - lenOf d)
  case atStart => exact HP
  case round =>
    obtain ⟨rs, S, q, hown, hrd, hone, hl17, hpat⟩ := hrel.out
    have hlen := hown.lenOf
    obtain ⟨ao, cap, rfl⟩ := hown.shape
    have HOw := hid hown
    have HRd := hid hrd
    have HO := hid hone
    have hbl := hrd.lt
    have HB := hid (hone.below (B := w.heap.size) (Nat.le_refl _) (Nat.le_refl _))
    have hszr := hone.size
    obtain ⟨c0, c1⟩ := hrd.cells
    rcases hpat with ⟨rfl, hl16, k, hk, hpt⟩ | ⟨rfl, hpt⟩
    · have HPT := hid hpt
      cases h41 : [41].isPrefixOf S with
      | true =>
        have HPs : Hid (Calls Tryz.prog 83 #[ptr w.heap.size, .string ⟨#[41]⟩] wr fun e w' => e = .returned (.bool true) ∧ Rd w.heap.size (S.drop 1) 0 w' ∧ One w.heap.size wr w') := hid (passes_yes w.heap.size S [41] h41 wr hrd)
        have hx := HX.out
        rw [hpt, head_end h41] at hx
        have hx' : (⟨rs ++ [], 1 + (k + 1), 0⟩ : Pr) = x := hx
        rw [List.append_nil] at hx'
        have hp1 := prefix_len h41
        have hp1' : 1 ≤ S.length := hp1
        subst hx'
        have HRow := hid (fun w' ho => OwnR.row (OwnR.one (b := w.heap.size) (w' := w') hown ho (Nat.lt_succ_self _)) (by unfold maxLen; omega))
        clear hx hpt hrel hown hrd hone hlen
        go_wp2_with fail
        refine HPs.out.mono ?_
        rintro e w3 ⟨rfl, hr3, ho3⟩
        clear c0 c1
        obtain ⟨c0, c1⟩ := hr3.cells
        have HR3 := hid (HRow.out w3 ho3)
        have hbl3 := hr3.lt
        have HB3 := hid (HB.out.trans (ho3.below (B := w.heap.size) (Nat.le_refl _) hszr))
        have hz3 := bs_size (S.drop 1)
        rw [List.length_drop] at hz3
        obtain ⟨Z, hZ⟩ : ∃ Z, bs (S.drop 1) = Z := ⟨_, rfl⟩
        rw [hZ] at c0 hz3
        have hy := HS0.out
        have hsub : (Y.size : Int) - (Z.size : Int) = ((1 + (k + 1) : Nat) : Int) := by omega
        have HSUB : Hid (wrap64 ((Y.size : Int) - (Z.size : Int)) = ((1 + (k + 1) : Nat) : Int)) := hid (by rw [Num.wrap_i]; omega)
        clear hr3 ho3 hZ hy hz3 hsub
        go_wp2
        go_region
        all_goals
          go_wp2
          go_ret3
          exact ⟨⟨_, by rw [← HSUB.out]; rfl, HR3.out⟩, HB3.out.drew⟩
      | false =>
        have HPs : Hid (Calls Tryz.prog 83 #[ptr w.heap.size, .string ⟨#[41]⟩] wr fun e w' => e = .returned (.bool false) ∧ wr = w') := hid (passes_no w.heap.size S [41] 0 (Or.inr h41) wr hrd)
        by_cases hj0 : rs.length = 0
        · have hpt' : PT s = (parN (16 - rs.length) S).on rs k := by rw [hpt, hj0, head_first h41]
          have HSh := hid (shown_val (by omega) hk hs hpt' hrd (Hg.out.on HB.out))
          have hj0' : ((rs.length : Int) == 0) = true := by rw [beq_iff_eq]; omega
          clear hrel hown hrd hone hpt hpt' hj0 hlen
          go_wp2_with fail
          refine HPs.out.mono ?_
          rintro e w3 ⟨rfl, rfl⟩
          go_wp2_with fail
          refine HSh.out.mono ?_
          rintro e w5 ⟨v, S5, q5, rfl, hr5, ho5, hp5⟩
          have HO5 := hid ((HO.out.trans ho5).alloc (.cells #[.int .i64 v.K, .int .i64 v.N, .string v.S] tV))
          have HRd5 := hid (hr5.alloc (.cells #[.int .i64 v.K, .int .i64 v.N, .string v.S] tV))
          have HOw5 : Hid (OwnR (w5.alloc (.cells #[.int .i64 v.K, .int .i64 v.N, .string v.S] tV)) (w.heap.size + 1) (.slice ao rs.length cap) rs) := hid ((HOw.out.one ho5 (Nat.lt_succ_self _)).on ((Below.refl _ _).alloc (Nat.le_refl _) _))
          have HP5 := hid hp5
          have hl5 := hr5.lt
          clear hr5 ho5 hp5
          go_wp2_with (at_builtin; refine wpList_append_val rfl (.tmp 25) (.tmp 27) rfl (w.heap.size + 1) (.slice ao rs.length cap) rs rfl HOw5.out (Below.refl _ _) (by simp; omega) w5.heap.size v rfl (at3_new v w5) (by omega) ?_)
          intro d' w6 hown' hbel'
          have HN : Hid (ParAt s w d' w6) := hid ⟨rs ++ [v], S5, q5, hown', (hbel'.block _ (Nat.lt_succ_self _)).trans HRd5.out, HO5.out.then_below (hbel'.mono (Nat.le_succ _)), by simp; omega, HP5.out⟩
          have HL : Hid (lenOf d' = rs.length + 1) := hid (by rw [hown'.lenOf]; simp)
          clear hown' hbel'
          go_wp2
          go_roundw
          case rel => exact HN
          case measure =>
            show 18 - lenOf d' < 18 - rs.length
            rw [HL.out]
            omega
        · by_cases hj16 : rs.length = 16
          · have hno : PT s = .no := by rw [hpt, hj16, head_16 h41]; rfl
            have HF := hid (fail_live w.heap.size S 4 wr hrd)
            have hj0' : ((rs.length : Int) == 0) = false := by rw [beq_eq_false_iff_ne]; omega
            have hj16' : ((rs.length : Int) == 16) = true := by rw [beq_iff_eq]; omega
            clear hrel hown hrd hone hpt hj0 hj16 hlen
            go_wp2_with fail
            refine HPs.out.mono ?_
            rintro e w3 ⟨rfl, rfl⟩
            go_wp2_with fail
            refine HF.out.mono ?_
            rintro e w4 ⟨rfl, hr4, ho4⟩
            have HSh := hid (shown_no (rs := rs) hno hr4)
            have HOw := hid (HOw.out.one ho4 (Nat.lt_succ_self _))
            have HO := hid (HO.out.trans ho4)
            clear hr4 ho4 c0 c1 hno
            go_wp2_with fail
            refine HSh.out.mono ?_
            rintro e w5 ⟨v, S5, q5, rfl, hr5, ho5, hp5⟩
            have HO5 := hid ((HO.out.trans ho5).alloc (.cells #[.int .i64 v.K, .int .i64 v.N, .string v.S] tV))
            have HRd5 := hid (hr5.alloc (.cells #[.int .i64 v.K, .int .i64 v.N, .string v.S] tV))
            have HOw5 : Hid (OwnR (w5.alloc (.cells #[.int .i64 v.K, .int .i64 v.N, .string v.S] tV)) (w.heap.size + 1) (.slice ao rs.length cap) rs) := hid ((HOw.out.one ho5 (Nat.lt_succ_self _)).on ((Below.refl _ _).alloc (Nat.le_refl _) _))
            have HP5 := hid hp5
            have hl5 := hr5.lt
            clear hr5 ho5 hp5
            go_wp2_with (at_builtin; refine wpList_append_val rfl (.tmp 25) (.tmp 27) rfl (w.heap.size + 1) (.slice ao rs.length cap) rs rfl HOw5.out (Below.refl _ _) (by simp; omega) w5.heap.size v rfl (at3_new v w5) (by omega) ?_)
            intro d' w6 hown' hbel'
            have HN : Hid (ParAt s w d' w6) := hid ⟨rs ++ [v], S5, q5, hown', (hbel'.block _ (Nat.lt_succ_self _)).trans HRd5.out, HO5.out.then_below (hbel'.mono (Nat.le_succ _)), by simp; omega, HP5.out⟩
            have HL : Hid (lenOf d' = rs.length + 1) := hid (by rw [hown'.lenOf]; simp)
            clear hown' hbel'
            go_wp2
            go_roundw
            case rel => exact HN
            case measure =>
              show 18 - lenOf d' < 18 - rs.length
              rw [HL.out]
              omega
          · have hj0' : ((rs.length : Int) == 0) = false := by rw [beq_eq_false_iff_ne]; omega
            have hj16' : ((rs.length : Int) == 16) = false := by rw [beq_eq_false_iff_ne]; omega
            have HW : Hid (Calls Tryz.prog 82 #[ptr w.heap.size, .string ⟨#[44, 32]⟩] wr fun e w' => e = .returned (.tuple #[]) ∧ Rd w.heap.size (wordT S sepL).s (wordT S sepL).e w' ∧ One w.heap.size wr w') := hid (word_live w.heap.size S sepL wr hrd)
            have HSh : Hid (∀ w4, Rd w.heap.size (wordT S sepL).s (wordT S sepL).e w4 → Glob w4 → Calls Tryz.prog 84 #[ptr w.heap.size] w4 fun e w' => Shown s w.heap.size rs w4 w' e) := hid (by
              intro w4 hr4 g4
              unfold wordT at hr4
              by_cases hsep : sepL.isPrefixOf S = true
              · rw [if_pos hsep] at hr4
                have hl2 := prefix_len hsep
                have hl2' : 2 ≤ S.length := hl2
                rw [head_sep h41 hj0 hsep, ps_on_on, List.append_nil] at hpt
                exact shown_val (by omega) (k1 := k + 2) (by show k + 2 + (S.drop 2).length + 1 = s.length; rw [List.length_drop]; omega) hs hpt hr4 g4
              · rw [if_neg hsep] at hr4
                have hsep' : sepL.isPrefixOf S = false := Bool.eq_false_iff.2 hsep
                rw [head_no h41 hj0 hsep'] at hpt
                exact shown_no hpt hr4)
            clear hrel hown hrd hone hpt hj0 hj16 hlen
            go_wp2_with fail
            refine HPs.out.mono ?_
            rintro e w3 ⟨rfl, rfl⟩
            go_wp2_with fail
            refine HW.out.mono ?_
            rintro e w4 ⟨rfl, hr4, ho4⟩
            have hb4 := ho4.below (B := w.heap.size) (Nat.le_refl _) hszr
            have HSh := hid (HSh.out w4 hr4 (Hg.out.on (HB.out.trans hb4)))
            have HOw := hid (HOw.out.one ho4 (Nat.lt_succ_self _))
            have HO := hid (HO.out.trans ho4)
            clear hr4 ho4 hb4 c0 c1
            go_wp2_with fail
            refine HSh.out.mono ?_
            rintro e w5 ⟨v, S5, q5, rfl, hr5, ho5, hp5⟩
            have HO5 := hid ((HO.out.trans ho5).alloc (.cells #[.int .i64 v.K, .int .i64 v.N, .string v.S] tV))
            have HRd5 := hid (hr5.alloc (.cells #[.int .i64 v.K, .int .i64 v.N, .string v.S] tV))
            have HOw5 : Hid (OwnR (w5.alloc (.cells #[.int .i64 v.K, .int .i64 v.N, .string v.S] tV)) (w.heap.size + 1) (.slice ao rs.length cap) rs) := hid ((HOw.out.one ho5 (Nat.lt_succ_self _)).on ((Below.refl _ _).alloc (Nat.le_refl _) _))
            have HP5 := hid hp5
            have hl5 := hr5.lt
            clear hr5 ho5 hp5
            go_wp2_with (at_builtin; refine wpList_append_val rfl (.tmp 25) (.tmp 27) rfl (w.heap.size + 1) (.slice ao rs.length cap) rs rfl HOw5.out (Below.refl _ _) (by simp; omega) w5.heap.size v rfl (at3_new v w5) (by omega) ?_)
            intro d' w6 hown' hbel'
            have HN : Hid (ParAt s w d' w6) := hid ⟨rs ++ [v], S5, q5, hown', (hbel'.block _ (Nat.lt_succ_self _)).trans HRd5.out, HO5.out.then_below (hbel'.mono (Nat.le_succ _)), by simp; omega, HP5.out⟩
            have HL : Hid (lenOf d' = rs.length + 1) := hid (by rw [hown'.lenOf]; simp)
            clear hown' hbel'
            go_wp2
            go_roundw
            case rel => exact HN
            case measure =>
              show 18 - lenOf d' < 18 - rs.length
              rw [HL.out]
              omega
    · have hx := HX.out
      rw [hpt] at hx
      have hx' : (⟨[], 0, 4⟩ : Pr) = x := hx
      subst hx'
      clear hx hpt hrel hown hrd hone
      go_wp2
      go_region
      all_goals
        go_wp2
        go_ret3
        exact ⟨⟨_, rfl, RowAt.nil _ _ _⟩, HB.out.drew⟩
end Ro
end Go.Proofs.YtiellodbkanciaaGreatDoor
