/-
  Contracts of the reference's Parse, of Same and of the statements' total.
-/
import Derived.Test.YtiellodbkanciaaGreatDoorRowPar
import Derived.Test.YtiellodbkanciaaGreatDoorRowRefDec
import Derived.Test.YtiellodbkanciaaGreatDoorValRefParse
namespace Go.Proofs.YtiellodbkanciaaGreatDoor
open Go.RowKit
namespace Ro
open Va
open Num (hid)
theorem one_pre {c : UInt8} {l : Bs} (h : [c].isPrefixOf l = true) : ∃ t, l = c :: t := by
  match l, h with
  | d :: t, h => simp [List.isPrefixOf] at h; exact ⟨t, by rw [h]⟩
/-- The byte at a place and a prefix of one byte there. -/
theorem pre_at {s : ByteArray} {p : Nat} (hp : p < s.size) (c : UInt8) : [c].isPrefixOf ((bl s).drop p) = ((s[p].toNat : Int) == (c.toNat : Int)) := by
  rw [rest_cons hp, Bool.eq_iff_iff]
  simp only [List.isPrefixOf, Bool.and_true, beq_iff_eq]
  constructor
  · intro h; rw [← h]
  · intro h; exact (UInt8.toNat_inj.1 (by omega)).symm
theorem pre_end {s : ByteArray} {p : Nat} (hp : s.size ≤ p) (c : UInt8) : [c].isPrefixOf ((bl s).drop p) = false := by
  rw [List.drop_of_length_le (by rw [bl_len]; exact hp)]
  rfl
theorem pre_two {s : ByteArray} {p : Nat} (_ : p + 2 ≤ s.size) : sepL.isPrefixOf ((bl s).drop p) = ((s.extract p (p + 2)).toList == [44, 32]) := by
  have e : (s.extract p (p + 2)).toList = ((bl s).drop p).take 2 := by
    rw [ByteArray.toList_eq, ex_mid]
    rfl
  rw [e, Bool.eq_iff_iff, List.isPrefixOf_iff_prefix, List.prefix_iff_eq_take, beq_iff_eq]
  show ([44, 32] : Bs) = List.take 2 _ ↔ _
  exact eq_comm
theorem pre_two_end {s : ByteArray} {p : Nat} (hp : s.size < p + 2) : sepL.isPrefixOf ((bl s).drop p) = false := by
  cases h : sepL.isPrefixOf ((bl s).drop p) with
  | false => rfl
  | true =>
    have := prefix_len h
    rw [List.length_drop, bl_len] at this
    have h2 : sepL.length = 2 := rfl
    omega
/-- At a value's beginning, behind rs. -/
def QAt (s : ByteArray) (rs : Vs) (p : Nat) : Prop := 1 ≤ p ∧ p ≤ s.size ∧ rs.length ≤ 16 ∧ PT (bl s) = (parN (16 - rs.length) ((bl s).drop p)).on rs (p - 1)
theorem rparse_b (s : ByteArray) (p : Nat) (hs : s.size ≤ 140737488355328) (w : World) : Calls Tryz.prog 85 #[.string (s.extract p s.size)] w fun e w' => e = .returned (uV (parseL ((bl s).drop p))) ∧ Below w.heap.size w w' := by
  have h := Va.rparse_any (s.extract p s.size) (by rw [ByteArray.size_extract]; omega) w
  rw [show bl (s.extract p s.size) = (bl s).drop p from rest_list s p] at h
  exact h
theorem PT_none {s : Bs} (h : PT s = .no) : parR s = ⟨[], 0, 4⟩ := by rw [parR_PT, h]; rfl
theorem PT_short {s : Bs} (h : s.length < 2) : PT s = .no := by
  unfold PT
  split
  · rename_i h1
    obtain ⟨t, rfl⟩ := one_pre h1
    have : t = [] := by
      rw [List.length_cons] at h
      exact List.length_eq_zero_iff.1 (by omega)
    subst this
    rfl
  · rfl
theorem QAt.dead {s : ByteArray} {rs : Vs} {p : Nat} (h : QAt s rs p) (hd : (parseL ((bl s).drop p)).e ≠ 0 ∨ 16 ≤ rs.length) : PT (bl s) = .no := by
  obtain ⟨h1, h2, h3, h4⟩ := h
  rw [h4]
  by_cases hj : rs.length < 16
  · rw [(par_step hj _).2 (by rcases hd with h | h; exact h; omega)]
    rfl
  · have e : 16 - rs.length = 0 := by omega
    rw [e]
    rfl
theorem QAt.live {s : ByteArray} {rs : Vs} {p : Nat} (h : QAt s rs p) (he : (parseL ((bl s).drop p)).e = 0) (hj : rs.length < 16) :
    PT (bl s) = (headP (rs.length + 1) ((bl s).drop (p + (parseL ((bl s).drop p)).n))).on (rs ++ [uOf (parseL ((bl s).drop p))]) (p - 1 + (parseL ((bl s).drop p)).n) := by
  obtain ⟨h1, h2, h3, h4⟩ := h
  rw [h4, (par_step hj _).1 he, ps_on_on, List.drop_drop]
set_option maxRecDepth 100000 in
set_option maxHeartbeats 8000000 in
theorem rparse_any (s : ByteArray) (hs : s.size ≤ 140737488355328) (w : World) : Calls Tryz.prog 38 #[.string s] w fun e w' => ParGives (parR (bl s)) w w' e := by
  by_cases h2 : s.size < 2
  · rw [PT_none (PT_short (by rw [bl_len]; exact h2))]
    have h2' : (s.size : Int) < 2 := by omega
    go_enter Tryz.func38, Tryz.ntmps38
    go_wp2
    go_ret3
    exact ⟨⟨_, rfl, RowAt.nil _ _ _⟩, Below.refl _ _⟩
  · have h2' : ¬ (s.size : Int) < 2 := by omega
    have hp0 : 0 < s.size := by omega
    have hp1 : 1 < s.size := by omega
    have e40 := pre_at hp0 40
    rw [List.drop_zero] at e40
    cases h40 : [40].isPrefixOf (bl s) with
    | false =>
      have hno : PT (bl s) = .no := by unfold PT; rw [h40]; rfl
      rw [PT_none hno]
      rw [h40] at e40
      have e40' : ((s[0].toNat : Int) == 40) = false := e40.symm
      clear e40 hno
      go_enter Tryz.func38, Tryz.ntmps38
      go_wp2
      go_ret3
      exact ⟨⟨_, rfl, RowAt.nil _ _ _⟩, Below.refl _ _⟩
    | true =>
      rw [h40] at e40
      have e40' : ((s[0].toNat : Int) == 40) = true := e40.symm
      have e41 := pre_at hp1 41
      cases h41 : [41].isPrefixOf ((bl s).drop 1) with
      | true =>
        have hx : parR (bl s) = ⟨[], 2, 0⟩ := by unfold parR; rw [if_pos h40, if_pos h41]
        rw [hx]
        rw [h41] at e41
        have e41' : ((s[1].toNat : Int) == 41) = true := e41.symm
        clear e40 e41 hx
        go_enter Tryz.func38, Tryz.ntmps38
        go_wp2
        go_ret3
        exact ⟨⟨_, rfl, RowAt.nil _ _ _⟩, Below.refl _ _⟩
      | false =>
        rw [h41] at e41
        have e41' : ((s[1].toNat : Int) == 41) = false := e41.symm
        have HQ0 : Hid (QAt s [] 1) := hid ⟨Nat.le_refl _, by omega, by simp, by
          rw [Nat.sub_self, ps_nil]
          unfold PT
          rw [if_pos h40, head_first h41]
          rfl⟩
        obtain ⟨x, hx⟩ : ∃ x, parR (bl s) = x := ⟨_, rfl⟩
        rw [hx]
        rw [parR_PT] at hx
        have HX := hid hx
        have H0 := hid (OwnR.made w w.heap.size (Nat.le_refl _))
        have B0 := hid ((Below.refl w.heap.size w).alloc (Nat.le_refl _) (.cells #[] tV))
        clear e40 e41 hx h40 h41
        go_enter Tryz.func38, Tryz.ntmps38
        go_wp2
        go_loopw [5, 6] (fun d at_ wr => ∃ (rs : Vs) (p : Nat), at_ = .int .i64 p ∧ Hid (QAt s rs p) ∧ Hid (OwnR wr w.heap.size d rs) ∧ Hid (Below w.heap.size w wr)) (fun d _ _ => 17 - lenOf d)
        case atStart => exact ⟨[], 1, rfl, HQ0, H0, B0⟩
        case round =>
          obtain ⟨rs, p, rfl, HQ, HOw, HB⟩ := hrel
          obtain ⟨hq1, hq2, hq3, -⟩ := HQ.out
          obtain ⟨ao, cap, rfl⟩ := HOw.out.shape
          have hszr := HB.out.size
          have hpi : (p : Int) ≤ (s.size : Int) := by omega
          have HPa := hid (fun w => rparse_b s p hs w)
          have HDd := hid (QAt.dead HQ.out)
          have HLv := hid (QAt.live HQ.out)
          have hle : (parseL ((bl s).drop p)).e = 0 → (parseL ((bl s).drop p)).n ≤ s.size - p := fun he => by
            have := (parse_back _ he).2.1
            rw [List.length_drop, bl_len] at this
            exact this
          unfold uV at HPa
          have HUo : Hid (uOf (parseL ((bl s).drop p)) = ⟨(parseL ((bl s).drop p)).K, (parseL ((bl s).drop p)).N, bs (parseL ((bl s).drop p)).S⟩) := hid rfl
          rw [HUo.out] at HLv
          generalize parseL ((bl s).drop p) = u at *
          obtain ⟨K, N, T, n, q⟩ := u
          simp only at HPa HDd HLv hle
          generalize bs T = Y at *
          clear HUo
          by_cases hq : q = 0
          · subst hq
            have hn := hle rfl
            by_cases hj : rs.length < 16
            · have hj16 : ¬ (16 : Int) ≤ rs.length := by omega
              have hpt := HLv.out rfl hj
              have HPT := hid hpt
              clear hle HDd HLv hpt
              go_wp2_with fail
              refine (HPa.out _).mono ?_
              rintro e w3 ⟨rfl, hb3⟩
              have HB3 := hid (HB.out.trans (hb3.mono hszr))
              have hsz3 := HB3.out.size
              have HBA := hid (HB3.out.alloc hsz3 (.cells #[.int .i64 K, .int .i64 N, .string Y] tV))
              have HBC := hid (HBA.out.alloc HBA.out.size (.cells #[.int .i64 K, .int .i64 N, .string Y] tV))
              have HOA := hid (((HOw.out.on hb3).on ((Below.refl _ _).alloc (Nat.le_refl _) (.cells #[.int .i64 K, .int .i64 N, .string Y] tV))).on ((Below.refl _ _).alloc (Nat.le_refl _) (.cells #[.int .i64 K, .int .i64 N, .string Y] tV)))
              have HA3 : Hid (At3 ((w3.alloc (.cells #[.int .i64 K, .int .i64 N, .string Y] tV)).alloc (.cells #[.int .i64 K, .int .i64 N, .string Y] tV)) (w3.heap.size + 1) 0 ⟨K, N, Y⟩) := hid (by
                have h := at3_new ⟨K, N, Y⟩ (w3.alloc (.cells #[.int .i64 K, .int .i64 N, .string Y] tV))
                have e : (w3.alloc (.cells #[.int .i64 K, .int .i64 N, .string Y] tV)).heap.size = w3.heap.size + 1 := by simp
                rw [e] at h
                exact h)
              clear hb3
              go_wp2_with (at_builtin; refine wpList_append_val rfl (.tmp 37) (.tmp 39) rfl w.heap.size (.slice ao rs.length cap) rs rfl HOA.out (Below.refl _ _) (by simp; omega) (w3.heap.size + 1) ⟨K, N, Y⟩ rfl HA3.out (by omega) ?_)
              intro d' w4 hown' hbel'
              have HN := hid hown'
              have HB4 := hid (HBC.out.trans hbel')
              have HL : Hid (lenOf d' = rs.length + 1) := hid (by rw [hown'.lenOf]; simp)
              have HRow := hid (OwnR.row hown' (by rw [List.length_append]; unfold maxLen; simp; omega))
              clear hown' hbel'
              by_cases hlt : p + n < s.size
              · have hlti : (p : Int) + n < (s.size : Int) := by omega
                cases h41 : [41].isPrefixOf ((bl s).drop (p + n)) with
                | true =>
                  have c41 := pre_at hlt 41
                  rw [h41] at c41
                  have c41' : ((s[p + n].toNat : Int) == 41) = true := c41.symm
                  have hx := HX.out
                  rw [HPT.out, head_end h41] at hx
                  have hx' : (⟨(rs ++ [⟨K, N, Y⟩]) ++ [], 1 + (p - 1 + n + 1), 0⟩ : Pr) = x := hx
                  rw [List.append_nil, show 1 + (p - 1 + n + 1) = p + n + 1 by omega] at hx'
                  subst hx'
                  clear c41 hx
                  go_wp2
                  go_ret3
                  exact ⟨⟨_, rfl, HRow.out⟩, HB4.out⟩
                | false =>
                  have c41 := pre_at hlt 41
                  rw [h41] at c41
                  have c41' : ((s[p + n].toNat : Int) == 41) = false := c41.symm
                  clear c41
                  by_cases hlt2 : p + n + 2 ≤ s.size
                  · have hlt2i : ¬ (s.size : Int) ≤ (p : Int) + n + 1 := by omega
                    have hlt2j : (p : Int) + n + 2 ≤ (s.size : Int) := by omega
                    have p2 := pre_two hlt2
                    cases hsep : sepL.isPrefixOf ((bl s).drop (p + n)) with
                    | true =>
                      rw [hsep] at p2
                      have p2' : ((s.extract (p + n) (p + n + 2)).toList == [44, 32]) = true := p2.symm
                      have HQN : Hid (QAt s (rs ++ [⟨K, N, Y⟩]) (p + n + 2)) := hid ⟨by omega, hlt2, by rw [List.length_append]; exact hj, by
                        rw [HPT.out, head_sep h41 (by omega) hsep, ps_on_on, List.length_append, List.append_nil, List.drop_drop]
                        rw [show p - 1 + n + 2 = p + n + 2 - 1 by omega]
                        rfl⟩
                      clear p2
                      go_wp2
                      go_roundw
                      case rel => exact ⟨rs ++ [⟨K, N, Y⟩], p + n + 2, by go_num, HQN, HN, HB4⟩
                      case measure =>
                        show 17 - lenOf d' < 17 - rs.length
                        rw [HL.out]
                        omega
                    | false =>
                      rw [hsep] at p2
                      have p2' : ((s.extract (p + n) (p + n + 2)).toList == [44, 32]) = false := p2.symm
                      have hx := HX.out
                      rw [HPT.out, head_no h41 (by omega) hsep] at hx
                      have hx' : (⟨[], 0, 4⟩ : Pr) = x := hx
                      subst hx'
                      clear p2 hx
                      go_wp2
                      go_ret3
                      exact ⟨⟨_, rfl, RowAt.nil _ _ _⟩, HB4.out⟩
                  · have hlt2i : (s.size : Int) ≤ (p : Int) + n + 1 := by omega
                    have hsep := pre_two_end (s := s) (p := p + n) (by omega)
                    have hx := HX.out
                    rw [HPT.out, head_no h41 (by omega) hsep] at hx
                    have hx' : (⟨[], 0, 4⟩ : Pr) = x := hx
                    subst hx'
                    clear hx
                    go_wp2
                    go_ret3
                    exact ⟨⟨_, rfl, RowAt.nil _ _ _⟩, HB4.out⟩
              · have hlti : ¬ (p : Int) + n < (s.size : Int) := by omega
                have h41 := pre_end (s := s) (p := p + n) (by omega) 41
                have hsep := pre_two_end (s := s) (p := p + n) (by omega)
                have hlt2i : (s.size : Int) ≤ (p : Int) + n + 1 := by omega
                have hx := HX.out
                rw [HPT.out, head_no h41 (by omega) hsep] at hx
                have hx' : (⟨[], 0, 4⟩ : Pr) = x := hx
                subst hx'
                clear hx h41 hsep
                go_wp2
                go_ret3
                exact ⟨⟨_, rfl, RowAt.nil _ _ _⟩, HB4.out⟩
            · have hj16 : (16 : Int) ≤ rs.length := by omega
              have hx := HX.out
              rw [HDd.out (Or.inr (by omega))] at hx
              have hx' : (⟨[], 0, 4⟩ : Pr) = x := hx
              subst hx'
              clear hx hle HDd HLv
              go_wp2_with fail
              refine (HPa.out _).mono ?_
              rintro e w3 ⟨rfl, hb3⟩
              have HB3 := hid (HB.out.trans (hb3.mono hszr))
              have HBA := hid (HB3.out.alloc HB3.out.size (.cells #[.int .i64 K, .int .i64 N, .string Y] tV))
              clear hb3
              go_wp2
              go_ret3
              exact ⟨⟨_, rfl, RowAt.nil _ _ _⟩, HBA.out⟩
          · have hne : (q == 0) = false := by simpa using hq
            have hx := HX.out
            rw [HDd.out (Or.inl hq)] at hx
            have hx' : (⟨[], 0, 4⟩ : Pr) = x := hx
            subst hx'
            clear hx hle HDd HLv
            go_wp2_with fail
            refine (HPa.out _).mono ?_
            rintro e w3 ⟨rfl, hb3⟩
            have HB3 := hid (HB.out.trans (hb3.mono hszr))
            have HBA := hid (HB3.out.alloc HB3.out.size (.cells #[.int .i64 K, .int .i64 N, .string Y] tV))
            clear hb3
            go_wp2
            go_ret3
            exact ⟨⟨_, rfl, RowAt.nil _ _ _⟩, HBA.out⟩
theorem parse_any (s : ByteArray) (hs : s.size ≤ 281474976710656) (w : World) (g : Glob w) : Calls Tryz.prog 37 #[.string s] w fun e w' => ParGives (parR (bl s)) w w' e :=
  parse_bs (bl s) (by rw [bl_len]; exact hs) w g
end Ro
end Go.Proofs.YtiellodbkanciaaGreatDoor
