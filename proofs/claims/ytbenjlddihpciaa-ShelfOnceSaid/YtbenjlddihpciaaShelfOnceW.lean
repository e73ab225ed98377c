/-
  ShelfOnce: the walk of the statement.
-/
import Derived.Test.YtbenjlddihpciaaShelfAwake
import Derived.Test.YtbenjlddihpciaaSpareOnceL
import Derived.Test.YtbenjlddihpciaaShelfOpen
namespace Go.Proofs.Ytbenjlddihpciaa
open Go.RowKit
namespace shelfOnce
open Sp (Hd tH hV hObj)
open Sh
open Num (hid)
open Mem (Bs bs ptr Chg Row IAt LAt iV tI tIs blk_cell blk_free blk_new blk_set blk_other blk_alloc row_kept wpList_append_run)
theorem bat_ways {w : World} {x : Value} {l : List Bool} (h : BAt w x l) : ∃ ao cap, x = .slice ao l.length cap ∧ l.length ≤ maxLen ∧ ∀ j (hj : j < l.length), ∃ b o, ao = some ⟨b, o, none⟩ ∧ b < w.heap.size ∧ w.cell? ⟨b, o + j, none⟩ = some (.bool l[j]) := by
  obtain ⟨ao, cap, h1, h2, h3, h4⟩ := LAt.ways h
  refine ⟨ao, cap, h1, h2, fun j hj => ?_⟩
  obtain ⟨b, o, e1, e2, e3⟩ := h4 j hj
  have := e3 0 Nat.one_pos
  rw [Nat.mul_one] at this
  exact ⟨b, o, e1, e2, this⟩
theorem lim_of (a : Int) : ∃ L : Nat, 1 ≤ L ∧ L ≤ 60 ∧ wrap64 (1 + wrap64 ((IntKind.u64.wrap a).tmod 60)) = (L : Int) := by
  obtain ⟨n, h1, h2⟩ := spareOnce.mod_u a 60 (by decide) (by decide)
  refine ⟨n + 1, by omega, by omega, ?_⟩
  have e : ((60 : Nat) : Int) = 60 := rfl
  rw [e] at h2
  rw [h2, Num.wrap_i]
  omega
/-- The row without its first. -/
theorem rest_copy {w : World} {ao : Option Addr} {cap : Nat} {U : List Int} (hu : w.ownsRow 0 tI 1 (.slice ao U.length cap) U.length (U.map (Value.int .i64))) (hl : U.length ≤ 1000) (h0 : 0 < U.length) :
    ∃ v1 w1, (Builtin.append_ #[tIs, tIs] tIs #[.slice (some ⟨w.heap.size, 0, none⟩) 0 0, Mem.dropS 1 ao U.length cap 1]).run Try.prog (spareOnce.w0s w) = .ok v1 w1 ∧
      w1.ownsRow 0 tI 1 v1 (U.drop 1).length ((U.drop 1).map (Value.int .i64)) ∧ Below w.heap.size w w1 ∧ (∀ k, v1.ownBlock = some k → w.heap.size ≤ k) := by
  have hI : IAt w (.slice ao U.length cap) U := Mem.ints_row hu (by unfold maxLen; omega)
  have hb0 : Below w.heap.size w (spareOnce.w0s w) := (Below.refl _ w).alloc (Nat.le_refl _) _
  obtain ⟨v1, w1, hr1, ho1, hc1, hk1⟩ := spareOnce.append_at (spareOnce.own_empty w) ((hI.on hb0).drop (m := 1) (by omega)) (by rw [List.length_drop]; omega)
  refine ⟨v1, w1, hr1, ?_, hb0.trans (hc1.below hb0.size (fun k hk e => by
    have : w.heap.size = k := by simpa [Value.ownBlock] using e
    omega)), fun k hk => ?_⟩
  · rw [List.nil_append, Nat.zero_add] at ho1
    exact ho1
  · rcases hk1 k hk with h | h
    · have : w.heap.size = k := by simpa [Value.ownBlock] using h
      omega
    · exact Nat.le_trans hb0.size h
theorem lim_sub {L Lm : Nat} (h : Lm + 1 = L) (h2 : L ≤ 60) : wrap64 ((L : Int) - 1) = (Lm : Int) := by rw [Num.wrap_i]; omega
theorem full_of {h : Hd} {S : St} {U F : List Int} (k : Inv h S U F) {nu L Lm : Nat} (h1 : U.length = nu) (h2 : h.pages ≤ (L : Int)) (h3 : nu = Lm) (h4 : Lm + 1 = L) : F.length = 0 ∧ (L : Int) ≤ h.pages := by
  have := k.pg
  omega
theorem not_full {h : Hd} {S : St} {U F : List Int} (k : Inv h S U F) {nu L Lm : Nat} (h1 : U.length = nu) (h2 : h.pages ≤ (L : Int)) (h3 : ¬ nu = Lm) (h4 : Lm + 1 = L) : ¬ (F.length = 0 ∧ (L : Int) ≤ h.pages) := by
  have := k.pg
  omega
set_option maxRecDepth 100000 in
set_option maxHeartbeats 4000000 in
theorem walk (a0 : Int) (v1 : Value) (l1 : List Bool) (w : World) (hI0 : BAt w v1 l1) :
    Calls Try.prog 5 #[.int .i64 a0, v1] w fun e w' => e = .returned (.bool true) ∧ Below w.heap.size w w' := by
  obtain ⟨ao, cap, rfl, hml, hc0⟩ := bat_ways hI0
  obtain ⟨L, hL1, hL2, hL⟩ := lim_of a0
  have HML := hid hml
  have HC0 := hid hc0
  have HL12 := hid (And.intro hL1 hL2)
  have HI : Hid (Inv h1 S0 [] []) := hid inv_new
  clear hml hc0 hI0 hL1 hL2
  go_enter Try.func5, Try.ntmps5
  go_wp2_with fail
  refine (awake_any _).mono ?_
  rintro e wa ⟨rfl, hba⟩
  have BA := hid hba
  clear hba
  go_wp2_with fail
  refine (ShL.new (L : Int) (by have := HL12.out; omega) (by have := HL12.out; omega) BA.out).mono ?_
  rintro e w1 ⟨s, d, rfl, hk⟩
  have K1 := hid (hk.kept ((Below.refl w1.heap.size w1).alloc (Nat.le_refl _) (.cells #[] tI)))
  have U1 : Hid (Own s d w.heap.size tI (w1.alloc (.cells #[] tI)) (.slice (some ⟨w1.heap.size, 0, none⟩) 0 0) 0 ([].map (Value.int .i64))) := hid (Own.made hk (spareOnce.own_empty w1) (fun g hg => by
    have : w1.heap.size = g := by simpa [Value.ownBlock] using hg
    omega))
  clear hk BA
  go_upto_region 6 with fail
  generalize w1.alloc (.cells #[] tI) = w2 at *
  generalize w1.heap.size = g1 at *
  go_wp2_with fail
  go_loopw [6, 7] (fun uv i wr => ∃ (m nu nf cap : Nat) (ao : Option Addr) (U F : List Int) (h : Hd) (S : St), m ≤ l1.length ∧ m ≤ 150 ∧ uv = .slice ao nu cap ∧ i = .int .i64 m ∧ Hid (U.length = nu) ∧ Hid (F.length = nf) ∧ Hid (h.pages ≤ (L : Int)) ∧ Hid (ShL s d w.heap.size (3 * m) L h 0 S w wr) ∧ Hid (Inv h S U F) ∧ Hid (Own s d w.heap.size tI wr (.slice ao nu cap) nu (U.map (Value.int .i64)))) (fun _ i _ => 150 - (intOf i).toNat)
  case atStart => exact ⟨0, 0, 0, 0, _, [], [], h1, S0, Nat.zero_le _, Nat.zero_le _, rfl, rfl, hid rfl, hid rfl, hid (by have := HL12.out; show (1 : Int) ≤ _; omega), K1, HI, U1⟩
  case round =>
    obtain ⟨m, nu, nf, cap, ao2, U, F, h, S, hm1, hm2, rfl, rfl, HUL, HFL, hpg, HK, HIV, HU⟩ := hrel
    by_cases hlt : m < l1.length ∧ m < 150
    · obtain ⟨hlt1, hlt2⟩ := hlt
      have hle1 : (m : Int) < l1.length := by omega
      have hle2 : (m : Int) < 150 := by omega
      obtain ⟨b0, o0, rfl, hb0, hx0⟩ := HC0.out m hlt1
      generalize hx : l1[m] = x at *
      have hx1 := (World.cell?_of_block (a := ⟨b0, o0 + m, none⟩) (HK.out.be.block b0 hb0)).trans hx0
      have hlb : b0 < wr.heap.size := Nat.lt_of_lt_of_le hb0 HK.out.size
      cases x with
      | true =>
        by_cases hn : 0 < nu
        · have hn2 : (0 : Int) < (nu : Int) := by omega
          have hul := HUL.out
          have hI := Mem.ints_row (by have := HU.out.row; rw [← hul] at this; exact this) (by have := HIV.out.pg; have := hpg.out; have := HL12.out; unfold maxLen; omega)
          obtain ⟨ao3, cap3, e3, -, hcap3, hc3⟩ := hI.ways1
          obtain ⟨b1, o1, hao, hb1, hu1⟩ := hc3 0 (by omega)
          simp only [Value.slice.injEq] at e3
          obtain ⟨rfl, -, rfl⟩ := e3
          subst hao
          rw [Nat.add_zero] at hu1
          have HG := hid (HK.out.give (by decide) (by omega) HIV.out (by have := hpg.out; have := HL12.out; omega) (i := 0) (by omega))
          generalize U[0] = y at *
          rw [hul] at hcap3
          clear hI hc3
          go_wp2_with fail
          refine HG.out.mono ?_
          rintro e w3 ⟨h', S', rfl, hK3, hinv, hpp, hsame, hC3⟩
          have K3 := hid hK3
          have I3 := hid hinv
          have P3 := hid hpp
          have U3 := hid (HU.out.turned hC3)
          clear hK3 hinv hpp hsame hC3 HG hx1 hlb hx0 hb0
          obtain ⟨D, hD⟩ : ∃ D, D = Mem.dropS 1 (some ⟨b1, o1, none⟩) nu cap 1 := ⟨_, rfl⟩
          have hsl : ∀ w : World, (Instr.sliceAt tIs (.slice (some ⟨b1, o1, none⟩) nu cap) (some (.int .i64 1)) none none).run Try.prog w = .ok D w := fun w => by
            rw [hD]
            exact spareOnce.slice_from b1 o1 hn hcap3 w
          obtain ⟨v4, w4, hr4, ho4, hb4, hg4⟩ := rest_copy (U := U) (by have := U3.out.row; rw [← hul] at this; exact this) (by have := HIV.out.pg; have := hpg.out; have := HL12.out; omega) (by omega)
          rw [hul, ← hD] at hr4
          obtain ⟨nu4, hn4⟩ : ∃ nu4, nu4 = nu - 1 := ⟨_, rfl⟩
          have hl4 : (U.drop 1).length = nu4 := by rw [List.length_drop, hul, hn4]
          rw [hl4] at ho4
          have U4 : Hid (Own s d w.heap.size tI w4 v4 nu4 ((U.drop 1).map (Value.int .i64))) := hid (Own.made K3.out ho4 hg4)
          have K4 := hid (K3.out.kept hb4)
          have HR4 := hid hr4
          have HL4 := hid hl4
          have HP4 : Hid (h'.pages ≤ (L : Int)) := hid (by rw [P3.out]; exact hpg.out)
          obtain ⟨ao4, cap4, e4, -⟩ := Mem.row_shape ho4
          subst e4
          clear hr4 ho4 hb4 hg4 hD hl4 hul hn4 K3 U3 P3 hcap3
          go_wp2_with (at_builtin; refine wpList_append_run rfl (.tmp 46) (.tmp 48) tIs tIs rfl _ _ (by simp [Act.eval]) (by simp [Act.eval]) HR4.out ?_)
          have hms : ((m + 1 : Nat) : Int) = (m : Int) + 1 := by push_cast; rfl
          have e3m : 3 * m + 3 = 3 * (m + 1) := by omega
          rw [e3m] at K4
          clear e3m hms
          go_roundw
          case rel => exact ⟨m + 1, nu4, F.length + 1, cap4, ao4, U.drop 1, y :: F, h', S', hlt1, hlt2, rfl, by go_num, HL4, hid rfl, HP4, K4, I3, U4⟩
          case measure => simp [intOf]; omega
        · have hn2 : ¬ (0 : Int) < (nu : Int) := by omega
          have hnu : nu ≤ 100 := by have := HIV.out.pg; have := hpg.out; have := HL12.out; have := HUL.out; omega
          obtain ⟨Lm, hLm⟩ : ∃ Lm : Nat, Lm + 1 = L := ⟨L - 1, by have := HL12.out; omega⟩
          have hwL : wrap64 ((L : Int) - 1) = (Lm : Int) := lim_sub hLm HL12.out.2
          by_cases hfull : nu = Lm
          · have hfe : ((nu : Int) == (Lm : Int)) = true := by simp [hfull]
            obtain ⟨hF0, hpl⟩ := full_of HIV.out HUL.out hpg.out hfull hLm
            have HG := hid (HK.out.full (by decide) (by omega) HIV.out (by have := hpg.out; have := HL12.out; omega) hF0 hpl)
            clear hF0 hpl hfull
            go_wp2_with fail
            refine HG.out.mono ?_
            rintro e w3 ⟨rfl, hK3, hC3⟩
            have K3 := hid (hK3.more (show 3 * m ≤ 3 * (m + 1) by omega))
            have U3 := hid (HU.out.turned hC3)
            clear hK3 hC3 HG hx1 hlb hx0 hb0
            go_wp2
            go_roundw
            case rel => exact ⟨m + 1, nu, nf, cap, ao2, U, F, h, S, hlt1, hlt2, rfl, by go_num, HUL, HFL, hpg, K3, HIV, U3⟩
            case measure => simp [intOf]; omega
          · have hfe : ((nu : Int) == (Lm : Int)) = false := by simp; omega
            have HG := hid (HK.out.take (by decide) (by omega) HIV.out (by have := HL12.out; omega) hpg.out (not_full HIV.out HUL.out hpg.out hfull hLm))
            clear hfull
            go_wp2_with fail
            refine HG.out.mono ?_
            rintro e w3 ⟨y, h', S', F', rfl, hK3, hinv, hpl, hyU, hy1, hy2, hFl, -, -, hC3⟩
            have K3 := hid hK3
            have I3 := hid hinv
            have P3 := hid hpl
            have U3 := hid (HU.out.turned hC3)
            have HND : Hid (∀ k (hk : k < U.length), U[k] ≠ y) := hid (fun k hk e => hyU (e ▸ List.getElem_mem hk))
            have hy3 : ¬ y < 1 := by omega
            have hy4 : ¬ h'.pages ≤ y := by omega
            have hy5 : ¬ (L : Int) ≤ y := by omega
            have HH := hid (head_ok K3.out.at'.blk)
            unfold hV at HH
            have hfd := fun w => fld1 h'.mode h'.pages h'.trunk h'.spare h'.root (h'.change : Nat) w
            clear hK3 hinv hpl hyU hFl hC3 HG hx1 hlb hx0 hb0
            go_wp2_with fail
            refine HH.out.mono ?_
            rintro e w4 ⟨rfl, hb⟩
            have K4 := hid (K3.out.kept hb)
            have U4 := hid (U3.out.on hb)
            clear hb K3 U3 HH hy1 hy2
            go_wp2_with fail
            go_loopw [10] (fun i wr2 => ∃ k : Nat, k ≤ nu ∧ i = .int .i64 k ∧ wr2 = w4) (fun i _ => nu - (intOf i).toNat)
            case atStart => exact ⟨0, Nat.zero_le _, rfl, rfl⟩
            case round =>
              obtain ⟨k, hk, rfl, hww⟩ := hrel
              have hww2 := hww.symm
              clear hww
              subst hww2
              by_cases hlk : k < nu
              · have hlk2 : (k : Int) < nu := by omega
                have hUl := HUL.out
                have hkU : k < U.length := by omega
                have hI2 : IAt w4 (.slice ao2 U.length cap) U := Mem.ints_row (by have := U4.out.row; rw [← hUl] at this; exact this) (by have := HIV.out.pg; have := hpg.out; have := HL12.out; unfold maxLen; omega)
                obtain ⟨ao3, cap3, e3, -, hcap3, hc3⟩ := hI2.ways1
                obtain ⟨b1, o1, hao, hb1, hu1⟩ := hc3 k hkU
                simp only [Value.slice.injEq] at e3
                obtain ⟨rfl, -, rfl⟩ := e3
                subst hao
                have hne := HND.out k hkU
                generalize U[k] = uk at *
                have hne2 : (uk == y) = false := by simpa using hne
                clear hI2 hc3 hcap3
                go_wp2
                go_roundw
                case rel => exact ⟨k + 1, by omega, by go_num, trivial⟩
                case measure => simp [intOf]; omega
              · have hlk2 : ¬ (k : Int) < nu := by omega
                obtain ⟨v5, w5, hr5, ho5, hc5, hk5⟩ := Mem.push_int U4.out.row y (by have := HIV.out.pg; have := hpg.out; have := HL12.out; have := HUL.out; omega)
                have U5 : Hid (Own s d w.heap.size tI w5 v5 (nu + 1) ((U ++ [y]).map (Value.int .i64))) := hid (by rw [List.map_append]; exact Own.grown U4.out K4.out ho5 hk5)
                have K5 := hid (K4.out.beside hc5 (fun g hg => U4.out.own g hg))
                have HR5 := hid hr5
                obtain ⟨ao5, cap5, e5, -⟩ := Mem.row_shape ho5
                subst e5
                obtain ⟨nu5, hn5⟩ : ∃ nu5, nu5 = nu + 1 := ⟨_, rfl⟩
                rw [← hn5] at U5 HR5
                have HL5 : Hid ((U ++ [y]).length = nu5) := hid (by rw [List.length_append, HUL.out, hn5]; rfl)
                have e3m : 3 * m + 3 = 3 * (m + 1) := by omega
                rw [e3m] at K5
                clear hr5 ho5 hc5 hk5 e3m hn5 K4 U4
                go_wp2_with (at_builtin; refine wpList_append_run rfl (.tmp 96) (.tmp 98) tIs tIs rfl _ _ (by simp [Act.eval]) (by simp [Act.eval]) HR5.out ?_)
                go_roundw
                case rel => exact ⟨m + 1, nu5, F'.length, cap5, ao5, U ++ [y], F', h', S', hlt1, hlt2, rfl, by go_num, HL5, hid rfl, P3, K5, I3, U5⟩
                case measure => simp [intOf]; omega
      | false =>
        have hnu : nu ≤ 100 := by have := HIV.out.pg; have := hpg.out; have := HL12.out; have := HUL.out; omega
        obtain ⟨Lm, hLm⟩ : ∃ Lm : Nat, Lm + 1 = L := ⟨L - 1, by have := HL12.out; omega⟩
        have hwL : wrap64 ((L : Int) - 1) = (Lm : Int) := lim_sub hLm HL12.out.2
        by_cases hfull : nu = Lm
        · have hfe : ((nu : Int) == (Lm : Int)) = true := by simp [hfull]
          obtain ⟨hF0, hpl⟩ := full_of HIV.out HUL.out hpg.out hfull hLm
          have HG := hid (HK.out.full (by decide) (by omega) HIV.out (by have := hpg.out; have := HL12.out; omega) hF0 hpl)
          clear hF0 hpl hfull
          go_wp2_with fail
          refine HG.out.mono ?_
          rintro e w3 ⟨rfl, hK3, hC3⟩
          have K3 := hid (hK3.more (show 3 * m ≤ 3 * (m + 1) by omega))
          have U3 := hid (HU.out.turned hC3)
          clear hK3 hC3 HG hx1 hlb hx0 hb0
          go_wp2
          go_roundw
          case rel => exact ⟨m + 1, nu, nf, cap, ao2, U, F, h, S, hlt1, hlt2, rfl, by go_num, HUL, HFL, hpg, K3, HIV, U3⟩
          case measure => simp [intOf]; omega
        · have hfe : ((nu : Int) == (Lm : Int)) = false := by simp; omega
          have HG := hid (HK.out.take (by decide) (by omega) HIV.out (by have := HL12.out; omega) hpg.out (not_full HIV.out HUL.out hpg.out hfull hLm))
          clear hfull
          go_wp2_with fail
          refine HG.out.mono ?_
          rintro e w3 ⟨y, h', S', F', rfl, hK3, hinv, hpl, hyU, hy1, hy2, hFl, -, -, hC3⟩
          have K3 := hid hK3
          have I3 := hid hinv
          have P3 := hid hpl
          have U3 := hid (HU.out.turned hC3)
          have HND : Hid (∀ k (hk : k < U.length), U[k] ≠ y) := hid (fun k hk e => hyU (e ▸ List.getElem_mem hk))
          have hy3 : ¬ y < 1 := by omega
          have hy4 : ¬ h'.pages ≤ y := by omega
          have hy5 : ¬ (L : Int) ≤ y := by omega
          have HH := hid (head_ok K3.out.at'.blk)
          unfold hV at HH
          have hfd := fun w => fld1 h'.mode h'.pages h'.trunk h'.spare h'.root (h'.change : Nat) w
          clear hK3 hinv hpl hyU hFl hC3 HG hx1 hlb hx0 hb0
          go_wp2_with fail
          refine HH.out.mono ?_
          rintro e w4 ⟨rfl, hb⟩
          have K4 := hid (K3.out.kept hb)
          have U4 := hid (U3.out.on hb)
          clear hb K3 U3 HH hy1 hy2
          go_wp2_with fail
          go_loopw [10] (fun i wr2 => ∃ k : Nat, k ≤ nu ∧ i = .int .i64 k ∧ wr2 = w4) (fun i _ => nu - (intOf i).toNat)
          case atStart => exact ⟨0, Nat.zero_le _, rfl, rfl⟩
          case round =>
            obtain ⟨k, hk, rfl, hww⟩ := hrel
            have hww2 := hww.symm
            clear hww
            subst hww2
            by_cases hlk : k < nu
            · have hlk2 : (k : Int) < nu := by omega
              have hUl := HUL.out
              have hkU : k < U.length := by omega
              have hI2 : IAt w4 (.slice ao2 U.length cap) U := Mem.ints_row (by have := U4.out.row; rw [← hUl] at this; exact this) (by have := HIV.out.pg; have := hpg.out; have := HL12.out; unfold maxLen; omega)
              obtain ⟨ao3, cap3, e3, -, hcap3, hc3⟩ := hI2.ways1
              obtain ⟨b1, o1, hao, hb1, hu1⟩ := hc3 k hkU
              simp only [Value.slice.injEq] at e3
              obtain ⟨rfl, -, rfl⟩ := e3
              subst hao
              have hne := HND.out k hkU
              generalize U[k] = uk at *
              have hne2 : (uk == y) = false := by simpa using hne
              clear hI2 hc3 hcap3
              go_wp2
              go_roundw
              case rel => exact ⟨k + 1, by omega, by go_num, trivial⟩
              case measure => simp [intOf]; omega
            · have hlk2 : ¬ (k : Int) < nu := by omega
              obtain ⟨v5, w5, hr5, ho5, hc5, hk5⟩ := Mem.push_int U4.out.row y (by have := HIV.out.pg; have := hpg.out; have := HL12.out; have := HUL.out; omega)
              have U5 : Hid (Own s d w.heap.size tI w5 v5 (nu + 1) ((U ++ [y]).map (Value.int .i64))) := hid (by rw [List.map_append]; exact Own.grown U4.out K4.out ho5 hk5)
              have K5 := hid (K4.out.beside hc5 (fun g hg => U4.out.own g hg))
              have HR5 := hid hr5
              obtain ⟨ao5, cap5, e5, -⟩ := Mem.row_shape ho5
              subst e5
              obtain ⟨nu5, hn5⟩ : ∃ nu5, nu5 = nu + 1 := ⟨_, rfl⟩
              rw [← hn5] at U5 HR5
              have HL5 : Hid ((U ++ [y]).length = nu5) := hid (by rw [List.length_append, HUL.out, hn5]; rfl)
              have e3m : 3 * m + 3 = 3 * (m + 1) := by omega
              rw [e3m] at K5
              clear hr5 ho5 hc5 hk5 e3m hn5 K4 U4
              go_wp2_with (at_builtin; refine wpList_append_run rfl (.tmp 96) (.tmp 98) tIs tIs rfl _ _ (by simp [Act.eval]) (by simp [Act.eval]) HR5.out ?_)
              go_roundw
              case rel => exact ⟨m + 1, nu5, F'.length, cap5, ao5, U ++ [y], F', h', S', hlt1, hlt2, rfl, by go_num, HL5, hid rfl, P3, K5, I3, U5⟩
              case measure => simp [intOf]; omega
    · have hstop : ¬ ((m : Int) < (l1.length : Int)) ∨ (((m : Int) < (l1.length : Int)) ∧ ¬ ((m : Int) < 150)) := by
        by_cases h1' : m < l1.length
        · exact Or.inr ⟨by omega, fun h2' => hlt ⟨h1', by omega⟩⟩
        · exact Or.inl (by omega)
      have hsum := HIV.out.pg
      rw [HUL.out] at hsum
      have hsp := HIV.out.sp
      have hpl := hpg.out
      have hnu : nu ≤ 100 := by have := HL12.out; omega
      have hH := hid (fun (w' : World) (b : ShBlk s d (L : Int) h 0 w') => head_ok b)
      unfold hV at hH
      have hfd1 := fun w => fld1 h.mode h.pages h.trunk h.spare h.root (h.change : Nat) w
      have hfd3 := fun w => fld3 h.mode h.pages h.trunk h.spare h.root (h.change : Nat) w
      have hend : (h.spare + (nu : Int) + 1 == h.pages) = true := by simp; omega
      have hw1 : wrap64 (h.spare + (nu : Int)) = h.spare + (nu : Int) := by rw [Num.wrap_i]; have := HL12.out; omega
      have hw2 : wrap64 (h.spare + (nu : Int) + 1) = h.spare + (nu : Int) + 1 := by rw [Num.wrap_i]; have := HL12.out; omega
      clear hsum hsp
      rcases hstop with hs1 | ⟨hs1, hs2⟩
      all_goals
        go_wp2_with fail
        refine (hH.out _ HK.out.at'.blk).mono ?_
        rintro e w3 ⟨rfl, hb⟩
        have K3 := hid (HK.out.kept hb)
        clear hb
        go_wp2_with fail
        refine (hH.out _ K3.out.at'.blk).mono ?_
        rintro e w4 ⟨rfl, hb⟩
        have K4 := hid (K3.out.kept hb)
        clear hb
        go_wp2_with fail
        refine (hH.out _ K4.out.at'.blk).mono ?_
        rintro e w5 ⟨rfl, hb⟩
        have K5 := hid (K4.out.kept hb)
        clear hb
        go_wp2
        go_ret
        exact ⟨rfl, K5.out.be⟩
end shelfOnce
end Go.Proofs.Ytbenjlddihpciaa
