/-
  ShelfKeeps: the walk of the statement.
-/
import Derived.Test.YtbenjlddihpciaaShelfRows
import Derived.Test.YtbenjlddihpciaaShelfOpen
import Derived.Deep.RegionHeld3
namespace Go.Proofs.Ytbenjlddihpciaa
open Go.RowKit
namespace shelfKeeps
open Sp (Hd tH hV hObj zeros)
open Sh
open Num (hid)
open Mem (Bs bs ptr Chg Row IAt LAt iV tI tIs tS tSs blk_cell blk_free blk_new blk_set blk_other blk_alloc row_kept wpList_append_run step_append_run)
theorem le_sum {h : Hd} {S : St} {U F : List Int} (k : Inv h S U F) {nu : Nat} (h1 : U.length = nu) (h2 : h.pages ≤ 100) : nu ≤ 99 := by
  have := k.pg
  omega
theorem full_99 {h : Hd} {S : St} {U F : List Int} (k : Inv h S U F) {nu : Nat} (h1 : U.length = nu) (h2 : h.pages ≤ 100) (h3 : F.length = 0 ∧ (100 : Int) ≤ h.pages) : ((nu : Int) != 99) = false := by
  have := k.pg
  have e : (nu : Int) = 99 := by omega
  rw [e]
  rfl
theorem cut_len {U : List Int} {X : List Bs} {nu j : Nat} (h1 : U.length = nu) (h2 : X.length = nu) (hj : j < nu) : (U.take j ++ U.drop (j + 1)).length = nu - 1 ∧ (X.take j ++ X.drop (j + 1)).length = nu - 1 := by
  constructor
  · rw [List.length_append, List.length_take, List.length_drop]; omega
  · rw [List.length_append, List.length_take, List.length_drop]; omega
set_option maxRecDepth 100000 in
set_option maxHeartbeats 8000000 in
theorem walk (v0 : Value) (l0 : List Int) (w : World) (hI0 : IAt w v0 l0) :
    Calls Try.prog 3 #[v0] w fun e w' => e = .returned (.bool true) ∧ Below w.heap.size w w' := by
  obtain ⟨ao, cap, rfl, hml, hcap, hc0⟩ := hI0.ways1
  have HML := hid hml
  have HC0 := hid hc0
  have HI : Hid (Inv h1 S0 [] []) := hid inv_new
  have HZ : Hid (∀ w, Calls Try.prog 14 #[.string ⟨#[]⟩] w fun e w' => e = .returned (.string (bs (zeros 232))) ∧ Below w.heap.size w w') := hid (fun w => by
    have H := full_any ⟨#[]⟩ w
    rw [fz] at H
    exact H)
  clear hml hc0 hcap hI0
  go_enter Try.func3, Try.ntmps3
  go_wp2_with fail
  refine (awake_any _).mono ?_
  rintro e wa ⟨rfl, hba⟩
  have BA := hid hba
  clear hba
  go_wp2_with fail
  refine (ShL.new 100 (by decide) (by decide) BA.out).mono ?_
  rintro e w1 ⟨s, d, rfl, hk⟩
  have hb1 : Below w1.heap.size w1 (w1.alloc (.cells #[] tI)) := (Below.refl w1.heap.size w1).alloc (Nat.le_refl _) _
  have k1 := hk.kept hb1
  have e1 : (w1.alloc (.cells #[] tI)).heap.size = w1.heap.size + 1 := by simp
  have hb2 : Below (w1.alloc (.cells #[] tI)).heap.size (w1.alloc (.cells #[] tI)) ((w1.alloc (.cells #[] tI)).alloc (.cells #[] tS)) := (Below.refl _ _).alloc (Nat.le_refl _) _
  have K1 := hid (k1.kept hb2)
  have R1 : Hid (Rws s d w.heap.size ((w1.alloc (.cells #[] tI)).alloc (.cells #[] tS)) (.slice (some ⟨w1.heap.size, 0, none⟩) 0 0) (.slice (some ⟨w1.heap.size + 1, 0, none⟩) 0 0) 0 0 [] []) := hid ⟨(Own.made hk (spareOnce.own_empty w1) (fun g hg => by
    have : w1.heap.size = g := by simpa [Value.ownBlock] using hg
    omega)).on hb2, (by
    have H := own_emptyS (w1.alloc (.cells #[] tI))
    rw [e1] at H
    exact Own.made k1 H (fun g hg => by
      have : w1.heap.size + 1 = g := by simpa [Value.ownBlock] using hg
      omega)), fun g hg e => by
    have h1 : w1.heap.size = g := by simpa [Value.ownBlock] using hg
    have h2 : w1.heap.size + 1 = g := by simpa [Value.ownBlock] using e
    omega⟩
  clear hk BA hb1 hb2 k1 e1
  go_upto_region 6 with fail
  generalize (w1.alloc (.cells #[] tI)).alloc (.cells #[] tS) = w2 at *
  generalize hg2 : w1.heap.size + 1 = g2 at *
  generalize w1.heap.size = g1 at *
  clear hg2
  go_wp2_with fail
  go_loopw [4, 5, 6] (fun pv dv i wr => ∃ (m nu capP capD : Nat) (aoP aoD : Option Addr) (U F : List Int) (X : List Bs) (h : Hd) (S : St), m ≤ l0.length ∧ m ≤ 150 ∧ pv = .slice aoP nu capP ∧ dv = .slice aoD nu capD ∧ i = .int .i64 m ∧ Hid (U.length = nu) ∧ Hid (X.length = nu) ∧ Hid (h.pages ≤ 100) ∧ Hid (ShL s d w.heap.size (3 * m) 100 h 0 S w wr) ∧ Hid (Inv h S U F) ∧ Hid (Rws s d w.heap.size wr (.slice aoP nu capP) (.slice aoD nu capD) nu nu U X) ∧ Hid (U.map S.f = X.map some)) (fun _ _ i _ => 150 - (intOf i).toNat)
  case atStart => exact ⟨0, 0, 0, 0, _, _, [], [], [], h1, S0, Nat.zero_le _, Nat.zero_le _, rfl, rfl, rfl, hid rfl, hid rfl, hid (by decide), K1, HI, R1, hid rfl⟩
  case round =>
    obtain ⟨m, nu, capP, capD, aoP, aoD, U, F, X, h, S, hm1, hm2, rfl, rfl, rfl, HUL, HXL, hpg, HK, HIV, HR, HSX⟩ := hrel
    have hnu := le_sum HIV.out HUL.out hpg.out
    by_cases hlt : m < l0.length ∧ m < 150
    · obtain ⟨hlt1, hlt2⟩ := hlt
      have hle1 : (m : Int) < l0.length := by omega
      have hle2 : (m : Int) < 150 := by omega
      obtain ⟨b0, o0, rfl, hb0, hx0⟩ := HC0.out m hlt1
      generalize hx : l0[m] = x at *
      have hx1 := (World.cell?_of_block (a := ⟨b0, o0 + m, none⟩) (HK.out.be.block b0 hb0)).trans hx0
      have hlb : b0 < wr.heap.size := Nat.lt_of_lt_of_le hb0 HK.out.size
      clear hx hx0 hb0
      by_cases hn : 0 < nu
      · obtain ⟨j, hj, hkj⟩ := spareOnce.mod_u x nu hn (by omega)
        have hn2 : (0 : Int) < (nu : Int) := by omega
        have hn3 : ((nu : Int) == 0) = false := by simp; omega
        have hjl : (j : Int) < (nu : Int) := by omega
        by_cases hx4 : x.tmod 4 = 0
        · have hxa : (x.tmod 4 == 0) = true := by simpa using hx4
          clear hx4
          by_cases hfull : F.length = 0 ∧ (100 : Int) ≤ h.pages
          · have h99 := full_99 HIV.out HUL.out hpg.out hfull
            have HG := hid (HK.out.full (by decide) (by omega) HIV.out (by have := hpg.out; omega) hfull.1 hfull.2)
            clear hfull
            go_wp2_with fail
            refine HG.out.mono ?_
            rintro e w3 ⟨rfl, hK3, hC3⟩
            have K3 := hid (hK3.more (show 3 * m ≤ 3 * (m + 1) by omega))
            have R3 := hid (HR.out.turned hC3)
            clear hK3 hC3 HG hx1 hlb
            go_wp2
            go_roundw
            case rel => exact ⟨m + 1, nu, capP, capD, aoP, aoD, U, F, X, h, S, hlt1, hlt2, rfl, rfl, by go_num, HUL, HXL, hpg, K3, HIV, R3, HSX⟩
            case measure => simp [intOf]; omega
          · have HG := hid (HK.out.take (by decide) (by omega) HIV.out (by decide) hpg.out hfull)
            clear hfull
            go_wp2_with fail
            refine HG.out.mono ?_
            rintro e w3 ⟨y, h', S', F', rfl, hK3, hinv, hpl, hyU, hy1, hy2, hFl, hsame, hSy, hC3⟩
            have K3 := hid hK3
            have I3 := hid hinv
            have P3 := hid hpl
            have R3 := hid (HR.out.turned hC3)
            have SX3 := hid (map_push HSX.out hsame hSy)
            clear hK3 hinv hpl hyU hy1 hy2 hFl hsame hSy hC3 HG hx1 hlb
            obtain ⟨v4, w4, hr4, r4, k4⟩ := R3.out.pushP K3.out y (by omega)
            obtain ⟨ao4, cap4, e4, -⟩ := Mem.row_shape r4.p.row
            subst e4
            have HR4 := hid hr4
            have R4 := hid r4
            have K4 := hid k4
            clear hr4 r4 k4 R3 K3
            go_upto_region 24 with (at_builtin; refine wpList_append_run rfl (.tmp 89) (.tmp 91) tIs tIs rfl _ _ (by simp [Act.eval]) (by simp [Act.eval]) HR4.out ?_)
            go_wp2_with fail
            refine (HZ.out _).mono ?_
            rintro e w5 ⟨rfl, hb⟩
            have K5 := hid (K4.out.kept hb)
            have R5 := hid (R4.out.on hb)
            clear hb K4 R4
            obtain ⟨v6, w6, hr6, r6, k6⟩ := R5.out.pushX K5.out (zeros 232) (by omega)
            obtain ⟨ao6, cap6, e6, -⟩ := Mem.row_shape r6.x.row
            subst e6
            obtain ⟨nu6, hn6⟩ : ∃ nu6, nu6 = nu + 1 := ⟨_, rfl⟩
            rw [← hn6] at hr6 r6
            have HR6 := hid hr6
            have R6 := hid r6
            have K6 := hid k6
            have UL6 : Hid ((U ++ [y]).length = nu6) := hid (by rw [List.length_append, HUL.out, hn6]; rfl)
            have XL6 : Hid ((X ++ [zeros 232]).length = nu6) := hid (by rw [List.length_append, HXL.out, hn6]; rfl)
            have hnu6 : nu6 ≤ 100 := by omega
            have e3m : 3 * m + 3 = 3 * (m + 1) := by omega
            rw [e3m] at K6
            rw [← hn6]
            clear hr6 r6 k6 e3m hn6 K5 R5
            generalize U ++ [y] = U6 at *
            generalize X ++ [zeros 232] = X6 at *
            generalize bs (zeros 232) = z232 at *
            go_wp2_with (at_builtin; refine wpList_append_run rfl (.tmp 93) (.tmp 95) tSs tSs rfl _ _ (by simp [Act.eval]) (by simp [Act.eval]) HR6.out ?_)
            clear HR6 HR4
            go_loopw [11] (fun i wr2 => ∃ k : Nat, k ≤ nu6 ∧ i = .int .i64 k ∧ Hid (Below w6.heap.size w6 wr2)) (fun i _ => nu6 - (intOf i).toNat)
            case atStart => exact ⟨0, Nat.zero_le _, rfl, hid (Below.refl _ _)⟩
            case round =>
              obtain ⟨k, hk, rfl, HB⟩ := hrel
              have K7 := hid (K6.out.kept HB.out)
              have R7 := hid (R6.out.on HB.out)
              by_cases hlk : k < nu6
              · have hlk2 : (k : Int) < nu6 := by omega
                have hkU : k < U6.length := by rw [UL6.out]; exact hlk
                have hkX : k < X6.length := by rw [XL6.out]; exact hlk
                have hIU := Mem.ints_row (l := U6) (by have := R7.out.p.row; rw [← UL6.out] at this; exact this) (by rw [UL6.out]; unfold maxLen; omega)
                have hIX := strs_row (l := X6) (by have := R7.out.x.row; rw [← XL6.out] at this; exact this) (by rw [XL6.out]; unfold maxLen; omega)
                obtain ⟨ao7, cap7, e7, -, -, hc7⟩ := hIU.ways1
                obtain ⟨b1, o1, hao1, hb1, hu1⟩ := hc7 k hkU
                simp only [Value.slice.injEq] at e7
                obtain ⟨rfl, -, rfl⟩ := e7
                subst hao1
                obtain ⟨ao8, cap8, e8, -, -, hc8⟩ := hIX.ways1
                obtain ⟨b2, o2, hao2, hb2, hu2⟩ := hc8 k hkX
                simp only [Value.slice.injEq] at e8
                obtain ⟨rfl, -, rfl⟩ := e8
                subst hao2
                have hr := I3.out.rg U6[k] (List.mem_append_left _ (List.getElem_mem hkU))
                have HG7 := hid (K7.out.get (by decide) (wf_of (by omega) (by have := P3.out; omega)) (map_at SX3.out hkU hkX))
                generalize U6[k] = uk at *
                generalize hxk : bs X6[k] = xk at *
                clear hIU hIX hc7 hc8 hr hxk
                go_wp2_with fail
                refine HG7.out.mono ?_
                rintro e w8 ⟨rfl, hb⟩
                have hu3 := (World.cell?_of_block (a := ⟨b2, o2 + k, none⟩) (hb.block b2 hb2)).trans hu2
                have hb3 : b2 < w8.heap.size := Nat.lt_of_lt_of_le hb2 hb.size
                have HB8 := hid (HB.out.trans (hb.mono HB.out.size))
                clear hb hu1 hu2 hb1 hb2 HG7 HB K7 R7
                go_wp2
                go_roundw
                case rel => exact ⟨k + 1, by omega, by go_num, HB8⟩
                case measure => simp [intOf]; omega
              · have hlk2 : ¬ (k : Int) < nu6 := by omega
                clear HB
                go_wp2
                go_roundw
                case rel => exact ⟨m + 1, nu6, cap4, cap6, ao4, ao6, U6, F', X6, h', S', hlt1, hlt2, rfl, rfl, by go_num, UL6, XL6, P3, K7, I3, R7, SX3⟩
                case measure => simp [intOf]; omega
        · have hxa : (x.tmod 4 == 0) = false := by simpa using hx4
          by_cases hx5 : x.tmod 4 = 1
          · have hxb : (x.tmod 4 == 1) = true := by simpa using hx5
            clear hx4 hx5
            have hUl := HUL.out
            have hXl := HXL.out
            have hIU := Mem.ints_row (l := U) (by have := HR.out.p.row; rw [← hUl] at this; exact this) (by rw [hUl]; unfold maxLen; omega)
            have hIX := strs_row (l := X) (by have := HR.out.x.row; rw [← hXl] at this; exact this) (by rw [hXl]; unfold maxLen; omega)
            obtain ⟨ao7, cap7, e7, -, hcapP, hc7⟩ := hIU.ways1
            obtain ⟨b1, o1, hao1, hb1, hu1⟩ := hc7 j (by omega)
            simp only [Value.slice.injEq] at e7
            obtain ⟨rfl, -, rfl⟩ := e7
            subst hao1
            obtain ⟨ao8, cap8, e8, -, hcapD, hc8⟩ := hIX.ways1
            obtain ⟨b2, o2, hao2, -, -⟩ := hc8 j (by omega)
            simp only [Value.slice.injEq] at e8
            obtain ⟨rfl, -, rfl⟩ := e8
            subst hao2
            have HG := hid (HK.out.give (by decide) (by omega) HIV.out (by have := hpg.out; omega) (i := j) (by omega))
            generalize hy : U[j] = y at *
            rw [hUl] at hcapP
            rw [hXl] at hcapD
            clear hy hIU hIX hc7 hc8
            go_wp2_with fail
            refine HG.out.mono ?_
            rintro e w3 ⟨h', S', rfl, hK3, hinv, hpp, hsame, hC3⟩
            have K3 := hid hK3
            have I3 := hid hinv
            have P3 : Hid (h'.pages ≤ 100) := hid (by rw [hpp]; exact hpg.out)
            have R3 := hid (HR.out.turned hC3)
            have SX3 := hid (map_cut HSX.out hsame)
            clear hK3 hinv hpp hsame hC3 HG hx1 hlb hb1 hu1
            go_upto_region 28 with fail
            have k3d := K3.out.kept (Below.refl w3.heap.size w3).drew
            have r3d := R3.out.on (Below.refl w3.heap.size w3).drew
            rw [show (Value.slice (some ⟨b1, o1, none⟩) nu capP) = .slice (some ⟨b1, o1, none⟩) U.length capP by rw [hUl]] at r3d
            have r3e : Rws s d w.heap.size w3.drew (.slice (some ⟨b1, o1, none⟩) U.length capP) (.slice (some ⟨b2, o2, none⟩) nu capD) U.length nu U X := by rw [hUl] at r3d ⊢; exact r3d
            obtain ⟨vA, wA, vB, wB, hrA, hrB, rB, kB⟩ := r3e.cutP k3d (by omega) (j := j) (by omega)
            have kBd := kB.kept (Below.refl wB.heap.size wB).drew
            have rBd := rB.on (Below.refl wB.heap.size wB).drew
            have rBe : Rws s d w.heap.size wB.drew vB (.slice (some ⟨b2, o2, none⟩) X.length capD) (U.take j ++ U.drop (j + 1)).length X.length (U.take j ++ U.drop (j + 1)) X := by rw [hXl]; exact rBd
            obtain ⟨vC, wC, vD, wD, hrC, hrD, rD, kD⟩ := rBe.cutX kBd (by omega) (j := j) (by omega)
            obtain ⟨D1, hD1⟩ : ∃ D, D = Mem.dropS 1 (some ⟨b1, o1, none⟩) nu capP (j + 1) := ⟨_, rfl⟩
            obtain ⟨D2, hD2⟩ : ∃ D, D = Mem.dropS 1 (some ⟨b2, o2, none⟩) nu capD (j + 1) := ⟨_, rfl⟩
            rw [hUl, ← hD1] at hrB
            rw [hXl, ← hD2] at hrD
            have hs1 : ∀ w : World, (Instr.sliceAt tIs (.slice (some ⟨b1, o1, none⟩) nu capP) (some (.int .i64 ((j : Int) + 1))) none none).run Try.prog w = .ok D1 w := fun w => by
              rw [hD1]
              have := spareOnce.slice_from (n := nu) (cap := capP) (m := j + 1) b1 o1 (by omega) hcapP w
              push_cast at this
              exact this
            have hs2 : ∀ w : World, (Instr.sliceAt tSs (.slice (some ⟨b2, o2, none⟩) nu capD) (some (.int .i64 ((j : Int) + 1))) none none).run Try.prog w = .ok D2 w := fun w => by
              rw [hD2]
              have := slice_fromS (n := nu) (cap := capD) (m := j + 1) b2 o2 (by omega) hcapD w
              push_cast at this
              exact this
            obtain ⟨el1, el2⟩ := cut_len hUl hXl hj
            obtain ⟨nu6, hn6⟩ : ∃ nu6, nu6 = nu - 1 := ⟨_, rfl⟩
            rw [← hn6] at el1 el2
            rw [el1, el2] at rD
            obtain ⟨aoB, capB, eB, -⟩ := Mem.row_shape rD.p.row
            obtain ⟨aoD', capD', eD, -⟩ := Mem.row_shape rD.x.row
            subst eB eD
            have UL6 := hid el1
            have XL6 := hid el2
            have R6 := hid rD
            have e3m : 3 * m + 3 = 3 * (m + 1) := by omega
            rw [e3m] at kD
            have K6 := hid kD
            have hrA2 : (Builtin.append_ #[tIs, tIs] tIs #[.slice (some ⟨w3.heap.size, 0, none⟩) 0 0, .slice (some ⟨b1, o1, none⟩) j capP]).run Try.prog (w3.alloc (.cells #[] tI)).drew = .ok vA wA := hrA
            have hrC2 : (Builtin.append_ #[tSs, tSs] tSs #[.slice (some ⟨wB.heap.size, 0, none⟩) 0 0, .slice (some ⟨b2, o2, none⟩) j capD]).run Try.prog (wB.alloc (.cells #[] tS)).drew = .ok vC wC := hrC
            have HRC := hid hrC2
            have HRD := hid hrD
            have hjc1 : j ≤ capP := by omega
            have hjc2 : j ≤ capD := by omega
            have hnu6 : nu6 ≤ 100 := by omega
            clear hUl hXl k3d r3d r3e rB kB kBd rBd rBe rD kD hrA hrC hrC2 hrD hD1 hD2 el1 el2 e3m hn6 K3 R3 hcapP hcapD
            generalize U.take j ++ U.drop (j + 1) = U6 at *
            generalize X.take j ++ X.drop (j + 1) = X6 at *
            have hwj : IntKind.i64.wrap ((j : Int) + 1) = (j : Int) + 1 := wrap_next j (by omega)
            go_region_held3 (fun _ => True) (exact trivial)
              (first
                | refine step_append_run (by rfl) (.tmp 111) (.tmp 114) tIs tIs (by rfl) (.slice (some ⟨w3.heap.size, 0, none⟩) 0 0) (.slice (some ⟨b1, o1, none⟩) j capP) (by rfl) (by rfl) hrA2 ?_
                | refine step_append_run (by rfl) (.tmp 115) (.tmp 119) tIs tIs (by rfl) vA D1 (by rfl) (by rfl) hrB ?_)
            clear hrA2 hrB hs1
            go_upto_region 29 with fail
            have hrC2 := HRC.out
            have hrD := HRD.out
            go_region_held3 (fun _ => True) (exact trivial)
              (first
                | refine step_append_run (by rfl) (.tmp 121) (.tmp 124) tSs tSs (by rfl) (.slice (some ⟨wB.heap.size, 0, none⟩) 0 0) (.slice (some ⟨b2, o2, none⟩) j capD) (by rfl) (by rfl) hrC2 ?_
                | refine step_append_run (by rfl) (.tmp 125) (.tmp 129) tSs tSs (by rfl) vC D2 (by rfl) (by rfl) hrD ?_)
            clear hrC2 hrD HRC HRD hs2 hwj
            generalize wD = w6 at *
            go_wp2_with fail
            go_loopw [11] (fun i wr2 => ∃ k : Nat, k ≤ nu6 ∧ i = .int .i64 k ∧ Hid (Below w6.heap.size w6 wr2)) (fun i _ => nu6 - (intOf i).toNat)
            case atStart => exact ⟨0, Nat.zero_le _, rfl, hid (Below.refl _ _)⟩
            case round =>
              obtain ⟨k, hk, rfl, HB⟩ := hrel
              have K7 := hid (K6.out.kept HB.out)
              have R7 := hid (R6.out.on HB.out)
              by_cases hlk : k < nu6
              · have hlk2 : (k : Int) < nu6 := by omega
                have hkU : k < U6.length := by rw [UL6.out]; exact hlk
                have hkX : k < X6.length := by rw [XL6.out]; exact hlk
                have hIU := Mem.ints_row (l := U6) (by have := R7.out.p.row; rw [← UL6.out] at this; exact this) (by rw [UL6.out]; unfold maxLen; omega)
                have hIX := strs_row (l := X6) (by have := R7.out.x.row; rw [← XL6.out] at this; exact this) (by rw [XL6.out]; unfold maxLen; omega)
                obtain ⟨ao7, cap7, e7, -, -, hc7⟩ := hIU.ways1
                obtain ⟨b1, o1, hao1, hb1, hu1⟩ := hc7 k hkU
                simp only [Value.slice.injEq] at e7
                obtain ⟨rfl, -, rfl⟩ := e7
                subst hao1
                obtain ⟨ao8, cap8, e8, -, -, hc8⟩ := hIX.ways1
                obtain ⟨b2, o2, hao2, hb2, hu2⟩ := hc8 k hkX
                simp only [Value.slice.injEq] at e8
                obtain ⟨rfl, -, rfl⟩ := e8
                subst hao2
                have hr := I3.out.rg U6[k] (List.mem_append_left _ (List.getElem_mem hkU))
                have HG7 := hid (K7.out.get (by decide) (wf_of (by omega) (by have := P3.out; omega)) (map_at SX3.out hkU hkX))
                generalize U6[k] = uk at *
                generalize hxk : bs X6[k] = xk at *
                clear hIU hIX hc7 hc8 hr hxk
                go_wp2_with fail
                refine HG7.out.mono ?_
                rintro e w8 ⟨rfl, hb⟩
                have hu3 := (World.cell?_of_block (a := ⟨b2, o2 + k, none⟩) (hb.block b2 hb2)).trans hu2
                have hb3 : b2 < w8.heap.size := Nat.lt_of_lt_of_le hb2 hb.size
                have HB8 := hid (HB.out.trans (hb.mono HB.out.size))
                clear hb hu1 hu2 hb1 hb2 HG7 HB K7 R7
                go_wp2
                go_roundw
                case rel => exact ⟨k + 1, by omega, by go_num, HB8⟩
                case measure => simp [intOf]; omega
              · have hlk2 : ¬ (k : Int) < nu6 := by omega
                clear HB
                go_wp2
                go_roundw
                case rel => exact ⟨m + 1, nu6, capB, capD', aoB, aoD', U6, _ :: F, X6, h', S', hlt1, hlt2, rfl, rfl, by go_num, UL6, XL6, P3, K7, I3, R7, SX3⟩
                case measure => simp [intOf]; omega
          · have hxb : (x.tmod 4 == 1) = false := by simpa using hx5
            clear hx4 hx5
            have hUl := HUL.out
            have hXl := HXL.out
            obtain ⟨s2, hconv⟩ := two_bytes x m (by omega)
            have hconv := hconv wr
            obtain ⟨T, hT, hTl⟩ := full_data s2
            have HF := hid (fun w => full_any s2 w)
            rw [hT] at HF
            go_wp2_with fail
            refine (HF.out _).mono ?_
            rintro e w4 ⟨rfl, hb⟩
            have hb4 : Below wr.heap.size wr w4 := ((Below.refl wr.heap.size wr).alloc (Nat.le_refl _) _).trans (hb.mono (by simp))
            have K4 := hid (HK.out.kept hb4)
            have R4 := hid (HR.out.on hb4)
            clear hb hb4 HF hconv hT hx1 hlb
            have hIU := Mem.ints_row (l := U) (by have := R4.out.p.row; rw [← hUl] at this; exact this) (by rw [hUl]; unfold maxLen; omega)
            obtain ⟨ao7, cap7, e7, -, -, hc7⟩ := hIU.ways1
            obtain ⟨b1, o1, hao1, hb1, hu1⟩ := hc7 j (by omega)
            simp only [Value.slice.injEq] at e7
            obtain ⟨rfl, -, rfl⟩ := e7
            subst hao1
            have HG := hid (K4.out.put (by decide) (by omega) HIV.out (by have := hpg.out; omega) (n := U[j]) (List.getElem_mem (by omega)) T hTl)
            have SX3 := hid (map_set (z := T) HSX.out (show j < U.length by omega) (List.nodup_append.1 HIV.out.nd).1)
            generalize U[j] = y at *
            generalize hS' : S.set y T = S' at *
            obtain ⟨ao8, cap8, e8, hg8⟩ := Mem.row_shape R4.out.x.row
            obtain ⟨b2, hao2, -⟩ := hg8 hn
            simp only [Value.slice.injEq] at e8
            obtain ⟨rfl, -, rfl⟩ := e8
            subst hao2
            clear hIU hc7 hS' hg8 K4
            go_wp2_with fail
            refine HG.out.mono ?_
            rintro e w5 ⟨rfl, hK5, hinv, hC5⟩
            have I3 := hid hinv
            have R5 := hid (R4.out.turned hC5)
            have hIX := strs_row (l := X) (by have := R5.out.x.row; rw [← hXl] at this; exact this) (by rw [hXl]; unfold maxLen; omega)
            obtain ⟨ao9, cap9, e9, -, -, hc9⟩ := hIX.ways1
            obtain ⟨b3, o3, hao3, hb3, hu3⟩ := hc9 j (by omega)
            simp only [Value.slice.injEq] at e9
            obtain ⟨rfl, -, rfl⟩ := e9
            simp only [Option.some.injEq, Addr.mk.injEq, and_true] at hao3
            obtain ⟨rfl, rfl⟩ := hao3
            rw [Nat.zero_add] at hu3
            obtain ⟨xj, hu4⟩ : ∃ xj, w5.cell? ⟨b2, j, none⟩ = some xj := ⟨_, hu3⟩
            clear hu3
            have hfz := World.ownsRow.frozenAt R5.out.x.row j
            obtain ⟨r6, k6⟩ := R5.out.put hK5 j T
            have e3m : 3 * m + 3 = 3 * (m + 1) := by omega
            rw [e3m] at k6
            have R6 := hid r6
            have K6 := hid k6
            have XL6 : Hid ((X.set j T).length = nu) := hid (by rw [List.length_set]; exact HXL.out)
            have hnu6 : nu ≤ 100 := by omega
            clear hK5 hinv hC5 hIX hc9 r6 k6 e3m hUl hXl HG hb1 hu1
            generalize bs T = tv at *
            generalize X.set j T = X6 at *
            go_upto_region 30 with fail
            clear hfz hu4 hb3 R5
            generalize w5.setCell ⟨b2, j, none⟩ (.string tv) = w6 at *
            generalize (some (⟨b1, o1, none⟩ : Addr)) = aoP at *
            generalize (some (⟨b2, 0, none⟩ : Addr)) = aoD at *
            go_wp2_with fail
            go_loopw [11] (fun i wr2 => ∃ k : Nat, k ≤ nu ∧ i = .int .i64 k ∧ Hid (Below w6.heap.size w6 wr2)) (fun i _ => nu - (intOf i).toNat)
            case atStart => exact ⟨0, Nat.zero_le _, rfl, hid (Below.refl _ _)⟩
            case round =>
              obtain ⟨k, hk, rfl, HB⟩ := hrel
              have K7 := hid (K6.out.kept HB.out)
              have R7 := hid (R6.out.on HB.out)
              by_cases hlk : k < nu
              · have hlk2 : (k : Int) < nu := by omega
                have hkU : k < U.length := by rw [HUL.out]; exact hlk
                have hkX : k < X6.length := by rw [XL6.out]; exact hlk
                have hIU := Mem.ints_row (l := U) (by have := R7.out.p.row; rw [← HUL.out] at this; exact this) (by rw [HUL.out]; unfold maxLen; omega)
                have hIX := strs_row (l := X6) (by have := R7.out.x.row; rw [← XL6.out] at this; exact this) (by rw [XL6.out]; unfold maxLen; omega)
                obtain ⟨ao7, cap7, e7, -, -, hc7⟩ := hIU.ways1
                obtain ⟨b1, o1, hao1, hb1, hu1⟩ := hc7 k hkU
                simp only [Value.slice.injEq] at e7
                obtain ⟨rfl, -, rfl⟩ := e7
                subst hao1
                obtain ⟨ao8, cap8, e8, -, -, hc8⟩ := hIX.ways1
                obtain ⟨b2, o2, hao2, hb2, hu2⟩ := hc8 k hkX
                simp only [Value.slice.injEq] at e8
                obtain ⟨rfl, -, rfl⟩ := e8
                subst hao2
                have hr := I3.out.rg U[k] (List.mem_append_left _ (List.getElem_mem hkU))
                have HG7 := hid (K7.out.get (by decide) (wf_of (by omega) (by have := hpg.out; omega)) (map_at SX3.out hkU hkX))
                generalize U[k] = uk at *
                generalize hxk : bs X6[k] = xk at *
                clear hIU hIX hc7 hc8 hr hxk
                go_wp2_with fail
                refine HG7.out.mono ?_
                rintro e w8 ⟨rfl, hb⟩
                have hu3 := (World.cell?_of_block (a := ⟨b2, o2 + k, none⟩) (hb.block b2 hb2)).trans hu2
                have hb3 : b2 < w8.heap.size := Nat.lt_of_lt_of_le hb2 hb.size
                have HB8 := hid (HB.out.trans (hb.mono HB.out.size))
                clear hb hu1 hu2 hb1 hb2 HG7 HB K7 R7
                go_wp2
                go_roundw
                case rel => exact ⟨k + 1, by omega, by go_num, HB8⟩
                case measure => simp [intOf]; omega
              · have hlk2 : ¬ (k : Int) < nu := by omega
                clear HB
                go_wp2
                go_roundw
                case rel => exact ⟨m + 1, nu, _, _, _, _, U, F, X6, h, S', hlt1, hlt2, rfl, rfl, by go_num, HUL, XL6, hpg, K7, I3, R7, SX3⟩
                case measure => simp [intOf]; omega
      · have hn2 : ¬ (0 : Int) < (nu : Int) := by omega
        have hn3 : ((nu : Int) == 0) = true := by simp; omega
        by_cases hx4 : x.tmod 4 = 0
        · have hxa : (x.tmod 4 == 0) = true := by simpa using hx4
          clear hx4
          by_cases hfull : F.length = 0 ∧ (100 : Int) ≤ h.pages
          · have h99 := full_99 HIV.out HUL.out hpg.out hfull
            have HG := hid (HK.out.full (by decide) (by omega) HIV.out (by have := hpg.out; omega) hfull.1 hfull.2)
            clear hfull
            go_wp2_with fail
            refine HG.out.mono ?_
            rintro e w3 ⟨rfl, hK3, hC3⟩
            have K3 := hid (hK3.more (show 3 * m ≤ 3 * (m + 1) by omega))
            have R3 := hid (HR.out.turned hC3)
            clear hK3 hC3 HG hx1 hlb
            go_wp2
            go_roundw
            case rel => exact ⟨m + 1, nu, capP, capD, aoP, aoD, U, F, X, h, S, hlt1, hlt2, rfl, rfl, by go_num, HUL, HXL, hpg, K3, HIV, R3, HSX⟩
            case measure => simp [intOf]; omega
          · have HG := hid (HK.out.take (by decide) (by omega) HIV.out (by decide) hpg.out hfull)
            clear hfull
            go_wp2_with fail
            refine HG.out.mono ?_
            rintro e w3 ⟨y, h', S', F', rfl, hK3, hinv, hpl, hyU, hy1, hy2, hFl, hsame, hSy, hC3⟩
            have K3 := hid hK3
            have I3 := hid hinv
            have P3 := hid hpl
            have R3 := hid (HR.out.turned hC3)
            have SX3 := hid (map_push HSX.out hsame hSy)
            clear hK3 hinv hpl hyU hy1 hy2 hFl hsame hSy hC3 HG hx1 hlb
            obtain ⟨v4, w4, hr4, r4, k4⟩ := R3.out.pushP K3.out y (by omega)
            obtain ⟨ao4, cap4, e4, -⟩ := Mem.row_shape r4.p.row
            subst e4
            have HR4 := hid hr4
            have R4 := hid r4
            have K4 := hid k4
            clear hr4 r4 k4 R3 K3
            go_upto_region 24 with (at_builtin; refine wpList_append_run rfl (.tmp 89) (.tmp 91) tIs tIs rfl _ _ (by simp [Act.eval]) (by simp [Act.eval]) HR4.out ?_)
            go_wp2_with fail
            refine (HZ.out _).mono ?_
            rintro e w5 ⟨rfl, hb⟩
            have K5 := hid (K4.out.kept hb)
            have R5 := hid (R4.out.on hb)
            clear hb K4 R4
            obtain ⟨v6, w6, hr6, r6, k6⟩ := R5.out.pushX K5.out (zeros 232) (by omega)
            obtain ⟨ao6, cap6, e6, -⟩ := Mem.row_shape r6.x.row
            subst e6
            obtain ⟨nu6, hn6⟩ : ∃ nu6, nu6 = nu + 1 := ⟨_, rfl⟩
            rw [← hn6] at hr6 r6
            have HR6 := hid hr6
            have R6 := hid r6
            have K6 := hid k6
            have UL6 : Hid ((U ++ [y]).length = nu6) := hid (by rw [List.length_append, HUL.out, hn6]; rfl)
            have XL6 : Hid ((X ++ [zeros 232]).length = nu6) := hid (by rw [List.length_append, HXL.out, hn6]; rfl)
            have hnu6 : nu6 ≤ 100 := by omega
            have e3m : 3 * m + 3 = 3 * (m + 1) := by omega
            rw [e3m] at K6
            rw [← hn6]
            clear hr6 r6 k6 e3m hn6 K5 R5
            generalize U ++ [y] = U6 at *
            generalize X ++ [zeros 232] = X6 at *
            generalize bs (zeros 232) = z232 at *
            go_wp2_with (at_builtin; refine wpList_append_run rfl (.tmp 93) (.tmp 95) tSs tSs rfl _ _ (by simp [Act.eval]) (by simp [Act.eval]) HR6.out ?_)
            clear HR6 HR4
            go_loopw [11] (fun i wr2 => ∃ k : Nat, k ≤ nu6 ∧ i = .int .i64 k ∧ Hid (Below w6.heap.size w6 wr2)) (fun i _ => nu6 - (intOf i).toNat)
            case atStart => exact ⟨0, Nat.zero_le _, rfl, hid (Below.refl _ _)⟩
            case round =>
              obtain ⟨k, hk, rfl, HB⟩ := hrel
              have K7 := hid (K6.out.kept HB.out)
              have R7 := hid (R6.out.on HB.out)
              by_cases hlk : k < nu6
              · have hlk2 : (k : Int) < nu6 := by omega
                have hkU : k < U6.length := by rw [UL6.out]; exact hlk
                have hkX : k < X6.length := by rw [XL6.out]; exact hlk
                have hIU := Mem.ints_row (l := U6) (by have := R7.out.p.row; rw [← UL6.out] at this; exact this) (by rw [UL6.out]; unfold maxLen; omega)
                have hIX := strs_row (l := X6) (by have := R7.out.x.row; rw [← XL6.out] at this; exact this) (by rw [XL6.out]; unfold maxLen; omega)
                obtain ⟨ao7, cap7, e7, -, -, hc7⟩ := hIU.ways1
                obtain ⟨b1, o1, hao1, hb1, hu1⟩ := hc7 k hkU
                simp only [Value.slice.injEq] at e7
                obtain ⟨rfl, -, rfl⟩ := e7
                subst hao1
                obtain ⟨ao8, cap8, e8, -, -, hc8⟩ := hIX.ways1
                obtain ⟨b2, o2, hao2, hb2, hu2⟩ := hc8 k hkX
                simp only [Value.slice.injEq] at e8
                obtain ⟨rfl, -, rfl⟩ := e8
                subst hao2
                have hr := I3.out.rg U6[k] (List.mem_append_left _ (List.getElem_mem hkU))
                have HG7 := hid (K7.out.get (by decide) (wf_of (by omega) (by have := P3.out; omega)) (map_at SX3.out hkU hkX))
                generalize U6[k] = uk at *
                generalize hxk : bs X6[k] = xk at *
                clear hIU hIX hc7 hc8 hr hxk
                go_wp2_with fail
                refine HG7.out.mono ?_
                rintro e w8 ⟨rfl, hb⟩
                have hu3 := (World.cell?_of_block (a := ⟨b2, o2 + k, none⟩) (hb.block b2 hb2)).trans hu2
                have hb3 : b2 < w8.heap.size := Nat.lt_of_lt_of_le hb2 hb.size
                have HB8 := hid (HB.out.trans (hb.mono HB.out.size))
                clear hb hu1 hu2 hb1 hb2 HG7 HB K7 R7
                go_wp2
                go_roundw
                case rel => exact ⟨k + 1, by omega, by go_num, HB8⟩
                case measure => simp [intOf]; omega
              · have hlk2 : ¬ (k : Int) < nu6 := by omega
                clear HB
                go_wp2
                go_roundw
                case rel => exact ⟨m + 1, nu6, cap4, cap6, ao4, ao6, U6, F', X6, h', S', hlt1, hlt2, rfl, rfl, by go_num, UL6, XL6, P3, K7, I3, R7, SX3⟩
                case measure => simp [intOf]; omega
        · have hxa : (x.tmod 4 == 0) = false := by simpa using hx4
          clear hx4
          by_cases hfull : F.length = 0 ∧ (100 : Int) ≤ h.pages
          · have h99 := full_99 HIV.out HUL.out hpg.out hfull
            have HG := hid (HK.out.full (by decide) (by omega) HIV.out (by have := hpg.out; omega) hfull.1 hfull.2)
            clear hfull
            go_wp2_with fail
            refine HG.out.mono ?_
            rintro e w3 ⟨rfl, hK3, hC3⟩
            have K3 := hid (hK3.more (show 3 * m ≤ 3 * (m + 1) by omega))
            have R3 := hid (HR.out.turned hC3)
            clear hK3 hC3 HG hx1 hlb
            go_wp2
            go_roundw
            case rel => exact ⟨m + 1, nu, capP, capD, aoP, aoD, U, F, X, h, S, hlt1, hlt2, rfl, rfl, by go_num, HUL, HXL, hpg, K3, HIV, R3, HSX⟩
            case measure => simp [intOf]; omega
          · have HG := hid (HK.out.take (by decide) (by omega) HIV.out (by decide) hpg.out hfull)
            clear hfull
            go_wp2_with fail
            refine HG.out.mono ?_
            rintro e w3 ⟨y, h', S', F', rfl, hK3, hinv, hpl, hyU, hy1, hy2, hFl, hsame, hSy, hC3⟩
            have K3 := hid hK3
            have I3 := hid hinv
            have P3 := hid hpl
            have R3 := hid (HR.out.turned hC3)
            have SX3 := hid (map_push HSX.out hsame hSy)
            clear hK3 hinv hpl hyU hy1 hy2 hFl hsame hSy hC3 HG hx1 hlb
            obtain ⟨v4, w4, hr4, r4, k4⟩ := R3.out.pushP K3.out y (by omega)
            obtain ⟨ao4, cap4, e4, -⟩ := Mem.row_shape r4.p.row
            subst e4
            have HR4 := hid hr4
            have R4 := hid r4
            have K4 := hid k4
            clear hr4 r4 k4 R3 K3
            go_upto_region 24 with (at_builtin; refine wpList_append_run rfl (.tmp 89) (.tmp 91) tIs tIs rfl _ _ (by simp [Act.eval]) (by simp [Act.eval]) HR4.out ?_)
            go_wp2_with fail
            refine (HZ.out _).mono ?_
            rintro e w5 ⟨rfl, hb⟩
            have K5 := hid (K4.out.kept hb)
            have R5 := hid (R4.out.on hb)
            clear hb K4 R4
            obtain ⟨v6, w6, hr6, r6, k6⟩ := R5.out.pushX K5.out (zeros 232) (by omega)
            obtain ⟨ao6, cap6, e6, -⟩ := Mem.row_shape r6.x.row
            subst e6
            obtain ⟨nu6, hn6⟩ : ∃ nu6, nu6 = nu + 1 := ⟨_, rfl⟩
            rw [← hn6] at hr6 r6
            have HR6 := hid hr6
            have R6 := hid r6
            have K6 := hid k6
            have UL6 : Hid ((U ++ [y]).length = nu6) := hid (by rw [List.length_append, HUL.out, hn6]; rfl)
            have XL6 : Hid ((X ++ [zeros 232]).length = nu6) := hid (by rw [List.length_append, HXL.out, hn6]; rfl)
            have hnu6 : nu6 ≤ 100 := by omega
            have e3m : 3 * m + 3 = 3 * (m + 1) := by omega
            rw [e3m] at K6
            rw [← hn6]
            clear hr6 r6 k6 e3m hn6 K5 R5
            generalize U ++ [y] = U6 at *
            generalize X ++ [zeros 232] = X6 at *
            generalize bs (zeros 232) = z232 at *
            go_wp2_with (at_builtin; refine wpList_append_run rfl (.tmp 93) (.tmp 95) tSs tSs rfl _ _ (by simp [Act.eval]) (by simp [Act.eval]) HR6.out ?_)
            clear HR6 HR4
            go_loopw [11] (fun i wr2 => ∃ k : Nat, k ≤ nu6 ∧ i = .int .i64 k ∧ Hid (Below w6.heap.size w6 wr2)) (fun i _ => nu6 - (intOf i).toNat)
            case atStart => exact ⟨0, Nat.zero_le _, rfl, hid (Below.refl _ _)⟩
            case round =>
              obtain ⟨k, hk, rfl, HB⟩ := hrel
              have K7 := hid (K6.out.kept HB.out)
              have R7 := hid (R6.out.on HB.out)
              by_cases hlk : k < nu6
              · have hlk2 : (k : Int) < nu6 := by omega
                have hkU : k < U6.length := by rw [UL6.out]; exact hlk
                have hkX : k < X6.length := by rw [XL6.out]; exact hlk
                have hIU := Mem.ints_row (l := U6) (by have := R7.out.p.row; rw [← UL6.out] at this; exact this) (by rw [UL6.out]; unfold maxLen; omega)
                have hIX := strs_row (l := X6) (by have := R7.out.x.row; rw [← XL6.out] at this; exact this) (by rw [XL6.out]; unfold maxLen; omega)
                obtain ⟨ao7, cap7, e7, -, -, hc7⟩ := hIU.ways1
                obtain ⟨b1, o1, hao1, hb1, hu1⟩ := hc7 k hkU
                simp only [Value.slice.injEq] at e7
                obtain ⟨rfl, -, rfl⟩ := e7
                subst hao1
                obtain ⟨ao8, cap8, e8, -, -, hc8⟩ := hIX.ways1
                obtain ⟨b2, o2, hao2, hb2, hu2⟩ := hc8 k hkX
                simp only [Value.slice.injEq] at e8
                obtain ⟨rfl, -, rfl⟩ := e8
                subst hao2
                have hr := I3.out.rg U6[k] (List.mem_append_left _ (List.getElem_mem hkU))
                have HG7 := hid (K7.out.get (by decide) (wf_of (by omega) (by have := P3.out; omega)) (map_at SX3.out hkU hkX))
                generalize U6[k] = uk at *
                generalize hxk : bs X6[k] = xk at *
                clear hIU hIX hc7 hc8 hr hxk
                go_wp2_with fail
                refine HG7.out.mono ?_
                rintro e w8 ⟨rfl, hb⟩
                have hu3 := (World.cell?_of_block (a := ⟨b2, o2 + k, none⟩) (hb.block b2 hb2)).trans hu2
                have hb3 : b2 < w8.heap.size := Nat.lt_of_lt_of_le hb2 hb.size
                have HB8 := hid (HB.out.trans (hb.mono HB.out.size))
                clear hb hu1 hu2 hb1 hb2 HG7 HB K7 R7
                go_wp2
                go_roundw
                case rel => exact ⟨k + 1, by omega, by go_num, HB8⟩
                case measure => simp [intOf]; omega
              · have hlk2 : ¬ (k : Int) < nu6 := by omega
                clear HB
                go_wp2
                go_roundw
                case rel => exact ⟨m + 1, nu6, cap4, cap6, ao4, ao6, U6, F', X6, h', S', hlt1, hlt2, rfl, rfl, by go_num, UL6, XL6, P3, K7, I3, R7, SX3⟩
                case measure => simp [intOf]; omega
    · have hstop : ¬ ((m : Int) < (l0.length : Int)) ∨ (((m : Int) < (l0.length : Int)) ∧ ¬ ((m : Int) < 150)) := by
        by_cases h1' : m < l0.length
        · exact Or.inr ⟨by omega, fun h2' => hlt ⟨h1', by omega⟩⟩
        · exact Or.inl (by omega)
      have hsum := HIV.out.pg
      rw [HUL.out] at hsum
      have hsp := HIV.out.sp
      have hpl := hpg.out
      have hH := hid (head_ok HK.out.at'.blk)
      unfold hV at hH
      have hend : (h.pages == 1 + (nu : Int) + h.spare) = true := by simp; omega
      have hw2 : wrap64 (1 + (nu : Int) + h.spare) = 1 + (nu : Int) + h.spare := by rw [Num.wrap_i]; omega
      clear hsum hsp
      rcases hstop with hs1 | ⟨hs1, hs2⟩
      all_goals
        go_wp2_with fail
        refine hH.out.mono ?_
        rintro e w3 ⟨rfl, hb⟩
        have K3 := hid ((HK.out.kept hb).kept ((Below.refl w3.heap.size w3).alloc (Nat.le_refl _) (hObj h)))
        have G3 := Sp.Hb.new h w3
        clear hb
        go_upto_region 37 with fail
        obtain ⟨q0, q1, q2, q3, q4, q5⟩ := G3.cells
        have ql := G3.lt
        generalize w3.alloc (.cells #[.int .i64 h.mode, .int .i64 h.pages, .int .i64 h.trunk, .int .i64 h.spare, .int .i64 h.root, .int .u64 (h.change : Nat)] tH) = w4 at *
        go_wp2
        go_ret
        exact ⟨rfl, K3.out.be⟩
end shelfKeeps
end Go.Proofs.Ytbenjlddihpciaa
