/-
  Contracts of the reference's Good, Parts and Value: over any pages, as the project's.
-/
import Derived.Test.YtkoglikaaehhjaaGreatDoorChainRefNew
import Derived.Test.YtkoglikaaehhjaaGreatDoorChainBld
import Derived.Test.YtkoglikaaehhjaaGreatDoorChainGood
import Derived.Test.YtkoglikaaehhjaaGreatDoorChainPage
namespace Go.Proofs.YtkoglikaaehhjaaGreatDoor
open Go.RowKit
namespace Rf
open Sp (Hd hV Book getB zeros zeros_len)
open Num (hid)
open Part (numAt)
open Mem (Bs bs tI tIs tS Chg ptr blk_new blk_cell blk_free wpList_append_run)
open Ch (cV cO tC Pf rdM valM partM good ints)
open No (okC)
set_option maxRecDepth 100000 in
theorem parts_any (n : Nat) (hn : n ≤ 100000) (w : World) : Calls Tryz.prog 22 #[.int .i64 (n : Int)] w fun e w' => e = .returned (.int .i64 ((Ch.partsN n : Nat) : Int)) ∧ w = w' := by
  by_cases h : n ≤ 40
  · have e : Ch.partsN n = 0 := if_pos h
    rw [e]
    have h1 : (n : Int) ≤ 40 := by omega
    go_enter Tryz.func22, Tryz.ntmps22
    go_wp2
    go_ret
    exact ⟨rfl, rfl⟩
  · have e : Ch.partsN n = (n + 226) / 227 := if_neg h
    rw [e]
    have h1 : ¬ (n : Int) ≤ 40 := by omega
    have h2 : wrap64 ((n : Int) + 226) = (n : Int) + 226 := by rw [Num.wrap_i]; omega
    have h3 : ((n : Int) + 226).tdiv 227 = (((n + 226) / 227 : Nat) : Int) := by rw [Int.tdiv_eq_ediv_of_nonneg (by omega)]; omega
    have h4 : wrap64 ((((n + 226) / 227 : Nat)) : Int) = (((n + 226) / 227 : Nat) : Int) := by rw [Num.wrap_i]; omega
    go_enter Tryz.func22, Tryz.ntmps22
    go_wp2
    go_ret
    exact ⟨rfl, rfl⟩
set_option maxRecDepth 100000 in
set_option maxHeartbeats 2000000 in
theorem rgood_any (c : No.C) (w : World) : Calls Tryz.prog 15 #[cV c] w fun e w' => e = .returned (.bool (okC c)) ∧ Below w.heap.size w w' := by
  obtain ⟨z, d, p⟩ := c
  have hz := Sp.bs_size d
  have B1 := hid ((Below.refl w.heap.size w).alloc (Nat.le_refl _) (cO ⟨z, d, p⟩))
  have hX := Ch.nil_iff d
  unfold okC No.okP
  simp only
  by_cases h0 : z < 0
  · rw [decide_eq_false (by omega : ¬ 0 ≤ z)]
    clear hz hX
    go_enter Tryz.func15, Tryz.ntmps15
    go_wp2
    go_ret
    exact ⟨rfl, B1.out⟩
  · rw [decide_eq_true (by omega : 0 ≤ z)]
    by_cases h5 : 5000 < z
    · rw [decide_eq_false (by omega : ¬ z ≤ 5000)]
      clear hz hX
      go_enter Tryz.func15, Tryz.ntmps15
      go_wp2
      go_ret
      exact ⟨rfl, B1.out⟩
    · rw [decide_eq_true (by omega : z ≤ 5000)]
      by_cases h4 : z ≤ 40
      · rw [if_pos h4]
        by_cases hd : (d.length : Int) = z
        · rw [decide_eq_true hd]
          have hd' : (((bs d).size : Int) == z) = true := by rw [hz]; simpa using hd
          by_cases hp : p = 0
          · rw [decide_eq_true hp]
            have hp' : (p == 0) = true := by simpa using hp
            clear hz hX hd hp
            go_enter Tryz.func15, Tryz.ntmps15
            go_wp2
            go_ret
            exact ⟨rfl, B1.out⟩
          · rw [decide_eq_false hp]
            have hp' : (p == 0) = false := by simpa using hp
            clear hz hX hd hp
            go_enter Tryz.func15, Tryz.ntmps15
            go_wp2
            go_ret
            exact ⟨rfl, B1.out⟩
        · rw [decide_eq_false hd]
          have hd' : (((bs d).size : Int) == z) = false := by rw [hz]; simpa using hd
          clear hz hX hd
          go_enter Tryz.func15, Tryz.ntmps15
          go_wp2
          go_ret
          exact ⟨rfl, B1.out⟩
      · rw [if_neg h4]
        cases hq : decide (d = []) with
        | true =>
          rw [hq] at hX
          by_cases h1 : 1 ≤ p
          · rw [decide_eq_true h1]
            by_cases h6 : p < 4096
            · rw [decide_eq_true h6]
              have h7 : p ≤ 4095 := by omega
              clear hz hq h6
              go_enter Tryz.func15, Tryz.ntmps15
              go_wp2
              go_ret
              exact ⟨rfl, B1.out⟩
            · rw [decide_eq_false h6]
              have h7 : ¬ p ≤ 4095 := by omega
              clear hz hq h6
              go_enter Tryz.func15, Tryz.ntmps15
              go_wp2
              go_ret
              exact ⟨rfl, B1.out⟩
          · rw [decide_eq_false h1]
            clear hz hq
            go_enter Tryz.func15, Tryz.ntmps15
            go_wp2
            go_ret
            exact ⟨rfl, B1.out⟩
        | false =>
          rw [hq] at hX
          clear hz hq
          go_enter Tryz.func15, Tryz.ntmps15
          go_wp2
          go_ret
          exact ⟨rfl, B1.out⟩
/-- A row of pages that the call made. -/
structure Pg (base : Nat) (w : World) (v : Value) (pg : List Int) : Prop where
  row : w.ownsRow 0 tI 1 v pg.length (ints pg)
  new : ∀ g, v.ownBlock = some g → base ≤ g
theorem Pg.on {base : Nat} {w w' : World} {v : Value} {pg : List Int} (p : Pg base w v pg) (hb : Below w.heap.size w w') : Pg base w' v pg := ⟨Mem.row_kept p.row (Chg.of_below (F := fun _ => False) hb) (fun _ _ h => h), p.new⟩
theorem Pg.push {base : Nat} {w0 w : World} {v : Value} {pg : List Int} (p : Pg base w v pg) (hb : Below base w0 w) (hs : base ≤ w.heap.size) (y : Int) (hn : pg.length ≤ 1000) :
    ∃ v' w', (Builtin.append_ #[tIs, tIs] tIs #[v, .slice (some ⟨w.heap.size, 0, none⟩) 1 1]).run Tryz.prog (w.alloc (.cells #[.int .i64 y] tI)) = .ok v' w' ∧ Pg base w' v' (pg ++ [y]) ∧ Below base w0 w' := by
  obtain ⟨v', w', hr, ho, hc, hk⟩ := Mem.push_int p.row y (by omega)
  refine ⟨v', w', hr, ⟨?_, fun g hg => ?_⟩, hb.trans (hc.below hs (fun k hk e => by have := p.new k e; omega))⟩
  · show w'.ownsRow 0 tI 1 v' (pg ++ [y]).length ((pg ++ [y]).map _)
    rw [List.length_append, List.map_append]
    exact ho
  · rcases hk g hg with h | h
    · exact p.new g h
    · omega
theorem Pg.start (w : World) {base : Nat} (hb : base ≤ w.heap.size) : Pg base (w.alloc (.cells #[] tI)) (.slice (some ⟨w.heap.size, 0, none⟩) 0 0) [] :=
  ⟨⟨rfl, .inr ⟨w.heap.size, 0, #[], rfl, Nat.zero_le _, blk_new _ _, Nat.le_refl _, Nat.zero_le _, rfl, rfl⟩⟩, fun g hg => by
    have : w.heap.size = g := by simpa [Value.ownBlock] using hg
    omega⟩
theorem Pg.nil (w : World) (base : Nat) : Pg base w (.slice none 0 0) [] := ⟨World.ownsRow_nil w 0 tI 1, fun g hg => by simp [Value.ownBlock] at hg⟩
def RValPost (h : Hd) (B : Book) (w : World) (c : No.C) (e : Ending) (w' : World) : Prop :=
  ∃ (val : Bs) (pg : List Int) (er : Int) (v : Value), e = .returned (.tuple #[.string (bs val), v, .int .i64 er]) ∧ Below w.heap.size w w' ∧ Pg w.heap.size w' v pg ∧ ((val, pg), er) = valM (pf h B) c
theorem prefix_iff {x : Bs} (hl : x.length = 232) : ([3] : Bs).isPrefixOf x = decide (((x[0]'(by omega)).toNat : Int) = 3) := by
  match x, hl with
  | a :: t, _ =>
    rw [Bool.eq_iff_iff, decide_eq_true_eq]
    simp only [List.isPrefixOf, List.getElem_cons_zero, Bool.and_true, beq_iff_eq]
    constructor
    · rintro rfl
      rfl
    · intro h
      have h2 : a.toNat = 3 := by omega
      exact (UInt8.toNat_inj.1 (by rw [h2]; rfl)).symm
theorem bs_get (x : Bs) (i : Nat) (h : i < x.length) (h2 : i < (bs x).size) : (bs x)[i]'h2 = x[i]'h := by
  have h3 : (bs x)[i]'h2 = x.toArray[i]'(by simpa using h) := rfl
  rw [h3]
  exact List.getElem_toArray _
theorem no_way {l : Int} (h : (!decide (l ≤ 227)) = false) (a : 227 < l) : False := by
  simp at h
  omega
theorem blank_no {x : Bs} {k i : Nat} (h : k ≤ i) (hi : i < x.length) (hx : x[i] ≠ 0) : No.blank (x.drop k) = false := by
  unfold No.blank
  rw [List.all_eq_false]
  refine ⟨x[i], ?_, by simpa using hx⟩
  rw [List.mem_iff_getElem]
  exact ⟨i - k, by rw [List.length_drop]; omega, by rw [List.getElem_drop]; congr 1; omega⟩
theorem blank_yes {x : Bs} {k : Nat} (h : ∀ i (hi : i < x.length), k ≤ i → x[i] = 0) : No.blank (x.drop k) = true := by
  unfold No.blank
  rw [List.all_eq_true]
  intro y hy
  obtain ⟨i, hi, rfl⟩ := List.getElem_of_mem hy
  rw [List.getElem_drop, h (k + i) (by rw [List.length_drop] at hi; omega) (by omega)]
  rfl
variable {N : Nat → Prop} {r b : Nat} {lim : Int} {h : Hd} {B : Book} {w : World}
set_option maxRecDepth 100000 in
set_option maxHeartbeats 8000000 in
theorem rvalue_any (A : RAt N r b lim h B w) (c : No.C) : Calls Tryz.prog 11 #[ptr r, cV c] w (RValPost h B w c) := by
  have hA1 : Below w.heap.size w (w.alloc (cO c)) := (Below.refl w.heap.size w).alloc (Nat.le_refl _) _
  have HA1 := hid hA1
  have hbx := blk_new w (cO c)
  have HG := hid (fun w => rgood_any c w)
  have c0 := blk_cell hbx 0
  have c1 := blk_cell hbx 1
  have c2 := blk_cell hbx 2
  have HBX := hid hbx
  have HAT := hid A
  clear hA1 hbx A
  cases hok : okC c with
  | false =>
    rw [hok] at HG
    have HV : Hid (valM (pf h B) c = (([], []), 1)) := hid (if_neg (by rw [hok]; decide))
    clear hok
    go_enter Tryz.func11, Tryz.ntmps11
    go_wp2_with fail
    refine (HG.out _).mono ?_
    rintro e w1 ⟨rfl, hb⟩
    have B1 := hid (HA1.out.trans (hb.mono HA1.out.size))
    clear hb
    go_wp2
    go_ret3
    exact ⟨[], [], 1, _, rfl, B1.out, Pg.nil _ _, HV.out.symm⟩
  | true =>
    rw [hok] at HG
    by_cases hz : c.z ≤ 40
    · have HV : Hid (valM (pf h B) c = ((c.d, []), 0)) := hid (by unfold Ch.valM; rw [if_pos hok, if_pos hz])
      clear hok
      go_enter Tryz.func11, Tryz.ntmps11
      go_wp2_with fail
      refine (HG.out _).mono ?_
      rintro e w1 ⟨rfl, hb⟩
      have B1 := hid (HA1.out.trans (hb.mono HA1.out.size))
      have hbx1 := (hb.block _ (lt_of_block HBX.out)).trans HBX.out
      clear hb c0 c1 c2
      have c0 := blk_cell hbx1 0
      have c1 := blk_cell hbx1 1
      have c2 := blk_cell hbx1 2
      clear hbx1
      go_wp2
      go_ret3
      exact ⟨c.d, [], 0, _, rfl, B1.out, Pg.nil _ _, HV.out.symm⟩
    · have HV : Hid (valM (pf h B) c = rdM (pf h B) 23 c.p c.z.toNat [] []) := hid (by unfold Ch.valM; rw [if_pos hok, if_neg hz])
      have hw := No.okC_ways hok
      have hp : Hid (1 ≤ c.p ∧ c.p < 4096 ∧ 40 < c.z ∧ c.z ≤ 5000) := hid (by
        rcases hw.2.2 with ⟨h1, _⟩ | ⟨h1, h2, h3, h4⟩
        · omega
        · exact ⟨h3, h4, h1, hw.2.1⟩)
      obtain ⟨z, hzn⟩ : ∃ z : Nat, z = c.z.toNat := ⟨_, rfl⟩
      have HZN : Hid ((z : Int) = c.z) := hid (by omega)
      rw [← hzn] at HV
      clear hok hw hzn
      go_enter Tryz.func11, Tryz.ntmps11
      go_wp2_with fail
      refine (HG.out _).mono ?_
      rintro e w1 ⟨rfl, hb⟩
      have B1 := hid (HA1.out.trans (hb.mono HA1.out.size))
      have hbx1 := (hb.block _ (lt_of_block HBX.out)).trans HBX.out
      have hba : Below w1.heap.size w1 (w1.alloc (.cells #[] tI)) := (Below.refl _ _).alloc (Nat.le_refl _) _
      have P2 := hid (Pg.start w1 B1.out.size)
      have B2 := hid (B1.out.trans (hba.mono B1.out.size))
      have hbx2 := (hba.block _ (lt_of_block hbx1)).trans hbx1
      clear hb c0 c1 c2
      have c0 := blk_cell hbx1 0
      have c1 := blk_cell hbx1 1
      have c2 := blk_cell hbx1 2
      clear hbx1 hba
      go_upto_region 7 with fail
      clear c0 c1 c2
      have c0 := blk_cell hbx2 0
      have c1 := blk_cell hbx2 1
      have c2 := blk_cell hbx2 2
      clear hbx2
      generalize w1.alloc (.cells #[] tI) = w2 at *
      generalize w1.heap.size = gp at *
      go_wp2_with fail
      go_loopw [7, 8, 9, 10] (fun ov pv av lv wr => ∃ (m : Nat) (n L : Int) (acc : Bs) (pg : List Int), ov = .string (bs acc) ∧ av = .int .i64 n ∧ lv = .int .i64 L ∧ L ≤ 5000 ∧ -227 ≤ L ∧ 0 ≤ n ∧ n < 4294967296 ∧ Hid (L.toNat ≤ 227 * m ∧ pg.length + m = 23 ∧ acc.length + L.toNat = z) ∧ Hid (rdM (pf h B) m n L.toNat acc pg = rdM (pf h B) 23 c.p z [] []) ∧ Hid (Pg w.heap.size wr pv pg) ∧ Hid (Below w.heap.size w wr)) (fun _ _ _ lv _ => (intOf lv + 227).toNat)
      case atStart => exact ⟨23, c.p, c.z, [], [], rfl, rfl, rfl, by have := hp.out; omega, by have := hp.out; omega, by have := hp.out; omega, by have := hp.out; omega, hid (by have := HZN.out; have := hp.out; simp; omega), hid (by have := HZN.out; congr 1; omega), P2, B2⟩
      case round =>
        obtain ⟨m, n, L, acc, pg, rfl, rfl, rfl, hL1, hL2, hn0, hn1, HB, HRD, HPG, HBE⟩ := hrel
        obtain ⟨ao, cap, rfl, -⟩ := Mem.row_shape HPG.out.row
        by_cases hlt : 0 < L
        · have HG := hid (rget_any (HAT.out.on HBE.out) n)
          obtain ⟨left, hleft⟩ : ∃ left : Nat, L = (left : Int) := ⟨L.toNat, by omega⟩
          subst hleft
          rw [Int.toNat_natCast] at HB HRD
          obtain ⟨m', rfl⟩ : ∃ m', m = m' + 1 := ⟨m - 1, by have := HB.out; omega⟩
          have hl0 : left ≠ 0 := by omega
          go_wp2_with fail
          refine HG.out.mono ?_
          rintro e w3 ⟨hway, hb⟩
          have hbe3 := HBE.out.trans (hb.mono HBE.out.size)
          have BE3 := hid hbe3
          have PG3 := hid (HPG.out.on hb)
          clear hb hbe3 HG
          rcases hway with ⟨hf, rfl⟩ | ⟨x, hf, hxl, rfl⟩
          · have HV2 : Hid (valM (pf h B) c = (([], []), 21)) := hid (by rw [HV.out, ← HRD.out]; exact Ch.rd_no hl0 hf)
            clear hf hl0
            go_wp2
            go_ret3
            exact ⟨[], [], 21, _, rfl, BE3.out, Pg.nil _ _, HV2.out.symm⟩
          · have hs : (bs x).size = 232 := by rw [Sp.bs_size, hxl]
            have HU0 := fun w => Num.runfixed_any ((bs x).extract 1 5) w
            have e1 : ((bs x).extract 1 5).data.toList = (x.drop 1).take 4 := by rw [Sp.ex_mid]; rfl
            rw [e1, Sp.unfix_take x 1 4 (by decide) (by decide) (by omega)] at HU0
            have HU := hid HU0
            have hm1 : numAt x 1 4 < 4294967296 := by
              have h2 := Part.numAt_lt x 1 4
              have h5 : (256 : Nat) ^ 4 = 4294967296 := by decide
              omega
            have hpre := prefix_iff hxl
            obtain ⟨q, hq⟩ : ∃ q : Nat, q = min left 227 := ⟨_, rfl⟩
            have hgood : good x left = (([3] : Bs).isPrefixOf x && ((decide (left ≤ 227) == decide (numAt x 1 4 = 0)) && No.blank (x.drop (5 + q)))) := by
              unfold Ch.good
              rw [decide_eq_true hxl, ← hq]
              simp
            have HGOOD := hid hgood
            have HPY : Hid (good x left = true → partM x left = some ((x.drop 5).take q, ((numAt x 1 4 : Nat) : Int))) := hid (fun h => by rw [Ch.part_yes h, hq])
            have HPN : Hid (good x left = false → partM x left = none) := hid Ch.part_no
            have HF := hid hf
            have HL0 := hid hl0
            have h0s : 0 < (bs x).size := by omega
            have hx0 : (bs x)[0]'h0s = x[0]'(by omega) := bs_get x 0 (by omega) h0s
            have HXL := hid hxl
            have HQ := hid hq
            clear HU0 e1 hgood hf hl0 hq
            generalize hmm : numAt x 1 4 = mm at *
            clear hmm
            cases hp3 : ([3] : Bs).isPrefixOf x with
            | false =>
              have hb3 : ((((bs x)[0]'h0s).toNat : Int) != 3) = true := by
                rw [hx0]
                rw [hp3] at hpre
                simpa using hpre.symm
              have HV2 : Hid (valM (pf h B) c = (([], []), 30)) := hid (by rw [HV.out, ← HRD.out]; exact Ch.rd_bad HL0.out HF.out (HPN.out (by rw [HGOOD.out, hp3]; rfl)))
              clear hpre hx0 hp3 hxl
              go_wp2_with fail
              refine (HU.out _).mono ?_
              rintro e w4 ⟨rfl, rfl⟩
              go_wp2
              go_ret3
              exact ⟨[], [], 30, _, rfl, BE3.out, Pg.nil _ _, HV2.out.symm⟩
            | true =>
              have hb3 : ((((bs x)[0]'h0s).toNat : Int) != 3) = false := by
                rw [hx0]
                rw [hp3] at hpre
                simpa using hpre.symm
              have HP3 := hid hp3
              clear hpre hx0 hp3 hxl
              have hway : (((left : Int) ≤ 227 ∧ ((mm : Int) == 0) = false ∨ ¬ (left : Int) ≤ 227 ∧ ((mm : Int) == 0) = true) ∧ (decide (left ≤ 227) == decide (mm = 0)) = false) ∨ ((((left : Int) < 227 ∧ (left : Int) ≤ 227 ∧ ((mm : Int) == 0) = true ∧ left = q) ∨ (¬ (left : Int) < 227 ∧ (left : Int) ≤ 227 ∧ ((mm : Int) == 0) = true ∧ q = 227) ∨ (¬ (left : Int) < 227 ∧ ¬ (left : Int) ≤ 227 ∧ ((mm : Int) == 0) = false ∧ q = 227)) ∧ (decide (left ≤ 227) == decide (mm = 0)) = true) := by
                have hq := HQ.out
                by_cases a : left ≤ 227 <;> by_cases b : mm = 0
                · refine Or.inr ⟨?_, by simp [a, b]⟩
                  by_cases a2 : left < 227
                  · exact Or.inl ⟨by omega, by omega, by simp [b], by omega⟩
                  · exact Or.inr (Or.inl ⟨by omega, by omega, by simp [b], by omega⟩)
                · exact Or.inl ⟨Or.inl ⟨by omega, by simp [b]⟩, by simp [a, b]⟩
                · exact Or.inl ⟨Or.inr ⟨by omega, by simp [b]⟩, by simp [a, b]⟩
                · exact Or.inr ⟨Or.inr (Or.inr ⟨by omega, by omega, by simp [b], by omega⟩), by simp [a, b]⟩
              rcases hway with ⟨hbad, hd⟩ | ⟨hok3, hd⟩
              · have HV2 : Hid (valM (pf h B) c = (([], []), 30)) := hid (by rw [HV.out, ← HRD.out]; exact Ch.rd_bad HL0.out HF.out (HPN.out (by rw [HGOOD.out, hd]; simp)))
                clear hd
                rcases hbad with ⟨a, b⟩ | ⟨a, b⟩
                all_goals
                  go_wp2_with fail
                  refine (HU.out _).mono ?_
                  rintro e w4 ⟨rfl, rfl⟩
                  go_wp2
                  all_goals first
                    | exact (no_way (by assumption) (by assumption)).elim
                    | (go_ret3
                       exact ⟨[], [], 30, _, rfl, BE3.out, Pg.nil _ _, HV2.out.symm⟩)
              · have HGB : Hid (No.blank (x.drop (5 + q)) = false → valM (pf h B) c = (([], []), 30)) := hid (fun hb => by rw [HV.out, ← HRD.out]; exact Ch.rd_bad HL0.out HF.out (HPN.out (by rw [HGOOD.out, hb]; simp)))
                have HGY : Hid (No.blank (x.drop (5 + q)) = true → partM x left = some ((x.drop 5).take q, (mm : Int))) := hid (fun hb => HPY.out (by rw [HGOOD.out, hd, hb, HP3.out]; rfl))
                have hq2 : Hid (q ≤ 227 ∧ q = min left 227) := hid (by have := HQ.out; omega)
                have hq3 : q ≤ 227 := hq2.out.1
                clear hd
                rcases hok3 with ⟨a, a2, b, hql⟩ | ⟨a, a2, b, hql⟩ | ⟨a, a2, b, hql⟩
                · subst hql
                  go_wp2_with fail
                  refine (HU.out _).mono ?_
                  rintro e w4 ⟨rfl, rfl⟩
                  go_wp2_with fail
                  go_loopw [16] (fun iv wr2 => ∃ k : Nat, iv = .int .i64 (k : Int) ∧ k ≤ 232 ∧ wr2 = w3 ∧ Hid (5 + left ≤ k ∧ ∀ i (hi : i < x.length), 5 + left ≤ i → i < k → x[i] = 0)) (fun iv _ => 232 - (intOf iv).toNat)
                  case atStart => exact ⟨5 + left, by go_num, by omega, rfl, hid ⟨Nat.le_refl _, fun i hi h1 h2 => by omega⟩⟩
                  case round =>
                    obtain ⟨k, rfl, hk, rfl, HK⟩ := hrel
                    by_cases hk2 : k < 232
                    · have hk3 : (k : Int) < 232 := by omega
                      have hks : k < (bs x).size := by omega
                      have hkl : k < x.length := by have := HXL.out; omega
                      have hxk := bs_get x k hkl hks
                      by_cases hx9 : x[k] = 0
                      · have hb9 : ((((bs x)[k]'hks).toNat : Int) != 0) = false := by rw [hxk, hx9]; rfl
                        have HK2 : Hid (5 + left ≤ k + 1 ∧ ∀ i (hi : i < x.length), 5 + left ≤ i → i < k + 1 → x[i] = 0) := hid ⟨by have := HK.out.1; omega, fun i hi h1 h2 => by
                          by_cases h3 : i = k
                          · subst h3
                            exact hx9
                          · exact HK.out.2 i hi h1 (by omega)⟩
                        clear hxk hx9
                        go_wp2
                        go_roundw
                        case rel => exact ⟨k + 1, by go_num, by omega, by first | rfl | trivial, HK2⟩
                        case measure => simp [intOf]; omega
                      · have hb9 : ((((bs x)[k]'hks).toNat : Int) != 0) = true := by
                          rw [hxk, bne_iff_ne]
                          intro e
                          exact hx9 (UInt8.toNat_inj.1 (by have : (x[k]).toNat = 0 := by omega
                                                           rw [this]; rfl))
                        have HV2 := hid (HGB.out (blank_no HK.out.1 hkl hx9))
                        clear hxk hx9
                        go_wp2
                        go_ret3
                        exact ⟨[], [], 30, _, rfl, BE3.out, Pg.nil _ _, HV2.out.symm⟩
                    · have hk3 : ¬ (k : Int) < 232 := by omega
                      have hbl : No.blank (x.drop (5 + left)) = true := blank_yes (fun i hi h1 => HK.out.2 i hi h1 (by have := HXL.out; omega))
                      have hpm := HGY.out hbl
                      have hqm := hq2.out.2
                      have hlen : ((x.drop 5).take left).length = min left 227 := by
                        have h1 := HXL.out
                        have h2 := List.length_take (i := left) (l := x.drop 5)
                        have h3 := List.length_drop (i := 5) (l := x)
                        omega
                      have HRD2 : Hid (rdM (pf h B) m' (mm : Int) (((left : Int) - 227).toNat) (acc ++ (x.drop 5).take left) (pg ++ [n]) = rdM (pf h B) 23 c.p z [] []) := hid (by
                        rw [← HRD.out, Ch.rd_next HL0.out HF.out hpm]
                        congr 1
                        omega)
                      have HB2 : Hid ((((left : Int) - 227).toNat) ≤ 227 * m' ∧ (pg ++ [n]).length + m' = 23 ∧ (acc ++ (x.drop 5).take left).length + (((left : Int) - 227).toNat) = z) := hid (by
                        have := HB.out
                        rw [List.length_append, List.length_append, List.length_singleton, hlen]
                        omega)
                      have hM : (bs x).extract 5 (5 + left) = bs ((x.drop 5).take left) := by rw [Sp.ex_mid, show 5 + left - 5 = left by omega]
                      have hsz1 := Sp.bs_size acc
                      have hsz2 := Sp.bs_size ((x.drop 5).take left)
                      have hcat : ¬ 9223372036854775807 < (bs acc).size + (bs ((x.drop 5).take left)).size := by rw [hsz1, hsz2, hlen]; have := HB.out; have := HZN.out; have := hp.out; omega
                      have hap := Sp.bs_append acc ((x.drop 5).take left)
                      obtain ⟨v6, w6, hr6, P6, hbe6⟩ := PG3.out.push BE3.out BE3.out.size n (by have := HB.out; omega)
                      have HR6 := hid hr6
                      have PG6 := hid P6
                      have BE6 := hid hbe6
                      have hwm : wrap64 (mm : Int) = (mm : Int) := by rw [Num.wrap_i]; omega
                      clear hr6 P6 hbe6 hbl hpm hlen hsz1 hsz2 hqm
                      generalize (x.drop 5).take left = xp at *
                      generalize hac : bs (acc ++ xp) = ac6 at *
                      have HAC := hid hac
                      clear hac
                      go_wp2_with (at_builtin; refine wpList_append_run rfl (.tmp 79) (.tmp 81) tIs tIs rfl _ _ (by simp [Act.eval]) (by simp [Act.eval]) HR6.out ?_)
                      go_roundw
                      case rel => exact ⟨m', (mm : Int), (left : Int) - 227, acc ++ xp, pg ++ [n], by rw [HAC.out], rfl, rfl, by omega, by omega, by omega, by omega, HB2, HRD2, PG6, BE6⟩
                      case measure => simp [intOf]; omega
                · subst hql
                  go_wp2_with fail
                  refine (HU.out _).mono ?_
                  rintro e w4 ⟨rfl, rfl⟩
                  go_wp2_with fail
                  go_loopw [16] (fun iv wr2 => ∃ k : Nat, iv = .int .i64 (k : Int) ∧ k ≤ 232 ∧ wr2 = w3 ∧ Hid (5 + 227 ≤ k ∧ ∀ i (hi : i < x.length), 5 + 227 ≤ i → i < k → x[i] = 0)) (fun iv _ => 232 - (intOf iv).toNat)
                  case atStart => exact ⟨5 + 227, by go_num, by omega, rfl, hid ⟨Nat.le_refl _, fun i hi h1 h2 => by omega⟩⟩
                  case round =>
                    obtain ⟨k, rfl, hk, rfl, HK⟩ := hrel
                    by_cases hk2 : k < 232
                    · have hk3 : (k : Int) < 232 := by omega
                      have hks : k < (bs x).size := by omega
                      have hkl : k < x.length := by have := HXL.out; omega
                      have hxk := bs_get x k hkl hks
                      by_cases hx9 : x[k] = 0
                      · have hb9 : ((((bs x)[k]'hks).toNat : Int) != 0) = false := by rw [hxk, hx9]; rfl
                        have HK2 : Hid (5 + 227 ≤ k + 1 ∧ ∀ i (hi : i < x.length), 5 + 227 ≤ i → i < k + 1 → x[i] = 0) := hid ⟨by have := HK.out.1; omega, fun i hi h1 h2 => by
                          by_cases h3 : i = k
                          · subst h3
                            exact hx9
                          · exact HK.out.2 i hi h1 (by omega)⟩
                        clear hxk hx9
                        go_wp2
                        go_roundw
                        case rel => exact ⟨k + 1, by go_num, by omega, by first | rfl | trivial, HK2⟩
                        case measure => simp [intOf]; omega
                      · have hb9 : ((((bs x)[k]'hks).toNat : Int) != 0) = true := by
                          rw [hxk, bne_iff_ne]
                          intro e
                          exact hx9 (UInt8.toNat_inj.1 (by have : (x[k]).toNat = 0 := by omega
                                                           rw [this]; rfl))
                        have HV2 := hid (HGB.out (blank_no HK.out.1 hkl hx9))
                        clear hxk hx9
                        go_wp2
                        go_ret3
                        exact ⟨[], [], 30, _, rfl, BE3.out, Pg.nil _ _, HV2.out.symm⟩
                    · have hk3 : ¬ (k : Int) < 232 := by omega
                      have hbl : No.blank (x.drop (5 + 227)) = true := blank_yes (fun i hi h1 => HK.out.2 i hi h1 (by have := HXL.out; omega))
                      have hpm := HGY.out hbl
                      have hqm := hq2.out.2
                      have hlen : ((x.drop 5).take 227).length = min left 227 := by
                        have h1 := HXL.out
                        have h2 := List.length_take (i := 227) (l := x.drop 5)
                        have h3 := List.length_drop (i := 5) (l := x)
                        omega
                      have HRD2 : Hid (rdM (pf h B) m' (mm : Int) (((left : Int) - 227).toNat) (acc ++ (x.drop 5).take 227) (pg ++ [n]) = rdM (pf h B) 23 c.p z [] []) := hid (by
                        rw [← HRD.out, Ch.rd_next HL0.out HF.out hpm]
                        congr 1
                        omega)
                      have HB2 : Hid ((((left : Int) - 227).toNat) ≤ 227 * m' ∧ (pg ++ [n]).length + m' = 23 ∧ (acc ++ (x.drop 5).take 227).length + (((left : Int) - 227).toNat) = z) := hid (by
                        have := HB.out
                        rw [List.length_append, List.length_append, List.length_singleton, hlen]
                        omega)
                      have hM : (bs x).extract 5 (5 + 227) = bs ((x.drop 5).take 227) := by rw [Sp.ex_mid, show 5 + 227 - 5 = 227 by omega]
                      have hsz1 := Sp.bs_size acc
                      have hsz2 := Sp.bs_size ((x.drop 5).take 227)
                      have hcat : ¬ 9223372036854775807 < (bs acc).size + (bs ((x.drop 5).take 227)).size := by rw [hsz1, hsz2, hlen]; have := HB.out; have := HZN.out; have := hp.out; omega
                      have hap := Sp.bs_append acc ((x.drop 5).take 227)
                      obtain ⟨v6, w6, hr6, P6, hbe6⟩ := PG3.out.push BE3.out BE3.out.size n (by have := HB.out; omega)
                      have HR6 := hid hr6
                      have PG6 := hid P6
                      have BE6 := hid hbe6
                      have hwm : wrap64 (mm : Int) = (mm : Int) := by rw [Num.wrap_i]; omega
                      clear hr6 P6 hbe6 hbl hpm hlen hsz1 hsz2 hqm
                      generalize (x.drop 5).take 227 = xp at *
                      generalize hac : bs (acc ++ xp) = ac6 at *
                      have HAC := hid hac
                      clear hac
                      go_wp2_with (at_builtin; refine wpList_append_run rfl (.tmp 79) (.tmp 81) tIs tIs rfl _ _ (by simp [Act.eval]) (by simp [Act.eval]) HR6.out ?_)
                      go_roundw
                      case rel => exact ⟨m', (mm : Int), (left : Int) - 227, acc ++ xp, pg ++ [n], by rw [HAC.out], rfl, rfl, by omega, by omega, by omega, by omega, HB2, HRD2, PG6, BE6⟩
                      case measure => simp [intOf]; omega
                · subst hql
                  go_wp2_with fail
                  refine (HU.out _).mono ?_
                  rintro e w4 ⟨rfl, rfl⟩
                  go_wp2_with fail
                  go_loopw [16] (fun iv wr2 => ∃ k : Nat, iv = .int .i64 (k : Int) ∧ k ≤ 232 ∧ wr2 = w3 ∧ Hid (5 + 227 ≤ k ∧ ∀ i (hi : i < x.length), 5 + 227 ≤ i → i < k → x[i] = 0)) (fun iv _ => 232 - (intOf iv).toNat)
                  case atStart => exact ⟨5 + 227, by go_num, by omega, rfl, hid ⟨Nat.le_refl _, fun i hi h1 h2 => by omega⟩⟩
                  case round =>
                    obtain ⟨k, rfl, hk, rfl, HK⟩ := hrel
                    by_cases hk2 : k < 232
                    · have hk3 : (k : Int) < 232 := by omega
                      have hks : k < (bs x).size := by omega
                      have hkl : k < x.length := by have := HXL.out; omega
                      have hxk := bs_get x k hkl hks
                      by_cases hx9 : x[k] = 0
                      · have hb9 : ((((bs x)[k]'hks).toNat : Int) != 0) = false := by rw [hxk, hx9]; rfl
                        have HK2 : Hid (5 + 227 ≤ k + 1 ∧ ∀ i (hi : i < x.length), 5 + 227 ≤ i → i < k + 1 → x[i] = 0) := hid ⟨by have := HK.out.1; omega, fun i hi h1 h2 => by
                          by_cases h3 : i = k
                          · subst h3
                            exact hx9
                          · exact HK.out.2 i hi h1 (by omega)⟩
                        clear hxk hx9
                        go_wp2
                        go_roundw
                        case rel => exact ⟨k + 1, by go_num, by omega, by first | rfl | trivial, HK2⟩
                        case measure => simp [intOf]; omega
                      · have hb9 : ((((bs x)[k]'hks).toNat : Int) != 0) = true := by
                          rw [hxk, bne_iff_ne]
                          intro e
                          exact hx9 (UInt8.toNat_inj.1 (by have : (x[k]).toNat = 0 := by omega
                                                           rw [this]; rfl))
                        have HV2 := hid (HGB.out (blank_no HK.out.1 hkl hx9))
                        clear hxk hx9
                        go_wp2
                        go_ret3
                        exact ⟨[], [], 30, _, rfl, BE3.out, Pg.nil _ _, HV2.out.symm⟩
                    · have hk3 : ¬ (k : Int) < 232 := by omega
                      have hbl : No.blank (x.drop (5 + 227)) = true := blank_yes (fun i hi h1 => HK.out.2 i hi h1 (by have := HXL.out; omega))
                      have hpm := HGY.out hbl
                      have hqm := hq2.out.2
                      have hlen : ((x.drop 5).take 227).length = min left 227 := by
                        have h1 := HXL.out
                        have h2 := List.length_take (i := 227) (l := x.drop 5)
                        have h3 := List.length_drop (i := 5) (l := x)
                        omega
                      have HRD2 : Hid (rdM (pf h B) m' (mm : Int) (((left : Int) - 227).toNat) (acc ++ (x.drop 5).take 227) (pg ++ [n]) = rdM (pf h B) 23 c.p z [] []) := hid (by
                        rw [← HRD.out, Ch.rd_next HL0.out HF.out hpm]
                        congr 1
                        omega)
                      have HB2 : Hid ((((left : Int) - 227).toNat) ≤ 227 * m' ∧ (pg ++ [n]).length + m' = 23 ∧ (acc ++ (x.drop 5).take 227).length + (((left : Int) - 227).toNat) = z) := hid (by
                        have := HB.out
                        rw [List.length_append, List.length_append, List.length_singleton, hlen]
                        omega)
                      have hM : (bs x).extract 5 (5 + 227) = bs ((x.drop 5).take 227) := by rw [Sp.ex_mid, show 5 + 227 - 5 = 227 by omega]
                      have hsz1 := Sp.bs_size acc
                      have hsz2 := Sp.bs_size ((x.drop 5).take 227)
                      have hcat : ¬ 9223372036854775807 < (bs acc).size + (bs ((x.drop 5).take 227)).size := by rw [hsz1, hsz2, hlen]; have := HB.out; have := HZN.out; have := hp.out; omega
                      have hap := Sp.bs_append acc ((x.drop 5).take 227)
                      obtain ⟨v6, w6, hr6, P6, hbe6⟩ := PG3.out.push BE3.out BE3.out.size n (by have := HB.out; omega)
                      have HR6 := hid hr6
                      have PG6 := hid P6
                      have BE6 := hid hbe6
                      have hwm : wrap64 (mm : Int) = (mm : Int) := by rw [Num.wrap_i]; omega
                      clear hr6 P6 hbe6 hbl hpm hlen hsz1 hsz2 hqm
                      generalize (x.drop 5).take 227 = xp at *
                      generalize hac : bs (acc ++ xp) = ac6 at *
                      have HAC := hid hac
                      clear hac
                      go_wp2_with (at_builtin; refine wpList_append_run rfl (.tmp 79) (.tmp 81) tIs tIs rfl _ _ (by simp [Act.eval]) (by simp [Act.eval]) HR6.out ?_)
                      go_roundw
                      case rel => exact ⟨m', (mm : Int), (left : Int) - 227, acc ++ xp, pg ++ [n], by rw [HAC.out], rfl, rfl, by omega, by omega, by omega, by omega, HB2, HRD2, PG6, BE6⟩
                      case measure => simp [intOf]; omega
        · have HV2 : Hid (valM (pf h B) c = ((acc, pg), 0)) := hid (by
            rw [HV.out, ← HRD.out]
            have : L.toNat = 0 := by omega
            rw [this]
            exact Ch.rd_done _ _ _ _ _)
          go_wp2
          go_ret3
          exact ⟨acc, pg, 0, _, rfl, HBE.out, HPG.out, HV2.out.symm⟩
end Rf
end Go.Proofs.YtkoglikaaehhjaaGreatDoor
