/-
  SpareBack: the walk of the statement.
-/
import Derived.Test.YtiomojidfkpagaaSpareFailsW
import Derived.Laws.MakeOwn
namespace Go.Proofs.Ytiomojidfkpagaa
open Go.RowKit
namespace spareBack
open Sp
open Num (hid)
open Mem (Bs bs ptr Chg blk_cell blk_free blk_new blk_set blk_other blk_alloc)
open spareFails (mod_u)
abbrev tB : TypeId := 4
theorem boolInfo : ∃ i, Try.prog.info? tB = some i ∧ i.zero = some (.bool false) ∧ i.size = 1 ∧ i.bytes = 1 := by
  have h : (Try.prog.info? tB).map (fun i => (i.zero, i.size, i.bytes)) = some (some (.bool false), 1, 1) := by kernel_rfl
  cases e : Try.prog.info? tB with
  | none => rw [e] at h; cases h
  | some i =>
    rw [e] at h
    simp only [Option.map_some, Option.some.injEq, Prod.mk.injEq] at h
    exact ⟨i, rfl, h.1, h.2.1, h.2.2⟩
theorem made_bools (n : Nat) (hn : n ≤ 20000) (w : World) : (Instr.makeSlice 74 (.int .i64 ((n : Int) + 1)) (.int .i64 ((n : Int) + 1))).run Try.prog w = .ok (.slice (some ⟨w.heap.size, 0, none⟩) (n + 1) (n + 1)) (w.alloc (.cells (madeCells #[Value.bool false] (n + 1)) tB)) := by
  obtain ⟨i, hi, h0, h1, h2⟩ := boolInfo
  have hr := run_make (P := Try.prog) w 74 tB i _ Try.underlying74 hi h0 .i64 .i64 ((n : Int) + 1) ((n : Int) + 1) (by omega) (by omega) (by rw [h2]; omega) (by omega)
  rw [h1, Nat.mul_one] at hr
  exact hr
/-- The row of marks: which of the pages lie in U. -/
def Fl (w : World) (g n : Nat) (U : List Int) : Prop := ∃ c : Array Value, w.heap[g]? = some (.cells c tB (0, 0)) ∧ c.size = n + 1 ∧ ∀ i : Nat, i < n + 1 → c[i]? = some (.bool (decide ((i : Int) ∈ U)))
theorem Fl.new (w : World) (n : Nat) : Fl (w.alloc (.cells (madeCells #[Value.bool false] (n + 1)) tB)) w.heap.size n [] := by
  have e : (madeCells #[Value.bool false] (n + 1)).toList = List.replicate (n + 1) (.bool false) := toList_madeCells_one _ _
  refine ⟨_, blk_new _ _, ?_, fun i hi => ?_⟩
  · rw [← Array.length_toList, e, List.length_replicate]
  · rw [← Array.getElem?_toList, e, List.getElem?_replicate, if_pos hi]
    simp
theorem Fl.cell {w : World} {g n : Nat} {U : List Int} (h : Fl w g n U) {y : Nat} (hy : y < n + 1) (hn : (y : Int) ∉ U) : w.cell? ⟨g, y, none⟩ = some (.bool false) ∧ w.frozen? ⟨g, y, none⟩ = false ∧ g < w.heap.size := by
  obtain ⟨c, hc, hs, hv⟩ := h
  refine ⟨?_, blk_free hc y, lt_of_block hc⟩
  rw [blk_cell hc, hv y hy]
  simp [hn]
theorem Fl.mark {w : World} {g n : Nat} {U : List Int} (h : Fl w g n U) {y : Nat} (hy : y < n + 1) : Fl (w.setCell ⟨g, y, none⟩ (.bool true)) g n (U ++ [(y : Int)]) := by
  obtain ⟨c, hc, hs, hv⟩ := h
  refine ⟨_, blk_set hc y _, by simpa using hs, fun i hi => ?_⟩
  rw [Array.getElem?_setIfInBounds]
  by_cases e : y = i
  · subst e
    rw [if_pos rfl, if_pos (by omega)]
    simp
  · rw [if_neg e, hv i hi]
    have e2 : ¬ (i : Int) = (y : Int) := by omega
    simp [e2]
theorem Fl.other {w : World} {g n : Nat} {U : List Int} (h : Fl w g n U) {B : Nat} (hB : g ≠ B) (i : Nat) (v : Value) : Fl (w.setCell ⟨B, i, none⟩ v) g n U := by
  obtain ⟨c, hc, hs, hv⟩ := h
  exact ⟨c, blk_other hc hB v, hs, hv⟩
theorem Fl.put {w : World} {g n : Nat} {U : List Int} (h : Fl w g n U) {B : Nat} (hB : g ≠ B) (x : Hd) : Fl (put6 w B x) g n U := (((((h.other hB _ _).other hB _ _).other hB _ _).other hB _ _).other hB _ _).other hB _ _
theorem Fl.on {w w' : World} {g n : Nat} {U : List Int} (h : Fl w g n U) (hb : Below w.heap.size w w') : Fl w' g n U := by
  obtain ⟨c, hc, hs, hv⟩ := h
  exact ⟨c, (hb.block g (lt_of_block hc)).trans hc, hs, hv⟩
theorem Fl.stays {O : Nat → Prop} {w w' : World} {g n : Nat} {U : List Int} (h : Fl w g n U) (hs : Stays O w w') (hO : O g) : Fl w' g n U := by
  obtain ⟨c, hc, hz, hv⟩ := h
  exact ⟨c, hs.at hc hO, hz, hv⟩
theorem lab_mark {O : Nat → Prop} {N B d b cnt : Nat} {h : Hd} {S : St} {w0 w : World} (k : Lab O N B d b cnt h S w0 w) {g : Nat} (hg : O g) (hN : N ≤ g) (hB : B ≠ g) (i : Nat) (v : Value) : Lab O N B d b cnt h S w0 (w.setCell ⟨g, i, none⟩ v) :=
  ⟨k.seen.set hg _, k.hb.other hB _, k.ob, k.on, k.nb, bput k.be hN i _, k.sm⟩
set_option maxRecDepth 100000 in
set_option maxHeartbeats 4000000 in
theorem walk (a0 : Int) (w : World) :
    Calls Try.prog 7 #[.int .i64 a0] w fun e w' => e = .returned (.bool true) ∧ Below w.heap.size w w' := by
  obtain ⟨n, hn2, en⟩ : ∃ n : Nat, n < 200 ∧ wrap64 ((IntKind.u64.wrap a0).tmod 200) = (n : Int) := mod_u a0 200 (by decide) (by decide)
  have en1 : wrap64 ((n : Int) + 1) = (n : Int) + 1 := by rw [Num.wrap_i]; omega
  have HI : Hid (Inv ⟨2, (n : Int) + 1, 0, 0, 0, 0⟩ [] (upN n) []) := hid (inv_new 2 n (Or.inr rfl))
  have HN2 := hid hn2
  have HMK := hid (made_bools n (by omega))
  clear hn2
  go_enter Try.func7, Try.ntmps7
  go_wp2_with fail
  refine (awake_any _).mono ?_
  rintro e wa ⟨rfl, hba⟩
  have BA := hid hba
  clear hba
  go_wp2_with fail
  refine (fresh_any wa).mono ?_
  rintro e w1 ⟨rfl, hs1, hb1, hz1⟩
  have HL1 := hid (lab_new BA.out hs1 hb1 ⟨2, (n : Int) + 1, 0, 0, 0, 0⟩)
  generalize hdd : wa.heap.size + 1 = d at *
  clear hdd
  clear hs1 hb1 hz1
  go_upto_region 6 with fail
  generalize w1.alloc (.cells #[.int .i64 2, .int .i64 ((n : Int) + 1), .int .i64 0, .int .i64 0, .int .i64 0, .int .u64 0] tH) = w2 at *
  generalize hOO : (fun k => k < wa.heap.size ∨ w1.heap.size ≤ k ∧ k < w2.heap.size) = O at *
  generalize w1.heap.size = B at *
  generalize wa.heap.size = b at *
  have EN1 := hid en1
  clear hOO en1
  go_wp2_with fail
  go_loopw [5] (fun i wr => ∃ (j k : Nat) (F : List Int) (h : Hd) (S : St), j ≤ n + 1 ∧ i = .int .i64 j ∧ Hid (j = k + 1) ∧ Hid (F.length = k) ∧ Hid (h.pages = (n : Int) + 1) ∧ Hid (Lab O w.heap.size B d b (2 * k + 1) h S w wr) ∧ Hid (Inv h S.B ((upN n).drop k) F) ∧ Hid (S.left < 0) ∧ Hid (h.mode = 2 ∧ h.change = 0)) (fun i _ => n + 1 - (intOf i).toNat)
  case atStart => exact ⟨1, 0, [], ⟨2, (n : Int) + 1, 0, 0, 0, 0⟩, St0, by omega, rfl, hid rfl, hid rfl, hid rfl, HL1, HI, hid (show (-1 : Int) < 0 by decide), hid ⟨rfl, rfl⟩⟩
  case round =>
    obtain ⟨j, k, F, h, S, hj, rfl, HJ, hF, hpg, HL, HIV, HNG, HMD⟩ := hrel
    by_cases hlt : j ≤ n
    · have hle : (j : Int) ≤ n := by omega
      have HK := hid hlt
      have hn2' := HN2.out
      have hi : 0 < ((upN n).drop k).length := by have := HJ.out; rw [List.length_drop, upN_len]; omega
      have hu0 : ((upN n).drop k)[0] = (j : Int) := by have := HJ.out; rw [List.getElem_drop]; simp [upN]; omega
      have hu1 : ((upN n).drop k).take 0 ++ ((upN n).drop k).drop (0 + 1) = (upN n).drop (k + 1) := by rw [List.take_zero, List.nil_append, List.drop_drop]
      have hg := HL.out.give HNG.out (by have := HJ.out; omega) HIV.out (by have := hpg.out; omega) hi
      rw [hu0] at hg
      have HG := hid hg
      have HU := hid hu1
      obtain ⟨p0, p1, p2, p3, p4, p5⟩ := HL.out.hb.cells
      have pl := HL.out.hb.lt
      unfold hV at HG
      clear hg hi hu0 hu1
      go_wp2_with fail
      refine HG.out.mono ?_
      rintro e w3 ⟨h', S', rfl, hL3, hng, hiv, hmd, hch, hpg', hsp, hst⟩
      rw [HU.out] at hiv
      have hL4 := hL3.kept ((Below.refl w3.heap.size w3).alloc (Nat.le_refl _) (hObj h'))
      have hG4 := Hb.new h' w3
      have L4 := hid hL4
      have G4 := hid hG4
      have HIV4 := hid hiv
      have HNG4 := hid hng
      have HX4 := hid (And.intro hmd (And.intro hch (And.intro hpg' hsp)))
      clear p0 p1 p2 p3 p4 p5 pl hL3 hng hiv hmd hch hpg' hsp hst hL4 hG4
      go_upto_region 10 with fail
      generalize w3.alloc (.cells #[.int .i64 h'.mode, .int .i64 h'.pages, .int .i64 h'.trunk, .int .i64 h'.spare, .int .i64 h'.root, .int .u64 (h'.change : Nat)] tH) = w4 at *
      obtain ⟨p0, p1, p2, p3, p4, p5⟩ := L4.out.hb.cells
      obtain ⟨f0, f1, f2, f3, f4, f5⟩ := L4.out.hb.free
      have pl := L4.out.hb.lt
      obtain ⟨q0, q1, q2, q3, q4, q5⟩ := G4.out.cells
      have ql := G4.out.lt
      have L5 : Hid (Lab O w.heap.size B d b (2 * (k + 1) + 1) h' S' w ((((((w4.setCell ⟨B, 0, none⟩ (.int .i64 h'.mode)).setCell ⟨B, 1, none⟩ (.int .i64 h'.pages)).setCell ⟨B, 2, none⟩ (.int .i64 h'.trunk)).setCell ⟨B, 3, none⟩ (.int .i64 h'.spare)).setCell ⟨B, 4, none⟩ (.int .i64 h'.root)).setCell ⟨B, 5, none⟩ (.int .u64 (h'.change : Nat)))) := hid (by
        have := L4.out.put h'
        rw [show 2 * k + 1 + 2 = 2 * (k + 1) + 1 by omega] at this
        exact this)
      go_wp2
      go_roundw
      case rel => exact ⟨j + 1, k + 1, _, h', S', by have := HK.out; omega, by go_num, hid (by rw [HJ.out]), hid (by simp; have := hF.out; omega), hid (by have := HX4.out.2.2.1; have := hpg.out; omega), L5, HIV4, HNG4, hid ⟨HX4.out.1.trans HMD.out.1, HX4.out.2.1.trans HMD.out.2⟩⟩
      case measure => have := HK.out; simp [intOf]; omega
    · have hle : ¬ (j : Int) ≤ n := by omega
      have hkn : k = n := by have := HJ.out; omega
      subst hkn
      have hw : ((upN k).drop k) = [] := List.drop_eq_nil_of_le (Nat.le_of_eq (upN_len k))
      rw [hw] at HIV
      have hmk := HMK.out
      have en1 := EN1.out
      have hL6 := HL.out.beside (F := fun _ => False) (w' := wr.alloc (.cells (madeCells #[Value.bool false] (k + 1)) tB)) (Chg.of_below ((Below.refl _ _).alloc (Nat.le_refl _) _)) (fun _ h _ => h.elim) id (fun _ _ h => h)
      have hF6 := Fl.new wr k
      have hO6 : wr.heap.size < (wr.alloc (.cells (madeCells #[Value.bool false] (k + 1)) tB)).heap.size := lt_of_block (blk_new wr _)
      have hB6 := HL.out.hb.lt
      have hN6 := HL.out.size
      have L6 := hid hL6
      have F6 := hid hF6
      have O6 : Hid (wr.heap.size < (wr.alloc (.cells (madeCells #[Value.bool false] (k + 1)) tB)).heap.size ∧ B ≠ wr.heap.size ∧ w.heap.size ≤ wr.heap.size) := hid ⟨hO6, by omega, hN6⟩
      clear hL6 hF6 hO6 hB6 hN6 hw HL
      go_upto_region 14 with fail
      generalize wr.alloc (.cells (madeCells #[Value.bool false] (k + 1)) tB) = w5 at *
      clear hmk
      have G6 : Hid ((fun i => O i ∨ wr.heap.size ≤ i ∧ i < w5.heap.size) wr.heap.size) := hid (Or.inr ⟨Nat.le_refl _, O6.out.1⟩)
      generalize hO2 : (fun i => O i ∨ wr.heap.size ≤ i ∧ i < w5.heap.size) = O2 at *
      have O7 : Hid (B ≠ wr.heap.size ∧ w.heap.size ≤ wr.heap.size) := hid O6.out.2
      clear O6 hO2 hle hj
      generalize wr.heap.size = g at *
      clear en1
      go_wp2_with fail
      go_loopw [9] (fun i wr => ∃ (m : Nat) (U F : List Int) (h : Hd) (S : St), m ≤ k ∧ i = .int .i64 m ∧ Hid (U.length = m) ∧ Hid (F.length = k - m) ∧ Hid (h.pages = (k : Int) + 1) ∧ Hid (Lab O2 w.heap.size B d b (2 * k + 1 + 2 * m) h S w wr) ∧ Hid (Inv h S.B U F) ∧ Hid (S.left < 0) ∧ Hid (h.mode = 2 ∧ h.change = 0) ∧ Hid (Fl wr g k U)) (fun i _ => k - (intOf i).toNat)
      case atStart => exact ⟨0, [], F, h, S, Nat.zero_le _, rfl, hid rfl, hid (by rw [hF.out, Nat.sub_zero]), hpg, L6, HIV, HNG, HMD, F6⟩
      case round =>
        clear HJ hF hpg HIV HNG HMD L6 F6
        obtain ⟨m, U, F, h, S, hm, rfl, HUL, hF, hpg, HL, HIV, HNG, HMD, HFL⟩ := hrel
        by_cases hlt : m < k
        · have hle : (m : Int) < k := by omega
          have HK := hid hlt
          have hn2' := HN2.out
          have hg := HL.out.take HNG.out (by omega) HIV.out (by have := hpg.out; omega) (fun _ => by have := hpg.out; omega)
          have HG := hid hg
          obtain ⟨p0, p1, p2, p3, p4, p5⟩ := HL.out.hb.cells
          have pl := HL.out.hb.lt
          unfold hV at HG
          clear hg
          go_wp2_with fail
          refine HG.out.mono ?_
          rintro e w3 ⟨x, h', S', F', rfl, hL3, hng, hxU, hx1, hx2, hiv, hmd, hch, hFl, hsp, hpg', hst⟩
          have hF0 : ¬ F.length = 0 := by have := hF.out; omega
          rw [if_neg hF0] at hpg'
          obtain ⟨y, rfl⟩ : ∃ y : Nat, x = (y : Int) := ⟨x.toNat, by omega⟩
          have hy1 : ¬ (y : Int) < 1 := by omega
          have hy2 : ¬ (k : Int) < (y : Int) := by have := hpg.out; omega
          have hyb : y < k + 1 := by omega
          have hL4 := hL3.kept ((Below.refl w3.heap.size w3).alloc (Nat.le_refl _) (hObj h'))
          have hG4 := Hb.new h' w3
          have hgw : g < w3.heap.size := by
            obtain ⟨c, hc, _⟩ := HFL.out.stays hst G6.out
            exact lt_of_block hc
          have HGW := hid hgw
          have hF4 := (HFL.out.stays hst G6.out).on ((Below.refl w3.heap.size w3).alloc (Nat.le_refl _) (hObj h'))
          have L4 := hid hL4
          have G4 := hid hG4
          have FL4 := hid hF4
          have HIV4 := hid hiv
          have HNG4 := hid hng
          have HX4 := hid (And.intro hmd (And.intro hch (And.intro hpg' (And.intro hFl hxU))))
          have HYB := hid hyb
          have HY1 := hid hy1
          have HY2 := hid hy2
          clear p0 p1 p2 p3 p4 p5 pl hL3 hng hiv hmd hch hpg' hsp hst hL4 hG4 hF4 hFl hx1 hx2 hxU hF0 hy1 hy2 hyb hgw
          go_upto_region 18 with fail
          generalize w3.alloc (.cells #[.int .i64 h'.mode, .int .i64 h'.pages, .int .i64 h'.trunk, .int .i64 h'.spare, .int .i64 h'.root, .int .u64 (h'.change : Nat)] tH) = w4 at *
          have hy1 := HY1.out
          have hy2 := HY2.out
          have hyb := HYB.out
          obtain ⟨g0, g1, g2⟩ := FL4.out.cell hyb HX4.out.2.2.2.2
          have hL5 := lab_mark L4.out G6.out O7.out.2 O7.out.1 y (.bool true)
          have hG5 := G4.out.other (b' := g) (i := y) (Nat.ne_of_gt HGW.out) (.bool true)
          have hF5 := FL4.out.mark hyb
          have L5 := hid hL5
          have G5 := hid hG5
          have FL5 := hid hF5
          clear hL5 hG5 hF5
          go_upto_region 21 with fail
          generalize w4.setCell ⟨g, y, none⟩ (.bool true) = w5 at *
          clear g0 g1 g2 hy1 hy2
          obtain ⟨p0, p1, p2, p3, p4, p5⟩ := L5.out.hb.cells
          obtain ⟨f0, f1, f2, f3, f4, f5⟩ := L5.out.hb.free
          have pl := L5.out.hb.lt
          obtain ⟨q0, q1, q2, q3, q4, q5⟩ := G5.out.cells
          have ql := G5.out.lt
          have L6 : Hid (Lab O2 w.heap.size B d b (2 * k + 1 + 2 * (m + 1)) h' S' w ((((((w5.setCell ⟨B, 0, none⟩ (.int .i64 h'.mode)).setCell ⟨B, 1, none⟩ (.int .i64 h'.pages)).setCell ⟨B, 2, none⟩ (.int .i64 h'.trunk)).setCell ⟨B, 3, none⟩ (.int .i64 h'.spare)).setCell ⟨B, 4, none⟩ (.int .i64 h'.root)).setCell ⟨B, 5, none⟩ (.int .u64 (h'.change : Nat)))) := hid (by
            have := L5.out.put h'
            rw [show 2 * k + 1 + 2 * m + 2 = 2 * k + 1 + 2 * (m + 1) by omega] at this
            exact this)
          have FL6 : Hid (Fl ((((((w5.setCell ⟨B, 0, none⟩ (.int .i64 h'.mode)).setCell ⟨B, 1, none⟩ (.int .i64 h'.pages)).setCell ⟨B, 2, none⟩ (.int .i64 h'.trunk)).setCell ⟨B, 3, none⟩ (.int .i64 h'.spare)).setCell ⟨B, 4, none⟩ (.int .i64 h'.root)).setCell ⟨B, 5, none⟩ (.int .u64 (h'.change : Nat))) g k (U ++ [(y : Int)])) := hid (FL5.out.put (Ne.symm O7.out.1) h')
          go_wp2
          go_roundw
          case rel => exact ⟨m + 1, U ++ [(y : Int)], F', h', S', by have := HK.out; omega, by go_num, hid (by have := HUL.out; simp; omega), hid (by have := HX4.out.2.2.2.1; have := hF.out; omega), hid (by have := HX4.out.2.2.1; have := hpg.out; omega), L6, HIV4, HNG4, hid ⟨HX4.out.1.trans HMD.out.1, HX4.out.2.1.trans HMD.out.2⟩, FL6⟩
          case measure => have := HK.out; simp [intOf]; omega
        · have hle : ¬ (m : Int) < k := by omega
          have hF0 : F = [] := List.eq_nil_of_length_eq_zero (by have := hF.out; omega)
          subst hF0
          obtain ⟨h0, h1, h2, h3, h4, h5⟩ := h
          have e1 : h2 = 0 := by
            rcases HIV.out.fr.head with ⟨e, _⟩ | ⟨_, e, _⟩
            · exact e
            · simp at e
          have e2 : h3 = 0 := HIV.out.sp
          have e3 : h4 = 0 := HIV.out.root
          have e4 : h0 = 2 := HMD.out.1
          have e5 : h5 = 0 := HMD.out.2
          have e6 : h1 = (k : Int) + 1 := hpg.out
          subst e1 e2 e3 e4 e5 e6
          obtain ⟨p0, p1, p2, p3, p4, p5⟩ := HL.out.hb.cells
          have pl := HL.out.hb.lt
          have hbe := HL.out.be
          have HBE := hid hbe
          clear hbe hF hpg HMD HIV HL HFL
          have en1 := EN1.out
          go_wp2
          go_ret
          exact ⟨rfl, HBE.out⟩
end spareBack
end Go.Proofs.Ytiomojidfkpagaa
