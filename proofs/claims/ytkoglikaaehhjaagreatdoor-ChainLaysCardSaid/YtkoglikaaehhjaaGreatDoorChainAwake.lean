/-
  The statements' own awake answers true.
-/
import Derived.Test.YtkoglikaaehhjaaGreatDoorChainFree
import Derived.Test.YtkoglikaaehhjaaGreatDoorChainLong
namespace Go.Proofs.YtkoglikaaehhjaaGreatDoor
open Go.RowKit
namespace Ch
open Num (hid)
open Mem (Bs bs ptr Chg tI tIs)
open Sp (Hd hV tH hObj)
open Sh (ShL St Inv Two Own h1 S0 head_ok)
open No (okC)
theorem inv0 : Inv h1 S0 [] [] := Sh.inv_new
theorem CellOut.ok {v : Bs} {c : No.C} {er lim : Int} {h h' : Hd} {arm arm' : Int} {S S' : St} {U F : List Int} (o : CellOut v c er lim h arm S U F h' arm' S') (ha : arm < 1) (hv : v.length ≤ 5000) (hr : h.pages + ((((v.length + 226) / 227 - F.length : Nat)) : Int) ≤ lim) :
    er = 0 ∧ arm' = arm ∧ ∃ ps F', CellOf S'.f c v ps ∧ Inv h' S' (U ++ ps.reverse) F' ∧ (∀ x ∈ U, S'.f x = S.f x) ∧ F'.length = F.length - ps.length ∧ h'.pages = h.pages + ((ps.length - F.length : Nat) : Int) ∧ h'.pages ≤ lim := by
  rcases o with ⟨_, _, h3, _⟩ | ⟨h1, _, ps, F', a, b, c, d, e, f, g, _⟩ | ⟨_, _, h3, _⟩ | ⟨_, _, _, _, h3⟩
  · omega
  · exact ⟨h1, g ha, ps, F', a, b, c, d, e, f⟩
  · omega
  · omega
theorem val_ok {f : Pf} {c : No.C} {v val : Bs} {ps pg : List Int} {er arm : Int} (h : CellOf f c v ps) (ha : arm < 1) (o : ((val, pg), er) = valM f c ∨ (1 ≤ arm ∧ val = [] ∧ pg = [] ∧ er = 11 ∧ okC c = true ∧ 40 < c.z)) : val = v ∧ pg = ps ∧ er = 0 := by
  rcases o with o | o
  · rw [h.val] at o
    simp only [Prod.mk.injEq] at o
    exact ⟨o.1.1, o.1.2, o.2⟩
  · omega
theorem bx_turned {s d g : Nat} {o : Obj} {w w' : World} (h : w.heap[g]? = some o) (hc : Chg (Two s d) w w') (hg : g ≠ s ∧ g ≠ d) : w'.heap[g]? = some o :=
  hc.at h (fun e => by rcases e with e | e; exact hg.1 e; exact hg.2 e)
theorem CellOut.long {v : Bs} {c : No.C} {er lim : Int} {h h' : Hd} {arm arm' : Int} {S S' : St} {U F : List Int} (o : CellOut v c er lim h arm S U F h' arm' S') (hv : 5000 < v.length) : er = 47 ∧ c = c0 ∧ h' = h ∧ arm' = arm ∧ S' = S := by
  rcases o with ⟨h1, h2, _, h3⟩ | ⟨_, h1, _⟩ | ⟨_, _, _, _, h1⟩ | ⟨_, _, _, h1, _⟩
  · exact ⟨h1, h2, h3⟩
  · omega
  · omega
  · omega
theorem bx_cells {g : Nat} {a b c : Value} {T : TypeId} {w : World} (h : w.heap[g]? = some (.cells #[a, b, c] T (0, 0))) : w.cell? ⟨g, 0, none⟩ = some a ∧ w.cell? ⟨g, 1, none⟩ = some b ∧ w.cell? ⟨g, 2, none⟩ = some c :=
  ⟨Mem.blk_cell h 0, Mem.blk_cell h 1, Mem.blk_cell h 2⟩
theorem inv_nodup {h : Hd} {S : St} {U F ps : List Int} (i : Inv h S (U ++ ps.reverse) F) : ps.Nodup := by
  have h1 := i.nd
  rw [List.nodup_append, List.nodup_append] at h1
  exact (List.pairwise_reverse.1 h1.1.2.1).imp (fun h e => h e.symm)
/-- A cell without bytes of its own, as a value. -/
abbrev lV (z p : Int) : Value := .agg #[.int .i64 z, .string ⟨#[]⟩, .int .i64 p]
def short5 : Bs := [115, 104, 111, 114, 116]
theorem short5_is : bs short5 = ⟨#[115, 104, 111, 114, 116]⟩ := rfl
set_option maxRecDepth 100000 in
set_option maxHeartbeats 8000000 in
theorem awake_any (w : World) : Calls Tryz.prog 7 #[] w fun e w' => e = .returned (.bool true) ∧ Below w.heap.size w w' := by
  go_enter Tryz.func7, Tryz.ntmps7
  go_wp2_with fail
  refine (ShL.new 20 (by decide) (by decide) (Below.refl _ _)).mono ?_
  rintro e w1 ⟨s, d, rfl, k1⟩
  have HC := hid (cell_any k1 (by decide) inv0 (by decide) (by decide) (by decide) short5 (by decide))
  rw [short5_is] at HC
  clear k1
  go_wp2_with fail
  refine HC.out.mono ?_
  rintro e w2 ⟨c, er, h2, arm2, S2, rfl, k2, -, out⟩
  obtain ⟨rfl, rfl, ps, F2, hcell, inv2, -, hfl, hpg, hpl⟩ := out.ok (by decide) (by decide) (by decide)
  have hcc : c = ⟨5, short5, 0⟩ ∧ ps = [] := by
    rcases hcell with ⟨_, ⟨_, h2, h3⟩ | ⟨h1, _, _⟩⟩
    · exact ⟨h2, h3⟩
    · exact absurd h1 (by decide)
  obtain ⟨rfl, rfl⟩ := hcc
  have hF2 : F2 = [] := List.length_eq_zero_iff.1 (by simpa using hfl)
  subst hF2
  have hp2 : h2.pages = 1 := by simpa [h1] using hpg
  simp only [List.append_nil, List.reverse_nil] at inv2
  clear out hcell hfl hpg HC
  dsimp only [cV]
  rw [short5_is]
  have bxa := Mem.blk_new w2 (.cells #[.int .i64 5, .string ⟨#[115, 104, 111, 114, 116]⟩, .int .i64 0] tC)
  have ba2 : Below w2.heap.size w2 (w2.alloc (.cells #[.int .i64 5, .string ⟨#[115, 104, 111, 114, 116]⟩, .int .i64 0] tC)) := (Below.refl _ _).alloc (Nat.le_refl _) _
  have k3 := k2.kept ba2
  have nea : w2.heap.size ≠ s ∧ w2.heap.size ≠ d := ⟨Nat.ne_of_gt k2.at'.lt.1, Nat.ne_of_gt k2.at'.lt.2⟩
  have INV2 := hid inv2
  have HP2 := hid hp2
  have K3 := hid k3
  have BXA := hid bxa
  have NEA := hid nea
  have HL := hid (fun w => long_any 228 (by decide) (by decide) w)
  clear k2 k3 bxa ba2 nea inv2 hp2 hpl
  go_upto_region 5 with fail
  generalize w2.alloc (.cells #[.int .i64 5, .string ⟨#[115, 104, 111, 114, 116]⟩, .int .i64 0] tC) = w3 at *
  generalize w2.heap.size = ga at *
  go_wp2_with fail
  refine (HL.out _).mono ?_
  rintro e w4 ⟨rfl, hb⟩
  have BXA4 := hid ((hb.block _ (lt_of_block BXA.out)).trans BXA.out)
  have HC4 := hid (cell_any (K3.out.kept hb) (by decide) INV2.out (by decide) (by rw [HP2.out]; decide) (by decide) (longB 228) (by rw [long_len]; decide))
  clear hb
  go_wp2_with fail
  refine HC4.out.mono ?_
  rintro e w5 ⟨c, er, h5, arm5, S5, rfl, k5, cc5, out⟩
  obtain ⟨rfl, rfl, ps, F5, hcell, inv5, -, hfl, hpg, hpl⟩ := out.ok (by decide) (by rw [long_len]; decide) (by rw [long_len, HP2.out]; decide)
  have hlen : ps.length = 2 := by rw [hcell.len, long_len]; decide
  have hF5 : F5 = [] := List.length_eq_zero_iff.1 (by simpa using hfl)
  subst hF5
  have hp5 : h5.pages = 3 := by rw [hpg, hlen, HP2.out]; decide
  obtain ⟨p1, p2, rfl⟩ : ∃ p1 p2, ps = [p1, p2] := by
    match ps, hlen with
    | [a, b], _ => exact ⟨a, b, rfl⟩
  have hcc : c = ⟨228, [], p1⟩ ∧ 1 ≤ p1 := by
    rcases hcell with ⟨_, ⟨h1, _, _⟩ | ⟨_, h2, h3⟩⟩
    · rw [long_len] at h1; exact absurd h1 (by decide)
    · rw [long_len] at h2; exact ⟨h2, h3.2.1.1⟩
  obtain ⟨rfl, hp1⟩ := hcc
  have e0 : bs [] = ⟨#[]⟩ := rfl
  dsimp only [cV]
  rw [e0]
  clear e0
  have bxb := Mem.blk_new w5 (.cells #[.int .i64 228, .string ⟨#[]⟩, .int .i64 p1] tC)
  have bb5 : Below w5.heap.size w5 (w5.alloc (.cells #[.int .i64 228, .string ⟨#[]⟩, .int .i64 p1] tC)) := (Below.refl _ _).alloc (Nat.le_refl _) _
  have neb : w5.heap.size ≠ s ∧ w5.heap.size ≠ d := ⟨Nat.ne_of_gt k5.at'.lt.1, Nat.ne_of_gt k5.at'.lt.2⟩
  have bxa5 := bx_turned BXA4.out cc5 NEA.out
  have BXA6 := hid ((bb5.block _ (lt_of_block bxa5)).trans bxa5)
  have BXB := hid bxb
  have K6 := hid (k5.kept bb5)
  have NEB := hid neb
  have INV5 := hid inv5
  have HCELL := hid hcell
  have HP5 := hid hp5
  clear out hfl hpg hpl hlen hp5 inv5 hcell bxa5 bxb bb5 neb k5 cc5 HC4 K3 INV2 HP2 BXA BXA4
  go_upto_region 6 with fail
  generalize w5.alloc (.cells #[.int .i64 228, .string ⟨#[]⟩, .int .i64 p1] tC) = w6 at *
  generalize w5.heap.size = gb at *
  have HV : Hid (Calls Tryz.prog 9 #[pV s, lV 228 p1] w6 (ValPost s d w.heap.size (0 + 200 + 200) 20 h5 0 S5 w w6 ⟨228, [], p1⟩)) := hid (value_any K6.out (by decide) ⟨228, [], p1⟩)
  obtain ⟨y0, y1, y2⟩ := bx_cells BXB.out
  go_wp2_with fail
  refine HV.out.mono ?_
  rintro e w7 ⟨val, pg, er, arm7, rfl, k7, cc7, ha7, -, hv⟩
  obtain ⟨rfl, -, rfl⟩ := val_ok HCELL.out (by decide) hv
  obtain rfl := ha7 (by decide)
  have BXA7 := hid (bx_turned BXA6.out cc7 NEA.out)
  have BXB7 := hid (bx_turned BXB.out cc7 NEB.out)
  have HL7 : Hid (Calls Tryz.prog 10 #[pV s, lV 228 p1] w7 (ListPost s d w.heap.size (0 + 200 + 200) 20 h5 0 S5 w w7 ⟨228, [], p1⟩)) := hid (list_any k7 (by decide) ⟨228, [], p1⟩)
  clear y0 y1 y2 hv ha7 k7 cc7 HV K6 BXA6 BXB
  obtain ⟨y0, y1, y2⟩ := bx_cells BXB7.out
  go_wp2_with fail
  refine HL7.out.mono ?_
  rintro e w8 ⟨val, pg, er, pv, arm8, rfl, k8, cc8, ho, -, ha8, -, hv⟩
  obtain ⟨-, rfl, rfl⟩ := val_ok HCELL.out (by decide) hv
  obtain rfl := ha8 (by decide)
  obtain ⟨ao, cap, rfl, hcl⟩ := own_cell ho
  obtain ⟨gl, rfl, -, -⟩ := hcl 0 (Nat.succ_pos _)
  have BXA8 := hid (bx_turned BXA7.out cc8 NEA.out)
  have BXB8 := hid (bx_turned BXB7.out cc8 NEB.out)
  have K8 := hid k8
  have O8 := hid ho
  have HL5 := hid (fun w => long_any 5001 (by decide) (by decide) w)
  clear y0 y1 y2 hv ha8 k8 cc8 ho hcl HL7 BXA7 BXB7
  go_wp2_with fail
  refine (HL5.out _).mono ?_
  rintro e w9 ⟨rfl, hb⟩
  have k9 := K8.out.kept hb
  have HC9 := hid (cell_any k9 (by decide) INV5.out (by decide) (by rw [HP5.out]; decide) (by decide) (longB 5001) (by rw [long_len]; decide))
  have cc9 : Chg (Two s d) w8 w9 := Chg.of_below hb
  clear hb k9 HL5
  go_wp2_with fail
  refine HC9.out.mono ?_
  rintro e w10 ⟨c, er, h10, arm10, S10, rfl, k10, cc10, out⟩
  obtain ⟨rfl, rfl, rfl, rfl, rfl⟩ := out.long (by rw [long_len]; decide)
  have cc := cc9.trans cc10
  have bb : Below w10.heap.size w10 (w10.alloc (.cells #[.int .i64 0, .string ⟨#[]⟩, .int .i64 0] tC)) := (Below.refl _ _).alloc (Nat.le_refl _) _
  have bxa := bx_turned BXA8.out cc NEA.out
  have bxb := bx_turned BXB8.out cc NEB.out
  have BXA11 := hid ((bb.block _ (lt_of_block bxa)).trans bxa)
  have BXB11 := hid ((bb.block _ (lt_of_block bxb)).trans bxb)
  have O11 := hid ((O8.out.turned cc).on bb)
  have K11 := hid (k10.kept bb)
  clear bb bxa bxb cc cc9 cc10 k10 out HC9 K8 O8 BXA8 BXB8
  dsimp only [cV, c0]
  have e0 : bs [] = ⟨#[]⟩ := rfl
  rw [e0]
  clear e0
  go_upto_region 9 with fail
  generalize w10.alloc (.cells #[.int .i64 0, .string ⟨#[]⟩, .int .i64 0] tC) = w11 at *
  have HH := hid (head_ok K11.out.at'.blk)
  have F1 := Sh.fld1
  unfold hV at HH
  go_wp2_with fail
  refine HH.out.mono ?_
  rintro e w12 ⟨rfl, hb⟩
  have BXA12 := hid ((hb.block _ (lt_of_block BXA11.out)).trans BXA11.out)
  have BXB12 := hid ((hb.block _ (lt_of_block BXB11.out)).trans BXB11.out)
  have O12 := hid (O11.out.on hb)
  have K12 := hid (K11.out.kept hb)
  have HF : Hid (Calls Tryz.prog 16 #[pV s, lV 228 p1] w12 (FreePost s d w.heap.size (0 + 200 + 200 + 200) 20 h10 0 S10 ([] ++ [p1, p2].reverse) [] [p1, p2] w w12)) := hid (free_any (c := ⟨228, [], p1⟩) (v := longB 228) (ps := [p1, p2]) (U := [] ++ [p1, p2].reverse) (F := []) K12.out (by decide) (by decide) INV5.out (by rw [HP5.out]; decide) HCELL.out (inv_nodup INV5.out) (by simp))
  clear hb BXA11 BXB11 O11 K11 HH
  obtain ⟨y0, y1, y2⟩ := bx_cells BXB12.out
  have hpp := HP5.out
  go_wp2_with fail
  refine HF.out.mono ?_
  rintro e w13 ⟨h13, S13, U13, F13, rfl, k13, cc13, fr⟩
  have hsp : h13.spare = 2 := by rw [fr.inv.sp, fr.fl]; rfl
  have HSP := hid hsp
  have BXA13 := hid (bx_turned BXA12.out cc13 NEA.out)
  have BXB13 := hid (bx_turned BXB12.out cc13 NEB.out)
  have O13 := hid (O12.out.turned cc13)
  have HV : Hid (Calls Tryz.prog 9 #[pV s, lV 9 0] w13 (ValPost s d w.heap.size (0 + 200 + 200 + 200 + 200) 20 h13 0 S13 w w13 ⟨9, [], 0⟩)) := hid (value_any k13 (by decide) ⟨9, [], 0⟩)
  clear y0 y1 y2 k13 cc13 fr hsp HF BXA12 BXB12 O12 K12 hpp F1
  go_wp2_with fail
  refine HV.out.mono ?_
  rintro e w14 ⟨val, pg, er, arm14, rfl, k14, cc14, ha14, -, hv⟩
  have her : er = 1 := by
    rcases hv with hv | hv
    · have : valM S13.f ⟨9, [], 0⟩ = (([], []), 1) := if_neg (by decide)
      rw [this] at hv
      simp only [Prod.mk.injEq] at hv
      exact hv.2
    · exact absurd hv.1 (by decide)
  subst her
  obtain rfl := ha14 (by decide)
  have BXA14 := hid (bx_turned BXA13.out cc14 NEA.out)
  have BXB14 := hid (bx_turned BXB13.out cc14 NEB.out)
  have O14 := hid (O13.out.turned cc14)
  have K14 := hid k14
  clear hv ha14 k14 cc14 HV BXA13 BXB13 O13
  go_wp2_with fail
  refine No.wp_quiet_in (fun wx => Below w14.heap.size w14 wx) (by kernel_rfl) (by kernel_rfl) (Below.refl _ w14).drew ?_
  simp only [List.append]
  go_big_quiet_want
  go_big_quiet_op
  go_big_quiet_on
  go_big_quiet_want
  go_big_quiet_op
  refine ⟨.bool true, fun wx hx => ?_, ?_⟩
  · simp [go_sem]
  go_big_quiet_on
  go_big_quiet_want
  go_big_quiet_op
  go_big_quiet_on
  go_big_quiet_want
  go_big_quiet_op
  refine ⟨.agg #[.int .i64 5, .string ⟨#[115, 104, 111, 114, 116]⟩, .int .i64 0], fun wx hx => ?_, ?_⟩
  · have c := bx_cells ((hx.block _ (lt_of_block BXA14.out)).trans BXA14.out)
    simp [go_sem, c.1, c.2.1, c.2.2]
  go_big_quiet_on
  go_big_quiet_want
  go_big_quiet_op
  refine ⟨.agg #[.int .i64 5, .string ⟨#[115, 104, 111, 114, 116]⟩, .int .i64 0], fun wx hx => ?_, ?_⟩
  · first | rfl | simp [go_sem]
  go_big_quiet_on
  go_big_quiet_want
  go_big_quiet_op
  refine ⟨.bool true, fun wx hx => ?_, ?_⟩
  · simp [go_sem]
  go_big_quiet_on
  go_big_quiet_want
  go_big_quiet_op
  refine ⟨.bool true, fun wx hx => ?_, ?_⟩
  · simp [go_sem]
  go_big_quiet_on
  go_big_quiet_want
  go_big_quiet_op
  go_big_quiet_on
  go_big_quiet_want
  go_big_quiet_op
  go_big_quiet_on
  go_big_quiet_want
  go_big_quiet_op
  refine ⟨.bool true, fun wx hx => ?_, ?_⟩
  · simp [go_sem]
  go_big_quiet_on
  go_big_quiet_want
  go_big_quiet_op
  refine ⟨.bool true, fun wx hx => ?_, ?_⟩
  · simp [go_sem]
  go_big_quiet_on
  go_big_quiet_want
  go_big_quiet_op
  go_big_quiet_on
  go_big_quiet_want
  go_big_quiet_op
  refine ⟨.pointer (some ⟨gb, 0, none⟩), fun wx hx => ?_, ?_⟩
  · first | rfl | simp [go_sem]
  go_big_quiet_on
  go_big_quiet_want
  go_big_quiet_op
  refine ⟨.int .i64 228, fun wx hx => ?_, ?_⟩
  · have c := bx_cells ((hx.block _ (lt_of_block BXB14.out)).trans BXB14.out)
    simp [go_sem, c.1]
  go_big_quiet_on
  go_big_quiet_want
  go_big_quiet_op
  refine ⟨.bool true, fun wx hx => ?_, ?_⟩
  · simp [go_sem]
  go_big_quiet_on
  go_big_quiet_want
  go_big_quiet_op
  refine ⟨.bool true, fun wx hx => ?_, ?_⟩
  · simp [go_sem]
  go_big_quiet_on
  go_big_quiet_want
  go_big_quiet_op
  go_big_quiet_on
  go_big_quiet_want
  go_big_quiet_op
  refine ⟨.pointer (some ⟨gb, 2, none⟩), fun wx hx => ?_, ?_⟩
  · first | rfl | simp [go_sem]
  go_big_quiet_on
  go_big_quiet_want
  go_big_quiet_op
  refine ⟨.int .i64 p1, fun wx hx => ?_, ?_⟩
  · have c := bx_cells ((hx.block _ (lt_of_block BXB14.out)).trans BXB14.out)
    simp [go_sem, c.2.2]
  go_big_quiet_on
  go_big_quiet_want
  go_big_quiet_op
  refine ⟨.bool true, fun wx hx => ?_, ?_⟩
  · simp [go_sem]
  go_big_quiet_on
  go_big_quiet_want
  go_big_quiet_op
  refine ⟨.bool true, fun wx hx => ?_, ?_⟩
  · simp [go_sem]
  go_big_quiet_on
  go_big_quiet_want
  go_big_quiet_op
  go_big_quiet_on
  go_big_quiet_want
  go_big_quiet_op
  go_big_quiet_on
  go_big_quiet_want
  go_big_quiet_op
  refine ⟨.string (bs (longB 228)), fun wx hx => ?_, ?_⟩
  · refine (HL.out wx).mono ?_
    rintro e w9 ⟨rfl, hb9⟩
    exact ⟨rfl, hx.trans (hb9.mono hx.size)⟩
  go_big_quiet_on
  go_big_quiet_want
  go_big_quiet_op
  refine ⟨.bool true, fun wx hx => ?_, ?_⟩
  · simp [go_sem]
  go_big_quiet_on
  go_big_quiet_want
  go_big_quiet_op
  refine ⟨.bool true, fun wx hx => ?_, ?_⟩
  · simp [go_sem]
  go_big_quiet_on
  go_big_quiet_want
  go_big_quiet_op
  go_big_quiet_on
  go_big_quiet_want
  go_big_quiet_op
  go_big_quiet_on
  go_big_quiet_want
  go_big_quiet_op
  refine ⟨.bool true, fun wx hx => ?_, ?_⟩
  · simp [go_sem]
  go_big_quiet_on
  go_big_quiet_want
  go_big_quiet_op
  refine ⟨.bool true, fun wx hx => ?_, ?_⟩
  · simp [go_sem]
  go_big_quiet_on
  go_big_quiet_want
  go_big_quiet_op
  go_big_quiet_on
  go_big_quiet_want
  go_big_quiet_op
  go_big_quiet_on
  go_big_quiet_want
  go_big_quiet_op
  refine ⟨.int .i64 2, fun wx hx => ?_, ?_⟩
  · first | rfl | simp [go_sem]
  go_big_quiet_on
  go_big_quiet_want
  go_big_quiet_op
  refine ⟨.bool true, fun wx hx => ?_, ?_⟩
  · simp [go_sem]
  go_big_quiet_on
  go_big_quiet_want
  go_big_quiet_op
  refine ⟨.bool true, fun wx hx => ?_, ?_⟩
  · simp [go_sem]
  go_big_quiet_on
  go_big_quiet_want
  go_big_quiet_op
  go_big_quiet_on
  go_big_quiet_want
  go_big_quiet_op
  go_big_quiet_on
  go_big_quiet_want
  go_big_quiet_op
  refine ⟨.pointer (some ⟨gl, 0, none⟩), fun wx hx => ?_, ?_⟩
  · first | rfl | simp [go_sem]
  go_big_quiet_on
  go_big_quiet_want
  go_big_quiet_op
  refine ⟨.int .i64 p1, fun wx hx => ?_, ?_⟩
  · have c := (O14.out.on hx).row.cellAt 0 (by show 0 < 2 * 1; decide)
    simp [go_sem, c]
  go_big_quiet_on
  go_big_quiet_want
  go_big_quiet_op
  refine ⟨.pointer (some ⟨gb, 2, none⟩), fun wx hx => ?_, ?_⟩
  · first | rfl | simp [go_sem]
  go_big_quiet_on
  go_big_quiet_want
  go_big_quiet_op
  refine ⟨.int .i64 p1, fun wx hx => ?_, ?_⟩
  · have c := bx_cells ((hx.block _ (lt_of_block BXB14.out)).trans BXB14.out)
    simp [go_sem, c.2.2]
  go_big_quiet_on
  go_big_quiet_want
  go_big_quiet_op
  refine ⟨.bool true, fun wx hx => ?_, ?_⟩
  · simp [go_sem]
  go_big_quiet_on
  go_big_quiet_want
  go_big_quiet_op
  refine ⟨.bool true, fun wx hx => ?_, ?_⟩
  · simp [go_sem]
  go_big_quiet_on
  go_big_quiet_want
  go_big_quiet_op
  go_big_quiet_on
  go_big_quiet_want
  go_big_quiet_op
  go_big_quiet_on
  go_big_quiet_want
  go_big_quiet_op
  refine ⟨.bool true, fun wx hx => ?_, ?_⟩
  · simp [go_sem]
  go_big_quiet_on
  go_big_quiet_want
  go_big_quiet_op
  refine ⟨.bool true, fun wx hx => ?_, ?_⟩
  · simp [go_sem]
  go_big_quiet_on
  go_big_quiet_want
  go_big_quiet_op
  go_big_quiet_on
  go_big_quiet_want
  go_big_quiet_op
  go_big_quiet_on
  go_big_quiet_want
  go_big_quiet_op
  refine ⟨.bool true, fun wx hx => ?_, ?_⟩
  · simp [go_sem]
  go_big_quiet_on
  go_big_quiet_want
  go_big_quiet_op
  refine ⟨.bool true, fun wx hx => ?_, ?_⟩
  · simp [go_sem]
  go_big_quiet_on
  go_big_quiet_want
  go_big_quiet_op
  go_big_quiet_on
  go_big_quiet_want
  go_big_quiet_op
  go_big_quiet_on
  go_big_quiet_want
  go_big_quiet_op
  refine ⟨.bool true, fun wx hx => ?_, ?_⟩
  · simp [go_sem]
  go_big_quiet_on
  go_big_quiet_want
  go_big_quiet_op
  refine ⟨.bool true, fun wx hx => ?_, ?_⟩
  · simp [go_sem]
  go_big_quiet_on
  go_big_quiet_want
  go_big_quiet_op
  go_big_quiet_on
  go_big_quiet_want
  go_big_quiet_op
  go_big_quiet_on
  go_big_quiet_want
  go_big_quiet_op
  refine ⟨.bool true, fun wx hx => ?_, ?_⟩
  · simp [go_sem]
  go_big_quiet_on
  go_big_quiet_want
  go_big_quiet_op
  refine ⟨.bool true, fun wx hx => ?_, ?_⟩
  · simp [go_sem]
  go_big_quiet_on
  go_big_quiet_want
  go_big_quiet_op
  go_big_quiet_on
  go_big_quiet_want
  go_big_quiet_op
  go_big_quiet_on
  go_big_quiet_want
  go_big_quiet_op
  refine ⟨hV h13, fun wx hx => ?_, ?_⟩
  · refine (head_ok (K14.out.kept hx).at'.blk).mono ?_
    rintro e w9 ⟨rfl, hb9⟩
    exact ⟨rfl, hx.trans (hb9.mono hx.size)⟩
  go_big_quiet_on
  go_big_quiet_want
  go_big_quiet_op
  refine ⟨.int .i64 2, fun wx hx => ?_, ?_⟩
  · have c := HSP.out
    simp [hV, c, Sh.fld3]
  go_big_quiet_on
  go_big_quiet_want
  go_big_quiet_op
  refine ⟨.bool true, fun wx hx => ?_, ?_⟩
  · simp [go_sem]
  go_big_quiet_on
  go_big_quiet_want
  go_big_quiet_op
  refine ⟨.bool true, fun wx hx => ?_, ?_⟩
  · simp [go_sem]
  go_big_quiet_on
  go_big_quiet_want
  go_big_quiet_op
  go_big_quiet_on
  go_big_quiet_want
  go_big_quiet_op
  go_big_quiet_on
  go_big_quiet_want
  go_big_quiet_op
  refine ⟨.bool true, fun wx hx => ?_, ?_⟩
  · simp [go_sem]
  go_big_quiet_on
  go_big_quiet_want
  go_big_quiet_op
  refine ⟨.bool true, fun wx hx => ?_, ?_⟩
  · simp [go_sem]
  go_big_quiet_on
  go_big_quiet_want
  go_big_quiet_op
  go_big_quiet_on
  refine wpQuiet_nil ?_
  intro wq hq
  have HB := hid (K14.out.be.trans (hq.mono K14.out.size))
  clear hq
  go_wp2
  go_ret
  exact ⟨rfl, HB.out⟩
end Ch
end Go.Proofs.YtkoglikaaehhjaaGreatDoor
