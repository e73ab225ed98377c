/-
  ChainFails: the walk of the statement.
-/
import Derived.Test.YtkoglikaaehhjaaGreatDoorChainAwake
namespace Go.Proofs.YtkoglikaaehhjaaGreatDoor
open Go.RowKit
namespace Ch
open Num (hid)
open Mem (Bs bs ptr Chg tI tIs)
open Sp (Hd hV)
open Sh (ShL St Inv Two Own h1 S0)
open No (okC)
/-- A remainder is a place. -/
theorem mod_u (a : Int) (m : Nat) (hm : 0 < m) (hm2 : m ≤ 1000) : ∃ n : Nat, n < m ∧ wrap64 ((IntKind.u64.wrap a).tmod (m : Int)) = (n : Int) := by
  have h1 : IntKind.u64.wrap a = a % 18446744073709551616 := IntKind.wrap_u64 a
  have h0 : 0 ≤ IntKind.u64.wrap a := by rw [h1]; exact Int.emod_nonneg _ (by decide)
  rw [Int.tmod_eq_emod_of_nonneg h0]
  generalize IntKind.u64.wrap a = y at *
  have h2 := Int.emod_nonneg y (show (m : Int) ≠ 0 by omega)
  have h3 := Int.emod_lt_of_pos y (show (0 : Int) < (m : Int) by omega)
  generalize y % (m : Int) = z at *
  refine ⟨z.toNat, by omega, ?_⟩
  rw [Num.wrap_i]
  omega
theorem arm_sh {s d N cnt : Nat} {lim : Int} {h : Hd} {arm : Int} {S : St} {w0 w : World} (k : ShL s d N cnt lim h arm S w0 w) (n : Int) :
    Calls Tryz.prog 23 #[ptr s, .int .i64 n] w fun e w' => e = .returned (.tuple #[]) ∧ ShL s d N cnt lim h n S w0 w' ∧ Chg (Two s d) w w' := by
  refine (Sh.arm_any k.at' n).mono ?_
  rintro e w' ⟨rfl, hA, hC⟩
  exact ⟨rfl, k.turned hA hC k.sm, hC⟩
theorem bs_bl (b : ByteArray) : bs b.data.toList = b := by
  show (⟨b.data.toList.toArray⟩ : ByteArray) = b
  rw [Array.toArray_toList]
/-- A cell's box, beside the shelf. -/
structure Bx (s d g : Nat) (c : No.C) (w : World) : Prop where
  blk : w.heap[g]? = some (.cells #[.int .i64 c.z, .string (bs c.d), .int .i64 c.p] tC (0, 0))
  ne : g ≠ s ∧ g ≠ d
theorem Bx.turned {s d g : Nat} {c : No.C} {w w' : World} (b : Bx s d g c w) (hc : Chg (Two s d) w w') : Bx s d g c w' := ⟨bx_turned b.blk hc b.ne, b.ne⟩
theorem Bx.on {s d g : Nat} {c : No.C} {w w' : World} (b : Bx s d g c w) (hb : Below w.heap.size w w') : Bx s d g c w' := ⟨(hb.block _ (lt_of_block b.blk)).trans b.blk, b.ne⟩
theorem Bx.cells {s d g : Nat} {c : No.C} {w : World} (b : Bx s d g c w) : w.cell? ⟨g, 0, none⟩ = some (.int .i64 c.z) ∧ w.cell? ⟨g, 1, none⟩ = some (.string (bs c.d)) ∧ w.cell? ⟨g, 2, none⟩ = some (.int .i64 c.p) := bx_cells b.blk
theorem Bx.new {s d N cnt : Nat} {lim : Int} {h : Hd} {arm : Int} {S : St} {w0 w : World} (k : ShL s d N cnt lim h arm S w0 w) (c : No.C) : Bx s d w.heap.size c (w.alloc (cO c)) ∧ ShL s d N cnt lim h arm S w0 (w.alloc (cO c)) :=
  ⟨⟨Mem.blk_new w (cO c), Nat.ne_of_gt k.at'.lt.1, Nat.ne_of_gt k.at'.lt.2⟩, k.kept ((Below.refl w.heap.size w).alloc (Nat.le_refl _) (cO c))⟩
theorem str_refl (x : ByteArray) : (x.toList == x.toList) = true := by simp
theorem tight_out {l : Bs} {c : No.C} {er : Int} {h' : Hd} {arm' : Int} {S' : St} {pl : Nat} (o : CellOut l c er (max (pl : Int) 1) h1 0 S0 [] [] h' arm' S') (hp : pl = partsN l.length) (h5 : l.length ≤ 5000) : (pl = 0 ∧ er = 0) ∨ (0 < pl ∧ er = 22) := by
  have e1 : h1.pages = 1 := rfl
  rcases o with ⟨_, _, h, _⟩ | ⟨h1, _, ps, F', hc, _, _, _, h2, h3, _⟩ | ⟨_, _, h, _⟩ | ⟨h1, _, h2, _⟩
  · omega
  · refine Or.inl ⟨?_, h1⟩
    have h4 := hc.len
    rw [e1, List.length_nil] at h2
    omega
  · omega
  · refine Or.inr ⟨?_, h1⟩
    unfold partsN at hp
    rw [if_neg (by omega)] at hp
    omega
set_option maxRecDepth 100000 in
set_option maxHeartbeats 8000000 in
theorem fails_walk (v : ByteArray) (a : Int) (hvs : v.size ≤ 140737488351232) (w : World) : Calls Tryz.prog 6 #[.string v, .int .i64 a] w fun e w' => e = .returned (.bool true) ∧ Below w.heap.size w w' := by
  obtain ⟨l, hl⟩ : ∃ l : Bs, v = bs l := ⟨v.data.toList, (bs_bl v).symm⟩
  subst hl
  have hz := Sp.bs_size l
  have HZ := hid hz
  obtain ⟨n, hn, hmod⟩ := mod_u a 80 (by decide) (by decide)
  have hmod : wrap64 ((IntKind.u64.wrap a).tmod 80) = (n : Int) := hmod
  obtain ⟨A, hA⟩ : ∃ A : Int, A = 1 + (n : Int) := ⟨_, rfl⟩
  have hA2 : wrap64 (1 + (n : Int)) = A := by rw [Num.wrap_i]; omega
  have HA : Hid (1 ≤ A ∧ A ≤ 80) := hid (by omega)
  have HAW := hid (fun w => awake_any w)
  clear hA
  by_cases hlong : 5000 < l.length
  · have hlg : (5000 : Int) < ((bs l).size : Int) := by omega
    clear hz hvs hmod hA2 hn
    go_enter Tryz.func6, Tryz.ntmps6
    go_wp2_with fail
    refine (HAW.out _).mono ?_
    rintro e w1 ⟨rfl, hb⟩
    have HB := hid hb
    clear hb
    go_wp2
    go_ret
    exact ⟨rfl, HB.out⟩
  · have hlg : ¬ (5000 : Int) < ((bs l).size : Int) := by omega
    have HL5 := hid (show l.length ≤ 5000 by omega)
    clear hz hvs hn hlong
    go_enter Tryz.func6, Tryz.ntmps6
    go_wp2_with fail
    refine (HAW.out _).mono ?_
    rintro e wa ⟨rfl, hb⟩
    have HB := hid hb
    clear hb
    go_wp2_with fail
    refine (ShL.new 100 (by decide) (by decide) HB.out).mono ?_
    rintro e w1 ⟨s, d, rfl, k1⟩
    have HR := hid (arm_sh k1 A)
    clear k1 hmod
    go_wp2_with fail
    clear hA2
    refine HR.out.mono ?_
    rintro e w2 ⟨rfl, k2, -⟩
    have HC := hid (cell_any k2 (by decide) inv0 (by decide) (by decide) (by have := HA.out; omega) l (by have := HL5.out; omega))
    clear k2 HR
    go_wp2_with fail
    refine HC.out.mono ?_
    rintro e w3 ⟨c, er, h3, arm3, S3, rfl, k3, -, out⟩
    have hroom : Hid (¬ (100 : Int) < h1.pages + ((((l.length + 226) / 227 - ([] : List Int).length : Nat)) : Int)) := hid (by
      have := HL5.out
      have e1 : h1.pages = 1 := rfl
      rw [e1, List.length_nil]
      omega)
    obtain ⟨bx, k4⟩ := Bx.new k3 c
    have BX4 := hid bx
    have K4 := hid k4
    have c40 := bx.cells
    clear HC bx k4
    rcases out with ⟨_, _, h, _⟩ | ⟨rfl, -, ps, F3, hcell, inv3, -, hfl, hpg, hpl, har, ham⟩ | ⟨rfl, hc0, hpos, h40, -⟩ | ⟨_, _, _, _, h⟩
    · exact absurd h (by have := HL5.out; omega)
    · have hcells := c40
      have hpl' : ps.length = partsN l.length := hcell.len
      obtain ⟨pl, hpn⟩ : ∃ pl : Nat, pl = ps.length := ⟨_, rfl⟩
      have HPN := hid hpn
      have HPL : Hid (pl = partsN l.length) := hid (hpn.trans hpl')
      have hpl3 : pl ≤ 23 := by
        have := HL5.out
        unfold partsN at hpl'
        split at hpl' <;> omega
      have HPL3 := hid hpl3
      have HCELL := hid hcell
      have HAM := hid ham
      clear hcell inv3 hfl hpg hpl har ham k3 hpl' hpn hroom c40
      obtain ⟨x0, x1, x2⟩ := hcells
      dsimp only [cV]
      generalize hgw : w3.alloc (cO c) = w4 at *
      dsimp only [cO] at hgw
      go_upto_region 9 with fail
      try rw [hgw]
      generalize w3.heap.size = g at *
      clear hgw
      have HR := hid (arm_sh K4.out 0)
      go_wp2_with fail
      refine HR.out.mono ?_
      rintro e w5 ⟨rfl, k5, cc5⟩
      have BX5 := hid (BX4.out.turned cc5)
      have HLI := hid (list_any k5 (by decide) c)
      clear k5 cc5 HR K4 BX4 x0 x1 x2
      obtain ⟨x0, x1, x2⟩ := BX5.out.cells
      go_wp2_with fail
      refine HLI.out.mono ?_
      rintro e w6 ⟨val, pg, er, pv, arm6, rfl, k6, cc6, ho, -, ha6, -, hv⟩
      obtain ⟨-, rfl, rfl⟩ := val_ok HCELL.out (by decide) hv
      obtain rfl := ha6 (by decide)
      obtain ⟨ao, cap, rfl, -⟩ := own_cell ho
      have BX6 := hid (BX5.out.turned cc6)
      have HR := hid (arm_sh k6 A)
      rw [← HPN.out]
      clear k6 cc6 ho hv ha6 HLI BX5 x0 x1 x2
      go_wp2_with fail
      refine HR.out.mono ?_
      rintro e w7 ⟨rfl, k7, cc7⟩
      have BX7 := hid (BX6.out.turned cc7)
      have HVA := hid (value_any k7 (by have := HA.out; omega) c)
      clear k7 cc7 HR BX6
      obtain ⟨x0, x1, x2⟩ := BX7.out.cells
      go_wp2_with fail
      refine HVA.out.mono ?_
      rintro e w8 ⟨val, pg2, er, arm8, rfl, k8, cc8, -, -, hv⟩
      have hv2 : (val = l ∧ er = 0) ∨ (val = [] ∧ er = 11 ∧ 0 < pl) := by
        rcases hv with hv | hv
        · rw [HCELL.out.val] at hv
          simp only [Prod.mk.injEq] at hv
          exact Or.inl ⟨hv.1.1, hv.2⟩
        · refine Or.inr ⟨hv.2.1, hv.2.2.2.1, ?_⟩
          have h40 := hv.2.2.2.2.2
          have h1 := HPL.out
          rcases HCELL.out with ⟨_, ⟨h2, rfl, _⟩ | ⟨h2, _, _⟩⟩
          · have h3 : (40 : Int) < (l.length : Int) := h40
            omega
          · unfold partsN at h1
            rw [if_neg (by omega)] at h1
            omega
      have HR := hid (arm_sh k8 0)
      have BE := hid k8.be
      clear k8 cc8 hv HVA BX7 x0 x1 x2
      have hrefl := str_refl (bs l)
      rcases hv2 with ⟨rfl, rfl⟩ | ⟨rfl, rfl, hpos⟩
      · go_wp2_with fail
        refine HR.out.mono ?_
        rintro e w9 ⟨rfl, k9, -⟩
        have HNW := hid (ShL.newL (pl : Int) (by omega) k9.be)
        clear k9 HR
        go_wp2_with fail
        refine HNW.out.mono ?_
        rintro e w10 ⟨s2, d2, rfl, k10⟩
        have HC2 := hid (cell_any k10 (by decide) inv0 (by omega) (by have e1 : h1.pages = 1 := rfl; omega) (by decide) val (by have := HL5.out; omega))
        clear k10 HNW
        go_wp2_with fail
        refine HC2.out.mono ?_
        rintro e w11 ⟨c2, er2, h11, arm11, S11, rfl, k11, -, out2⟩
        have hfin := tight_out out2 HPL.out HL5.out
        have BE2 := hid k11.be
        clear k11 out2 HC2
        rcases hfin with ⟨h0, rfl⟩ | ⟨h0, rfl⟩
        · have hp2 : ((pl : Int) == 0) = true := by rw [h0]; rfl
          clear h0
          go_wp2
          go_ret
          exact ⟨rfl, BE2.out⟩
        · have hp2 : ((pl : Int) == 0) = false := by rw [beq_eq_false_iff_ne]; omega
          have hp3 : (0 : Int) < (pl : Int) := by omega
          clear h0
          go_wp2
          go_ret
          exact ⟨rfl, BE2.out⟩
      · have hnil : bs ([] : Bs) = ⟨#[]⟩ := rfl
        rw [hnil]
        have hp1 : ((pl : Int) == 0) = false := by rw [beq_eq_false_iff_ne]; omega
        clear hnil
        have HPOS := hid hpos
        clear hpos
        go_wp2_with fail
        clear hp1
        refine HR.out.mono ?_
        rintro e w9 ⟨rfl, k9, -⟩
        have HNW := hid (ShL.newL (pl : Int) (by omega) k9.be)
        clear k9 HR
        go_wp2_with fail
        refine HNW.out.mono ?_
        rintro e w10 ⟨s2, d2, rfl, k10⟩
        have HC2 := hid (cell_any k10 (by decide) inv0 (by omega) (by have e1 : h1.pages = 1 := rfl; omega) (by decide) l (by have := HL5.out; omega))
        clear k10 HNW
        go_wp2_with fail
        refine HC2.out.mono ?_
        rintro e w11 ⟨c2, er2, h11, arm11, S11, rfl, k11, -, out2⟩
        have hfin := tight_out out2 HPL.out HL5.out
        have BE2 := hid k11.be
        clear k11 out2 HC2
        rcases hfin with ⟨h0, rfl⟩ | ⟨h0, rfl⟩
        · have hp2 : ((pl : Int) == 0) = true := by rw [h0]; rfl
          clear h0
          have := HPOS.out
          exfalso
          simp at hp2
          omega
        · have hp2 : ((pl : Int) == 0) = false := by rw [beq_eq_false_iff_ne]; omega
          have hp3 : (0 : Int) < (pl : Int) := by omega
          clear h0
          go_wp2
          go_ret
          exact ⟨rfl, BE2.out⟩
    · have hcells := c40
      clear c40
      subst hc0
      dsimp only [cV, c0]
      have e0 : bs [] = ⟨#[]⟩ := rfl
      rw [e0]
      have h40' : (40 : Int) < ((bs l).size : Int) := by have := HZ.out; omega
      have BE := hid K4.out.be
      dsimp only [cO, c0] at BE
      rw [e0] at BE
      obtain ⟨x0, x1, x2⟩ : (w3.alloc (.cells #[.int .i64 0, .string ⟨#[]⟩, .int .i64 0] tC)).cell? ⟨w3.heap.size, 0, none⟩ = some (.int .i64 0) ∧ (w3.alloc (.cells #[.int .i64 0, .string ⟨#[]⟩, .int .i64 0] tC)).cell? ⟨w3.heap.size, 1, none⟩ = some (.string ⟨#[]⟩) ∧ (w3.alloc (.cells #[.int .i64 0, .string ⟨#[]⟩, .int .i64 0] tC)).cell? ⟨w3.heap.size, 2, none⟩ = some (.int .i64 0) := hcells
      clear e0 k3
      go_wp2
      go_ret
      exact ⟨rfl, BE.out⟩
    · exact absurd h hroom.out
end Ch
end Go.Proofs.YtkoglikaaehhjaaGreatDoor
