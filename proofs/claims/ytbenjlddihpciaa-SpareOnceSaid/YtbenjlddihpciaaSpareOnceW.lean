/-
  SpareOnce: the walk of the statement.
-/
import Derived.Test.YtbenjlddihpciaaSpareOnceL
import Derived.Deep.RegionHeld3
namespace Go.Proofs.Ytbenjlddihpciaa
open Go.RowKit
namespace spareOnce
open Sp
open Num (hid)
open Mem (Bs bs ptr Chg Row IAt iV tI tIs blk_cell blk_free blk_new blk_set blk_other blk_alloc row_kept wpList_append_run)
theorem at_u (a : Int) (m : Nat) (hm : 0 < m) (hm2 : m ≤ 1000) : ∃ j : Nat, j < m ∧ wrap64 ((IntKind.u64.wrap a).tmod (IntKind.u64.wrap (m : Int))) = (j : Int) := by
  have e : IntKind.u64.wrap (m : Int) = (m : Int) := by rw [IntKind.wrap_u64]; omega
  rw [e]
  exact mod_u a m hm hm2
theorem once_facts {h : Hd} {B : Book} {U F : List Int} (k : Inv h B U F) (nu : Nat) (f : Int) (h1 : U.length = nu) (h2 : f = (F.length : Int)) :
    ∃ z : Bool, (h.pages != 1 + (nu : Int) + f) = false ∧ (h.trunk == 0) = z ∧ (f == 0) = z ∧ (h.spare != f) = false ∧ 0 ≤ f ∧ h.pages = 1 + (nu : Int) + f := by
  have e1 := k.sp
  have e2 := k.pg
  rw [h1] at e2
  subst h2
  refine ⟨decide (h.trunk = 0), ?_, by rw [Bool.eq_iff_iff, beq_iff_eq, decide_eq_true_eq], ?_, ?_, by omega, e2⟩
  · rw [e2]; simp
  · rw [Bool.eq_iff_iff, beq_iff_eq, decide_eq_true_eq]
    rcases k.fr.head with ⟨e3, e4⟩ | ⟨e3, _, e4⟩
    · rw [e4]
      simp
      exact e3
    · omega
  · rw [e1]; simp
theorem once_m (m : Nat) (h : m ≤ 300) : wrap64 ((m : Int) + 1) = (m : Int) + 1 := by rw [Num.wrap_i]; omega
theorem once_sub (f : Int) (h : 0 ≤ f) (h2 : f ≤ 300) : wrap64 (f - 1) = f - 1 := by rw [Num.wrap_i]; omega
theorem once_add (f : Int) (h : 0 ≤ f) (h2 : f ≤ 300) : wrap64 (f + 1) = f + 1 := by rw [Num.wrap_i]; omega
theorem wrap_next (j : Nat) (h : j ≤ 1000) : IntKind.i64.wrap ((j : Int) + 1) = (j : Int) + 1 := by
  rw [IntKind.wrap_i64]
  omega
/-- A place of the row of the pages used. -/
theorem used_cell {O : Nat → Prop} {N B b1 nu cap j : Nat} {w : World} {U : List Int} (u : Used O N B w (.slice (some ⟨b1, 0, none⟩) nu cap) U) (hl : U.length = nu) (hm : nu ≤ 1000) (hj : j < U.length) :
    w.cell? ⟨b1, j, none⟩ = some (.int .i64 U[j]) ∧ b1 < w.heap.size ∧ nu ≤ cap := by
  subst hl
  have hI := Mem.ints_row u.row (by unfold maxLen; omega)
  obtain ⟨ao, cap', e, -, hcap, hc⟩ := hI.ways1
  simp only [Value.slice.injEq] at e
  obtain ⟨rfl, -, rfl⟩ := e
  obtain ⟨b, o, e1, e2, e3⟩ := hc j hj
  simp only [Option.some.injEq, Addr.mk.injEq, and_true] at e1
  obtain ⟨rfl, rfl⟩ := e1
  rw [Nat.zero_add] at e3
  exact ⟨e3, e2, hcap⟩
/-- What the call of Give reads. -/
abbrev Reads7 (w : World) (B b1 j : Nat) (h : Hd) (y : Int) : Prop := w.cell? ⟨B, 0, none⟩ = some (.int .i64 h.mode) ∧ w.cell? ⟨B, 1, none⟩ = some (.int .i64 h.pages) ∧ w.cell? ⟨B, 2, none⟩ = some (.int .i64 h.trunk) ∧ w.cell? ⟨B, 3, none⟩ = some (.int .i64 h.spare) ∧ w.cell? ⟨B, 4, none⟩ = some (.int .i64 h.root) ∧ w.cell? ⟨B, 5, none⟩ = some (.int .u64 (h.change : Nat)) ∧ w.cell? ⟨b1, j, none⟩ = some (.int .i64 y)
theorem reads7 {O : Nat → Prop} {N B b1 nu cap j : Nat} {w : World} {U : List Int} {h : Hd} (k : Hb B h w) (u : Used O N B w (.slice (some ⟨b1, 0, none⟩) nu cap) U) (hl : U.length = nu) (hm : nu ≤ 1000) (hj : j < U.length) : Reads7 w B b1 j h U[j] := by
  obtain ⟨c0, c1, c2, c3, c4, c5⟩ := k.cells
  exact ⟨c0, c1, c2, c3, c4, c5, (used_cell u hl hm hj).1⟩
/-- Behind Give: what the walk carries, and the new head's box. -/
structure GFin (N B d b cnt : Nat) (h : Hd) (S' : St) (w0 : World) (v : Value) (U : List Int) (h' : Hd) (g : Nat) (w4 : World) : Prop where
  hb : Hb g h' w4
  lab : ∃ O, Lab O N B d b cnt h S' w0 w4 ∧ Used O N B w4 v U
abbrev zObj : Obj := .cells #[.int .i64 0, .int .i64 0, .int .i64 0, .int .i64 0, .int .i64 0, .int .u64 0] tH
theorem gfin_A {O : Nat → Prop} {N B d b cnt : Nat} {h : Hd} {S' : St} {w0 w w3 : World} {v : Value} {U : List Int} (h' : Hd) (L : Lab O N B d b cnt h S' w0 w3) (u : Used O N B w v U) (hst : Stays O w.drew w3) :
    GFin N B d b cnt h S' w0 v U h' w3.heap.size (w3.alloc (hObj h')) := by
  have hb : Below w3.heap.size w3 (w3.alloc (hObj h')) := (Below.refl _ _).alloc (Nat.le_refl _) _
  have u2 : Used O N B w.drew v U := u.on (Below.refl w.heap.size w).drew
  exact ⟨Hb.new h' w3, O, L.kept hb, (u2.stays hst).on hb⟩
theorem boxed {O : Nat → Prop} {N B d b cnt : Nat} {h : Hd} {S : St} {w0 w : World} (L : Lab O N B d b cnt h S w0 w) :
    Lab (fun k => O k ∨ (w.heap.size ≤ k ∧ k < (w.alloc zObj).heap.size)) N B d b cnt h S w0 (w.alloc zObj).drew := by
  have hb : Below w.heap.size w (w.alloc zObj) := (Below.refl _ _).alloc (Nat.le_refl _) _
  exact (L.beside (F := fun _ => False) (Chg.of_below hb) (fun _ h _ => h.elim) id (fun _ _ h => h)).kept (Below.refl _ _).drew
theorem gfin_B {O : Nat → Prop} {N B d b cnt : Nat} {h h2 : Hd} {S S' : St} {w0 w w3 : World} {v : Value} {U : List Int} (h' : Hd) (L0 : Lab O N B d b cnt h2 S w0 w)
    (L : Lab (fun k => O k ∨ (w.heap.size ≤ k ∧ k < (w.alloc zObj).heap.size)) N B d b (cnt + 2) h S' w0 w3) (u : Used O N B w v U) (hst : Stays (fun k => O k ∨ (w.heap.size ≤ k ∧ k < (w.alloc zObj).heap.size)) (w.alloc zObj).drew w3) :
    Hb w.heap.size hd0 w3 ∧ Used (fun k => O k ∨ (w.heap.size ≤ k ∧ k < (w.alloc zObj).heap.size)) N B w3 v U ∧ GFin N B d b (cnt + 2) h S' w0 v U h' w.heap.size (put6 w3 w.heap.size h') := by
  have hb : Below w.heap.size w (w.alloc zObj).drew := ((Below.refl _ _).alloc (Nat.le_refl _) _).drew
  have hz0 : Hb w.heap.size hd0 (w.alloc zObj).drew := blk_new w zObj
  have hO : O w.heap.size ∨ (w.heap.size ≤ w.heap.size ∧ w.heap.size < (w.alloc zObj).heap.size) := Or.inr ⟨Nat.le_refl _, by simp⟩
  have hz := hst.hb hz0 hO
  have u3 := ((u.on hb).more (O' := fun k => O k ∨ (w.heap.size ≤ k ∧ k < (w.alloc zObj).heap.size)) (fun k hk => Or.inl hk)).stays hst
  have hc : Chg (· = w.heap.size) w3 (put6 w3 w.heap.size h') := ((((((Chg.refl _ w3).root _ _).root _ _).root _ _).root _ _).root _ _).root _ _
  have hNz : N ≤ w.heap.size := L0.size
  have hBz : B < w.heap.size := L0.hb.lt
  refine ⟨hz, u3, hz.put h', _, L.beside hc (fun k hk _ => by rw [hk]; exact hO) (fun e => by omega) (fun k hk e => by omega), ?_⟩
  refine (Used.more ⟨row_kept u3.row hc (fun g hg e => ?_), u3.own⟩ (fun k hk => Or.inl hk))
  have := u.row.lt g hg
  omega
theorem once_pg {p p' : Int} {m n : Nat} (h : p ≤ (m : Int) + 1) (h2 : p' = p + (if n = 0 then 1 else 0)) : p' ≤ ((m + 1 : Nat) : Int) + 1 := by
  split at h2
  · omega
  · omega
theorem give_A {O : Nat → Prop} {N B d b cnt b1 nu cap j : Nat} {h : Hd} {S S' : St} {w0 w w3 : World} {U : List Int} {y : Int} (_L0 : Lab O N B d b cnt h S w0 w) (u : Used O N B w (.slice (some ⟨b1, 0, none⟩) nu cap) U) (L : Lab O N B d b (cnt + 2) h S' w0 w3) (hst : Stays O w.drew w3)
    (hl : U.length = nu) (hm : nu ≤ 1000) (hj : j < U.length) (hy : U[j] = y) (h' : Hd) :
    Reads7 w3 B b1 j h y ∧ Reads7 (w3.alloc zObj) B b1 j h y ∧ Reads7 (w3.alloc (hObj h')) B b1 j h y ∧ GFin N B d b (cnt + 2) h S' w0 (.slice (some ⟨b1, 0, none⟩) nu cap) U h' w3.heap.size (w3.alloc (hObj h')) := by
  have u2 : Used O N B w.drew (.slice (some ⟨b1, 0, none⟩) nu cap) U := u.on (Below.refl w.heap.size w).drew
  have u3 := u2.stays hst
  have hb1 : Below w3.heap.size w3 (w3.alloc zObj) := (Below.refl _ _).alloc (Nat.le_refl _) _
  have hb2 : Below w3.heap.size w3 (w3.alloc (hObj h')) := (Below.refl _ _).alloc (Nat.le_refl _) _
  have F := gfin_A (cnt := cnt + 2) h' L u hst
  subst hy
  exact ⟨reads7 L.hb u3 hl hm hj, reads7 (L.hb.on hb1) (u3.on hb1) hl hm hj, reads7 (L.hb.on hb2) (u3.on hb2) hl hm hj, F⟩
theorem give_B {O : Nat → Prop} {N B d b cnt b1 nu cap j : Nat} {h : Hd} {S S' : St} {w0 w w3 : World} {U : List Int} {y : Int} (L0 : Lab O N B d b cnt h S w0 w) (u : Used O N B w (.slice (some ⟨b1, 0, none⟩) nu cap) U)
    (L : Lab (fun k => O k ∨ (w.heap.size ≤ k ∧ k < (w.alloc zObj).heap.size)) N B d b (cnt + 2) h S' w0 w3) (hst : Stays (fun k => O k ∨ (w.heap.size ≤ k ∧ k < (w.alloc zObj).heap.size)) (w.alloc zObj).drew w3)
    (hl : U.length = nu) (hm : nu ≤ 1000) (hj : j < U.length) (hy : U[j] = y) (h' : Hd) :
    Reads7 w3 B b1 j h y ∧ Reads7 (put6 w3 w.heap.size h') B b1 j h y ∧ GFin N B d b (cnt + 2) h S' w0 (.slice (some ⟨b1, 0, none⟩) nu cap) U h' w.heap.size (put6 w3 w.heap.size h') ∧ Hb w.heap.size hd0 w3 := by
  obtain ⟨hz, u3, F⟩ := gfin_B h' L0 L u hst
  obtain ⟨O4, L4, U4⟩ := F.lab
  subst hy
  exact ⟨reads7 L.hb u3 hl hm hj, reads7 L4.hb U4 hl hm hj, F, hz⟩
/-- The row with a page more. -/
theorem push_used {O O' : Nat → Prop} {N B d b cnt : Nat} {h : Hd} {S : St} {w0 w w' : World} {v v' : Value} {U : List Int} {y : Int} (u : Used O N B w v U) (k : Lab O N B d b cnt h S w0 w) (ho : w'.ownsRow 0 tI 1 v' (U.length + 1) (U.map (Value.int .i64) ++ [.int .i64 y]))
    (hk : ∀ g, v'.ownBlock = some g → v.ownBlock = some g ∨ w.heap.size ≤ g) (h1 : ∀ k, O k → O' k) (h2 : ∀ k, w.heap.size ≤ k → k < w'.heap.size → O' k) : Used O' N B w' v' (U ++ [y]) := by
  refine ⟨by rw [List.length_append, List.map_append]; exact ho, fun g hg => ?_⟩
  rcases hk g hg with h5 | h5
  · have := u.own g h5
    exact ⟨h1 g this.1, this.2⟩
  · have h6 := (ho.lt g hg).2
    have h7 := k.hb.lt
    have h8 := k.size
    exact ⟨h2 g h5 h6, by omega, by omega⟩
set_option maxRecDepth 100000 in
set_option maxHeartbeats 8000000 in
theorem walk (v0 : Value) (l0 : List Int) (w : World) (hI0 : IAt w v0 l0) :
    Calls Try.prog 8 #[v0] w fun e w' => e = .returned (.bool true) ∧ Below w.heap.size w w' := by
  obtain ⟨ao, cap, rfl, hml, hcap, hc0⟩ := hI0.ways1
  have HML := hid hml
  have HC0 := hid hc0
  have HI : Hid (Inv ⟨1, 1, 0, 0, 0, 0⟩ [] [] []) := hid (inv_new 1 0 (Or.inl rfl))
  clear hml hc0 hcap hI0
  go_enter Try.func8, Try.ntmps8
  go_wp2_with fail
  refine (awake_any _).mono ?_
  rintro e wa ⟨rfl, hba⟩
  have BA := hid hba
  clear hba
  go_wp2_with fail
  refine (fresh_any wa).mono ?_
  rintro e w1 ⟨rfl, hs1, hb1, hz1⟩
  have HL1 := hid (lab_new BA.out hs1 hb1 ⟨1, 1, 0, 0, 0, 0⟩)
  generalize hdd : wa.heap.size + 1 = d at *
  clear hdd
  clear hs1 hb1 hz1
  go_upto_region 5 with fail
  generalize w1.alloc (.cells #[.int .i64 1, .int .i64 1, .int .i64 0, .int .i64 0, .int .i64 0, .int .u64 0] tH) = w2 at *
  generalize hOO : (fun k => k < wa.heap.size ∨ w1.heap.size ≤ k ∧ k < w2.heap.size) = O at *
  generalize w1.heap.size = B at *
  generalize wa.heap.size = b at *
  clear hOO
  have HL0 := HL1
  obtain ⟨O1, hL2, hU2⟩ := joins (U := []) (v := .slice (some ⟨w2.heap.size, 0, none⟩) 0 0) HL1.out ((Below.refl w2.heap.size w2).alloc (Nat.le_refl _) (.cells #[] tI)) (own_empty w2) (fun g hg => by
    have : w2.heap.size = g := by simpa [Value.ownBlock] using hg
    omega)
  have HL2 := hid hL2
  have HU2 := hid hU2
  clear hL2 hU2 HL0 HL1
  go_upto_region 6 with fail
  generalize w2.alloc (.cells #[] tI) = w3 at *
  generalize w2.heap.size = g2 at *
  go_wp2_with fail
  go_loopw [5, 6, 7] (fun uv fv i wr => ∃ (m nu cap : Nat) (f : Int) (ao : Option Addr) (O : Nat → Prop) (U F : List Int) (h : Hd) (S : St), m ≤ l0.length ∧ m ≤ 300 ∧ uv = .slice ao nu cap ∧ fv = .int .i64 f ∧ i = .int .i64 m ∧ Hid (U.length = nu) ∧ Hid (f = (F.length : Int)) ∧ Hid (h.pages ≤ (m : Int) + 1) ∧ Hid (Lab O w.heap.size B d b (2 * m + 1) h S w wr) ∧ Hid (Inv h S.B U F) ∧ Hid (S.left < 0) ∧ Hid (h.mode = 1 ∧ h.change = 0) ∧ Hid (Used O w.heap.size B wr (.slice ao nu cap) U)) (fun _ _ i _ => 300 - (intOf i).toNat)
  case atStart => exact ⟨0, 0, 0, 0, _, O1, [], [], ⟨1, 1, 0, 0, 0, 0⟩, St0, Nat.zero_le _, Nat.zero_le _, rfl, rfl, rfl, hid rfl, hid rfl, hid (by show (1 : Int) ≤ _; simp), HL2, HI, hid (show (-1 : Int) < 0 by decide), hid ⟨rfl, rfl⟩, HU2⟩
  case round =>
    obtain ⟨m, nu, cap, f, ao2, O, U, F, h, S, hm1, hm2, rfl, rfl, rfl, HUL, HFL, hpg, HL, HIV, HNG, HMD, HU⟩ := hrel
    by_cases hlt : m < l0.length ∧ m < 300
    · obtain ⟨hlt1, hlt2⟩ := hlt
      have hle1 : (m : Int) < l0.length := by omega
      have hle2 : (m : Int) < 300 := by omega
      have hnu : nu ≤ 300 := by have := HIV.out.pg; have := hpg.out; have := HUL.out; omega
      have hf0 : 0 ≤ f := by have := HFL.out; omega
      have hf3 : f ≤ 300 := by have := HIV.out.pg; have := hpg.out; have := HFL.out; omega
      obtain ⟨b0, o0, rfl, hb0, hx0⟩ := HC0.out m hlt1
      generalize hx : l0[m] = x at *
      have hx1 := (World.cell?_of_block (a := ⟨b0, o0 + m, none⟩) (HL.out.be.block b0 hb0)).trans hx0
      have hlb : b0 < wr.heap.size := Nat.lt_of_lt_of_le hb0 HL.out.size
      clear hx hx0 hb0
      by_cases hg : (x.tmod 3 ≠ 0 ∧ 0 < nu)
      · obtain ⟨hg1, hg2⟩ := hg
        have hxm : (x.tmod 3 != 0) = true := by simpa using hg1
        have hnp : (0 : Int) < (nu : Int) := by omega
        obtain ⟨j, hj, hkj⟩ := mod_u x nu hg2 (by omega)
        have hjl : (j : Int) < (nu : Int) := by omega
        have hjU : j < U.length := by rw [HUL.out]; exact hj
        obtain ⟨ao8, cap8, e8, hg8⟩ := Mem.row_shape HU.out.row
        obtain ⟨b1, hao1, -⟩ := hg8 (by omega)
        rw [HUL.out] at e8
        simp only [Value.slice.injEq] at e8
        obtain ⟨rfl, -, rfl⟩ := e8
        subst hao1
        obtain ⟨hu1, hu2, hcap⟩ := used_cell HU.out HUL.out (by omega) hjU
        have HRA := hid (reads7 (w := wr.drew) HL.out.hb (HU.out.on (Below.refl wr.heap.size wr).drew) HUL.out (by omega) hjU)
        have hLB := boxed HL.out
        have HRB := hid (reads7 hLB.hb (((HU.out.on ((Below.refl _ _).alloc (Nat.le_refl _) zObj).drew).more (O' := fun k => O k ∨ (wr.heap.size ≤ k ∧ k < (wr.alloc zObj).heap.size)) (fun k hk => Or.inl hk))) HUL.out (by omega) hjU)
        have HGA := hid ((HL.out.kept (Below.refl wr.heap.size wr).drew).give HNG.out (by omega) HIV.out (by have := hpg.out; omega) hjU)
        have HGB := hid (hLB.give HNG.out (by omega) HIV.out (by have := hpg.out; omega) hjU)
        have HJU := hid hjU
        generalize hy : U[j] = y at *
        have HY := hid hy
        unfold hV at HGA HGB
        clear hg1 hg2 hg8 hLB hy hjU
        obtain ⟨p0, p1, p2, p3, p4, p5⟩ := HL.out.hb.cells
        have pl := HL.out.hb.lt
        go_upto_region 12 with fail
        go_region_held3 (fun W => W.cell? ⟨B, 0, none⟩ = some (.int .i64 h.mode) ∧ W.cell? ⟨B, 1, none⟩ = some (.int .i64 h.pages) ∧ W.cell? ⟨B, 2, none⟩ = some (.int .i64 h.trunk) ∧ W.cell? ⟨B, 3, none⟩ = some (.int .i64 h.spare) ∧ W.cell? ⟨B, 4, none⟩ = some (.int .i64 h.root) ∧ W.cell? ⟨B, 5, none⟩ = some (.int .u64 (h.change : Nat)) ∧ W.cell? ⟨b1, j, none⟩ = some (.int .i64 y))
          (first | with_reducible exact HRA.out | with_reducible exact HRB.out | with_reducible exact K3.out | with_reducible exact K4.out | with_reducible exact K5.out)
          (first
            | go_at_call 32; with_reducible refine HGA.out.mono ?_; rintro e w3 ⟨h', S', rfl, hL3, hng, hiv, hmd, hch, hpp, hsp, hst⟩; have F3 := hid (give_A HL.out HU.out hL3 hst HUL.out (show nu ≤ 1000 by omega) HJU.out HY.out h'); have K3 := hid F3.out.1; have K4 := hid F3.out.2.1; have K5 := hid F3.out.2.2.1; have FG := hid F3.out.2.2.2; have HX := hid (And.intro hng (And.intro hiv (And.intro hmd (And.intro hch hpp)))); clear hL3 hng hiv hmd hch hpp hsp hst F3
            | go_at_call 32; with_reducible refine HGB.out.mono ?_; rintro e w3 ⟨h', S', rfl, hL3, hng, hiv, hmd, hch, hpp, hsp, hst⟩; have F3 := hid (give_B HL.out HU.out hL3 hst HUL.out (show nu ≤ 1000 by omega) HJU.out HY.out h'); have K3 := hid F3.out.1; have K5 := hid F3.out.2.1; have FG := hid F3.out.2.2.1; obtain ⟨x0, x1, x2, x3, x4, x5⟩ := F3.out.2.2.2.cells; obtain ⟨z0, z1, z2, z3, z4, z5⟩ := F3.out.2.2.2.free; have hxl := F3.out.2.2.2.lt; have HX := hid (And.intro hng (And.intro hiv (And.intro hmd (And.intro hch hpp)))); clear hL3 hng hiv hmd hch hpp hsp hst F3)
        · generalize hgg : w3.heap.size = g at *
          generalize w3.alloc (.cells #[.int .i64 h'.mode, .int .i64 h'.pages, .int .i64 h'.trunk, .int .i64 h'.spare, .int .i64 h'.root, .int .u64 (h'.change : Nat)] tH) = w4 at *
          clear hgg HRA HRB HGA HGB K3 K4 K5
          obtain ⟨O4, L4, U4⟩ := FG.out.lab
          have G4 := hid FG.out.hb
          have L4 := hid L4
          have U4 := hid U4
          clear FG hu1 hu2 p0 p1 p2 p3 p4 p5 pl
          obtain ⟨q0, q1, q2, q3, q4, q5⟩ := G4.out.cells
          obtain ⟨p0, p1, p2, p3, p4, p5⟩ := L4.out.hb.cells
          obtain ⟨f0, f1, f2, f3, f4, f5⟩ := L4.out.hb.free
          have pl := L4.out.hb.lt
          have ql := G4.out.lt
          have L5 := hid (L4.out.put h')
          have U5 := hid (U4.out.put h')
          unfold put6 at L5 U5
          go_upto_region 16 with fail
          clear q0 q1 q2 q3 q4 q5 p0 p1 p2 p3 p4 p5 f0 f1 f2 f3 f4 f5 pl ql
          generalize (((((w4.setCell ⟨B, 0, none⟩ (.int .i64 h'.mode)).setCell ⟨B, 1, none⟩ (.int .i64 h'.pages)).setCell ⟨B, 2, none⟩ (.int .i64 h'.trunk)).setCell ⟨B, 3, none⟩ (.int .i64 h'.spare)).setCell ⟨B, 4, none⟩ (.int .i64 h'.root)).setCell ⟨B, 5, none⟩ (.int .u64 (h'.change : Nat)) = wz at *
          have hUl := HUL.out
          obtain ⟨vA, wA, vB, wB, hrA, hrB, hoB, hbB, hgB⟩ := recopy (U := U) (ao := some ⟨b1, 0, none⟩) (cap := cap) (by have := U5.out.row; rw [← hUl] at this; exact this) (by omega) HJU.out
          obtain ⟨O6, L6, U6⟩ := joins L5.out hbB hoB hgB
          obtain ⟨D1, hD1⟩ : ∃ D, D = Mem.dropS 1 (some ⟨b1, 0, none⟩) nu cap (j + 1) := ⟨_, rfl⟩
          rw [hUl, ← hD1] at hrB
          have hs1 : ∀ w : World, (Instr.sliceAt tIs (.slice (some ⟨b1, 0, none⟩) nu cap) (some (.int .i64 ((j : Int) + 1))) none none).run Try.prog w = .ok D1 w := fun w => by
            rw [hD1]
            have := slice_from (n := nu) (cap := cap) (m := j + 1) b1 0 (by omega) hcap w
            push_cast at this
            exact this
          obtain ⟨nu2, hn2⟩ : ∃ nu2, nu2 = nu - 1 := ⟨_, rfl⟩
          have hl5 : (U.take j ++ U.drop (j + 1)).length = nu2 := by rw [List.length_append, List.length_take, List.length_drop, hUl, hn2]; omega
          rw [hl5] at hoB
          obtain ⟨ao5, cap5, e5, -⟩ := Mem.row_shape hoB
          subst e5
          have HL5 := hid hl5
          have e3m : 2 * m + 1 + 2 = 2 * (m + 1) + 1 := by omega
          rw [e3m] at L6
          have L6 := hid L6
          have U6 := hid U6
          have N4 := hid HX.out.1
          have I4 := hid HX.out.2.1
          have M4 : Hid (h'.mode = 1 ∧ h'.change = 0) := hid ⟨HX.out.2.2.1.trans HMD.out.1, HX.out.2.2.2.1.trans HMD.out.2⟩
          have P4 : Hid (h'.pages ≤ ((m + 1 : Nat) : Int) + 1) := hid (by rw [HX.out.2.2.2.2]; have := hpg.out; push_cast; omega)
          have HF5 : Hid (f + 1 = ((y :: F).length : Int)) := hid (by have := HFL.out; rw [List.length_cons]; push_cast; omega)
          have hnu2 : nu2 ≤ 400 := by omega
          have hjc1 : j ≤ cap := by omega
          have hf5 : f + 1 ≤ 301 := by omega
          have hf6 : 0 ≤ f + 1 := by omega
          generalize U.take j ++ U.drop (j + 1) = U7 at *
          obtain ⟨z, c2, c3, c4, c1, -, -⟩ := once_facts I4.out nu2 (f + 1) HL5.out HF5.out
          have HRA := hid hrA
          have HRB := hid hrB
          clear hUl hrA hrB hoB hbB hgB hD1 hn2 hl5 e3m HX L5 U5 L4 U4 G4 hcap
          have hwj : IntKind.i64.wrap ((j : Int) + 1) = (j : Int) + 1 := wrap_next j (by omega)
          obtain ⟨p0, p1, p2, p3, p4, p5⟩ := L6.out.hb.cells
          have pl := L6.out.hb.lt
          go_upto_region 18 with (at_builtin; refine wpList_append_run rfl (.tmp 67) (.tmp 70) tIs tIs rfl _ _ (by simp [Act.eval]) (by simp [Act.eval]) HRA.out ?_)
          go_wp2_with (at_builtin; refine wpList_append_run rfl (.tmp 72) (.tmp 76) tIs tIs rfl _ _ (by simp [Act.eval]) (by simp [Act.eval]) HRB.out ?_)
          go_roundw
          case rel => exact ⟨m + 1, nu2, cap5, f + 1, ao5, O6, U7, y :: F, h', S', hlt1, hlt2, rfl, rfl, by go_num, HL5, HF5, P4, L6, I4, N4, M4, U6⟩
          case measure => simp [intOf]; omega
        · unfold put6 at FG K5
          generalize hgg : wr.heap.size = g at *
          clear x0 x1 x2 x3 x4 x5 z0 z1 z2 z3 z4 z5 hxl
          generalize (((((w3.setCell ⟨g, 0, none⟩ (.int .i64 h'.mode)).setCell ⟨g, 1, none⟩ (.int .i64 h'.pages)).setCell ⟨g, 2, none⟩ (.int .i64 h'.trunk)).setCell ⟨g, 3, none⟩ (.int .i64 h'.spare)).setCell ⟨g, 4, none⟩ (.int .i64 h'.root)).setCell ⟨g, 5, none⟩ (.int .u64 (h'.change : Nat)) = w4 at *
          clear hgg HRA HRB HGA HGB K3 K5
          obtain ⟨O4, L4, U4⟩ := FG.out.lab
          have G4 := hid FG.out.hb
          have L4 := hid L4
          have U4 := hid U4
          clear FG hu1 hu2 p0 p1 p2 p3 p4 p5 pl
          obtain ⟨q0, q1, q2, q3, q4, q5⟩ := G4.out.cells
          obtain ⟨p0, p1, p2, p3, p4, p5⟩ := L4.out.hb.cells
          obtain ⟨f0, f1, f2, f3, f4, f5⟩ := L4.out.hb.free
          have pl := L4.out.hb.lt
          have ql := G4.out.lt
          have L5 := hid (L4.out.put h')
          have U5 := hid (U4.out.put h')
          unfold put6 at L5 U5
          go_upto_region 16 with fail
          clear q0 q1 q2 q3 q4 q5 p0 p1 p2 p3 p4 p5 f0 f1 f2 f3 f4 f5 pl ql
          generalize (((((w4.setCell ⟨B, 0, none⟩ (.int .i64 h'.mode)).setCell ⟨B, 1, none⟩ (.int .i64 h'.pages)).setCell ⟨B, 2, none⟩ (.int .i64 h'.trunk)).setCell ⟨B, 3, none⟩ (.int .i64 h'.spare)).setCell ⟨B, 4, none⟩ (.int .i64 h'.root)).setCell ⟨B, 5, none⟩ (.int .u64 (h'.change : Nat)) = wz at *
          have hUl := HUL.out
          obtain ⟨vA, wA, vB, wB, hrA, hrB, hoB, hbB, hgB⟩ := recopy (U := U) (ao := some ⟨b1, 0, none⟩) (cap := cap) (by have := U5.out.row; rw [← hUl] at this; exact this) (by omega) HJU.out
          obtain ⟨O6, L6, U6⟩ := joins L5.out hbB hoB hgB
          obtain ⟨D1, hD1⟩ : ∃ D, D = Mem.dropS 1 (some ⟨b1, 0, none⟩) nu cap (j + 1) := ⟨_, rfl⟩
          rw [hUl, ← hD1] at hrB
          have hs1 : ∀ w : World, (Instr.sliceAt tIs (.slice (some ⟨b1, 0, none⟩) nu cap) (some (.int .i64 ((j : Int) + 1))) none none).run Try.prog w = .ok D1 w := fun w => by
            rw [hD1]
            have := slice_from (n := nu) (cap := cap) (m := j + 1) b1 0 (by omega) hcap w
            push_cast at this
            exact this
          obtain ⟨nu2, hn2⟩ : ∃ nu2, nu2 = nu - 1 := ⟨_, rfl⟩
          have hl5 : (U.take j ++ U.drop (j + 1)).length = nu2 := by rw [List.length_append, List.length_take, List.length_drop, hUl, hn2]; omega
          rw [hl5] at hoB
          obtain ⟨ao5, cap5, e5, -⟩ := Mem.row_shape hoB
          subst e5
          have HL5 := hid hl5
          have e3m : 2 * m + 1 + 2 = 2 * (m + 1) + 1 := by omega
          rw [e3m] at L6
          have L6 := hid L6
          have U6 := hid U6
          have N4 := hid HX.out.1
          have I4 := hid HX.out.2.1
          have M4 : Hid (h'.mode = 1 ∧ h'.change = 0) := hid ⟨HX.out.2.2.1.trans HMD.out.1, HX.out.2.2.2.1.trans HMD.out.2⟩
          have P4 : Hid (h'.pages ≤ ((m + 1 : Nat) : Int) + 1) := hid (by rw [HX.out.2.2.2.2]; have := hpg.out; push_cast; omega)
          have HF5 : Hid (f + 1 = ((y :: F).length : Int)) := hid (by have := HFL.out; rw [List.length_cons]; push_cast; omega)
          have hnu2 : nu2 ≤ 400 := by omega
          have hjc1 : j ≤ cap := by omega
          have hf5 : f + 1 ≤ 301 := by omega
          have hf6 : 0 ≤ f + 1 := by omega
          generalize U.take j ++ U.drop (j + 1) = U7 at *
          obtain ⟨z, c2, c3, c4, c1, -, -⟩ := once_facts I4.out nu2 (f + 1) HL5.out HF5.out
          have HRA := hid hrA
          have HRB := hid hrB
          clear hUl hrA hrB hoB hbB hgB hD1 hn2 hl5 e3m HX L5 U5 L4 U4 G4 hcap
          have hwj : IntKind.i64.wrap ((j : Int) + 1) = (j : Int) + 1 := wrap_next j (by omega)
          obtain ⟨p0, p1, p2, p3, p4, p5⟩ := L6.out.hb.cells
          have pl := L6.out.hb.lt
          go_upto_region 18 with (at_builtin; refine wpList_append_run rfl (.tmp 67) (.tmp 70) tIs tIs rfl _ _ (by simp [Act.eval]) (by simp [Act.eval]) HRA.out ?_)
          go_wp2_with (at_builtin; refine wpList_append_run rfl (.tmp 72) (.tmp 76) tIs tIs rfl _ _ (by simp [Act.eval]) (by simp [Act.eval]) HRB.out ?_)
          go_roundw
          case rel => exact ⟨m + 1, nu2, cap5, f + 1, ao5, O6, U7, y :: F, h', S', hlt1, hlt2, rfl, rfl, by go_num, HL5, HF5, P4, L6, I4, N4, M4, U6⟩
          case measure => simp [intOf]; omega
      · have hcases : (x.tmod 3 != 0) = false ∨ ((x.tmod 3 != 0) = true ∧ ¬ (0 : Int) < (nu : Int)) := by
          by_cases h0 : x.tmod 3 = 0
          · exact Or.inl (by simp [h0])
          · exact Or.inr ⟨by simp [h0], fun hn => hg ⟨h0, by omega⟩⟩
        have HG := hid (HL.out.take HNG.out (by omega) HIV.out (by have := hpg.out; omega) (fun _ => by have := hpg.out; omega))
        unfold hV at HG
        obtain ⟨p0, p1, p2, p3, p4, p5⟩ := HL.out.hb.cells
        have pl := HL.out.hb.lt
        clear hg
        rcases hcases with hxm | ⟨hxm, hn0⟩
        all_goals
          go_wp2_with fail
          refine HG.out.mono ?_
          rintro e w3 ⟨y, h', S', F', rfl, hL3, hng, hxU, hy1, hy2, hiv, hmd, hch, hFl, hsp, hpg', hst⟩
          have hb4 : Below w3.heap.size w3 (w3.alloc (hObj h')) := (Below.refl w3.heap.size w3).alloc (Nat.le_refl _) (hObj h')
          have L4 := hid (hL3.kept hb4)
          have G4 := hid (Hb.new h' w3)
          have U4 := hid ((HU.out.stays hst).on hb4)
          have I4 := hid hiv
          have N4 := hid hng
          have M4 : Hid (h'.mode = 1 ∧ h'.change = 0) := hid ⟨hmd.trans HMD.out.1, hch.trans HMD.out.2⟩
          have P4 : Hid (h'.pages ≤ ((m + 1 : Nat) : Int) + 1) := hid (once_pg hpg.out hpg')
          have F4 := hid hFl
          have HND : Hid (∀ k (hk : k < U.length), U[k] ≠ y) := hid (fun k hk e => hxU (e ▸ List.getElem_mem hk))
          have hy3 : ¬ y < 1 := by omega
          have hy4 : ¬ h'.pages ≤ y := by omega
          clear p0 p1 p2 p3 p4 p5 pl hL3 hng hiv hmd hch hpg' hsp hst hFl hy1 hy2 hxU hb4 HG hx1 hlb
          go_upto_region 22 with fail
          generalize w3.alloc (.cells #[.int .i64 h'.mode, .int .i64 h'.pages, .int .i64 h'.trunk, .int .i64 h'.spare, .int .i64 h'.root, .int .u64 (h'.change : Nat)] tH) = w4 at *
          generalize w3.heap.size = g4 at *
          obtain ⟨q0, q1, q2, q3, q4, q5⟩ := G4.out.cells
          have ql := G4.out.lt
          go_upto_region 25 with fail
          clear q0 q1 q2 q3 q4 q5 ql hy3 hy4
          go_wp2_with fail
          go_loopw [15] (fun i wr2 => ∃ k : Nat, k ≤ nu ∧ i = .int .i64 k ∧ wr2 = w4) (fun i _ => nu - (intOf i).toNat)
          case atStart => exact ⟨0, Nat.zero_le _, rfl, rfl⟩
          case round =>
            obtain ⟨k, hk, rfl, hww⟩ := hrel
            have hww2 := hww.symm
            clear hww
            subst hww2
            by_cases hlk : k < nu
            · have hlk2 : (k : Int) < nu := by omega
              have hUl := HUL.out
              have hkU : k < U.length := by omega
              have hI2 : IAt w4 (.slice ao2 U.length cap) U := Mem.ints_row (by have := U4.out.row; rw [← hUl] at this; exact this) (by unfold maxLen; omega)
              obtain ⟨ao3, cap3, e3, -, hcap3, hc3⟩ := hI2.ways1
              obtain ⟨b1, o1, hao, hb1, hu1⟩ := hc3 k hkU
              simp only [Value.slice.injEq] at e3
              obtain ⟨rfl, -, rfl⟩ := e3
              subst hao
              have hne := HND.out k hkU
              generalize U[k] = uk at *
              have hne2 : (uk == y) = false := by simpa using hne
              clear hI2 hc3 hcap3
              go_wp2
              go_roundw
              case rel => exact ⟨k + 1, by omega, by go_num, trivial⟩
              case measure => simp [intOf]; omega
            · have hlk2 : ¬ (k : Int) < nu := by omega
              have L5 := hid (L4.out.put h')
              have U5 := hid (U4.out.put h')
              have ul5 : (U.map (Value.int .i64)).length = nu := by rw [List.length_map]; exact HUL.out
              obtain ⟨q0, q1, q2, q3, q4, q5⟩ := G4.out.cells
              obtain ⟨p0, p1, p2, p3, p4, p5⟩ := L4.out.hb.cells
              obtain ⟨f0, f1, f2, f3, f4, f5⟩ := L4.out.hb.free
              have pl := L4.out.hb.lt
              have ql := G4.out.lt
              unfold put6 at L5 U5
              go_upto_region 30 with fail
              clear q0 q1 q2 q3 q4 q5 p0 p1 p2 p3 p4 p5 f0 f1 f2 f3 f4 f5 pl ql ul5
              generalize (((((w4.setCell ⟨B, 0, none⟩ (.int .i64 h'.mode)).setCell ⟨B, 1, none⟩ (.int .i64 h'.pages)).setCell ⟨B, 2, none⟩ (.int .i64 h'.trunk)).setCell ⟨B, 3, none⟩ (.int .i64 h'.spare)).setCell ⟨B, 4, none⟩ (.int .i64 h'.root)).setCell ⟨B, 5, none⟩ (.int .u64 (h'.change : Nat)) = wz at *
              obtain ⟨v5, w5, hr5, ho5, hc5, hk5⟩ := Mem.push_int U5.out.row y (by rw [HUL.out]; omega)
              obtain ⟨nu2, hn2⟩ : ∃ nu2, nu2 = nu + 1 := ⟨_, rfl⟩
              have hl5 : (U ++ [y]).length = nu2 := by rw [List.length_append, HUL.out, hn2]; rfl
              have L6 := hid (L5.out.beside hc5 (fun g hg _ => (U5.out.own g hg).1) (fun hg => (U5.out.own B hg).2.2 rfl) (fun g hg hg2 => by have := (U5.out.own g hg2).2.1; omega))
              have U6 : Hid (Used _ w.heap.size B w5 v5 (U ++ [y])) := hid (push_used (O' := fun k => O k ∨ (wz.heap.size ≤ k ∧ k < w5.heap.size)) U5.out L5.out ho5 hk5 (fun k hk => Or.inl hk) (fun k h1 h2 => Or.inr ⟨h1, h2⟩))
              rw [HUL.out] at ho5
              obtain ⟨ao5, cap5, e5, -⟩ := Mem.row_shape ho5
              rw [← hn2] at e5
              subst e5
              have HR5 := hid hr5
              have HL5 := hid hl5
              have e3m : 2 * m + 1 + 2 = 2 * (m + 1) + 1 := by omega
              rw [e3m] at L6
              have hnu2 : nu2 ≤ 400 := by omega
              generalize hOO : (fun k => O k ∨ (wz.heap.size ≤ k ∧ k < w5.heap.size)) = O5 at *
              generalize hUU : U ++ [y] = U7 at *
              clear hOO hUU hr5 ho5 hc5 hk5 hl5 e3m hn2 L5 U5 L4 U4 G4
              obtain ⟨p0, p1, p2, p3, p4, p5⟩ := L6.out.hb.cells
              have pl := L6.out.hb.lt
              by_cases hfz : F.length = 0
              · have hng : ¬ (0 : Int) < f := by have := HFL.out; omega
                have HF5 : Hid (f = (F'.length : Int)) := hid (by have := F4.out; have := HFL.out; omega)
                obtain ⟨z, c2, c3, c4, c1, -, -⟩ := once_facts I4.out nu2 f HL5.out HF5.out
                clear hfz
                go_wp2_with (at_builtin; refine wpList_append_run rfl (.tmp 114) (.tmp 116) tIs tIs rfl _ _ (by simp [Act.eval]) (by simp [Act.eval]) HR5.out ?_)
                go_roundw
                case rel => exact ⟨m + 1, nu2, cap5, f, ao5, O5, U7, F', h', S', hlt1, hlt2, rfl, rfl, by go_num, HL5, HF5, P4, L6, I4, N4, M4, U6⟩
                case measure => simp [intOf]; omega
              · have hgp : (0 : Int) < f := by have := HFL.out; omega
                have HF5 : Hid (f - 1 = (F'.length : Int)) := hid (by have := F4.out; have := HFL.out; omega)
                have hf21 : 0 ≤ f - 1 := by omega
                have hf22 : f - 1 ≤ 300 := by omega
                obtain ⟨z, c2, c3, c4, c1, -, -⟩ := once_facts I4.out nu2 (f - 1) HL5.out HF5.out
                clear hfz
                go_wp2_with (at_builtin; refine wpList_append_run rfl (.tmp 114) (.tmp 116) tIs tIs rfl _ _ (by simp [Act.eval]) (by simp [Act.eval]) HR5.out ?_)
                go_roundw
                case rel => exact ⟨m + 1, nu2, cap5, f - 1, ao5, O5, U7, F', h', S', hlt1, hlt2, rfl, rfl, by go_num, HL5, HF5, P4, L6, I4, N4, M4, U6⟩
                case measure => simp [intOf]; omega
    · have hstop : ¬ ((m : Int) < (l0.length : Int)) ∨ (((m : Int) < (l0.length : Int)) ∧ ¬ ((m : Int) < 300)) := by
        by_cases h1' : m < l0.length
        · exact Or.inr ⟨by omega, fun h2' => hlt ⟨h1', by omega⟩⟩
        · exact Or.inl (by omega)
      rcases hstop with hs1 | ⟨hs1, hs2⟩
      all_goals
        go_wp2
        go_ret
        exact ⟨rfl, HL.out.be⟩
end spareOnce
end Go.Proofs.Ytbenjlddihpciaa
