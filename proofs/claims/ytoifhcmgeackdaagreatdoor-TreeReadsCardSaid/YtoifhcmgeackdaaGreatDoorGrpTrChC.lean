/-
  Put together: ChainCalls, ChainFree, ChainFrame.
-/
import Derived.Test.YtoifhcmgeackdaaGreatDoorGrpTrChB
import Derived.Test.YtoifhcmgeackdaaGreatDoorGrpTrNoE
/-
  Contracts of Value, List, Cell.
-/
namespace Go.Proofs.YtoifhcmgeackdaaGreatDoor
open Go.RowKit
namespace Ch
open Num (hid)
open Mem (Bs bs ptr Chg tI tIs)
open Sp (Hd)
open Sh (ShL St Inv Two Own)
open No (okC)
/-- What Value leaves. -/
def ValPost (s d N cnt : Nat) (lim : Int) (h : Hd) (arm : Int) (S : St) (w0 w : World) (c : No.C) (e : Ending) (w' : World) : Prop :=
  ∃ (val : Bs) (pg : List Int) (er : Int) (arm' : Int), e = .returned (.tuple #[.string (bs val), .int .i64 er]) ∧ ShL s d N cnt lim h arm' S w0 w' ∧ Chg (Two s d) w w' ∧ (arm < 1 → arm' = arm) ∧ arm' ≤ 1000 ∧ (((val, pg), er) = valM S.f c ∨ (1 ≤ arm ∧ val = [] ∧ pg = [] ∧ er = 11 ∧ okC c = true ∧ 40 < c.z))
/-- What List leaves. -/
def ListPost (s d N cnt : Nat) (lim : Int) (h : Hd) (arm : Int) (S : St) (w0 w : World) (c : No.C) (e : Ending) (w' : World) : Prop :=
  ∃ (val : Bs) (pg : List Int) (er : Int) (v : Value) (arm' : Int), e = .returned (.tuple #[v, .int .i64 er]) ∧ ShL s d N cnt lim h arm' S w0 w' ∧ Chg (Two s d) w w' ∧ Own s d N tI w' v pg.length (ints pg) ∧ (∀ g, v.ownBlock = some g → w.heap.size ≤ g) ∧ (arm < 1 → arm' = arm) ∧ arm' ≤ 1000 ∧ (((val, pg), er) = valM S.f c ∨ (1 ≤ arm ∧ val = [] ∧ pg = [] ∧ er = 11 ∧ okC c = true ∧ 40 < c.z))
variable {s d N cnt : Nat} {lim : Int} {h : Hd} {arm : Int} {S : St} {w0 w : World} {U F : List Int}
set_option maxRecDepth 100000 in
set_option maxHeartbeats 1000000 in
theorem value_any (k : ShL s d N cnt lim h arm S w0 w) (ham : arm ≤ 1000) (c : No.C) :
    Calls Tryz.prog 84 #[pV s, cV c] w (ValPost s d N cnt lim h arm S w0 w c) := by
  have hA1 : Below w.heap.size w (w.alloc (cO c)) := (Below.refl w.heap.size w).alloc (Nat.le_refl _) _
  have HA1 := hid hA1
  have hbx := Mem.blk_new w (cO c)
  have c0 := Mem.blk_cell hbx 0
  have c1 := Mem.blk_cell hbx 1
  have c2 := Mem.blk_cell hbx 2
  have HR := hid (read_any (k.kept hA1) ham c)
  clear k hA1 hbx ham
  go_enter Tryz.func84, Tryz.ntmps84
  go_wp2_with fail
  refine HR.out.mono ?_
  rintro e w1 ⟨val, pg, er, v, arm', rfl, hk, hc, ho, hn, ha1, ha2, hv⟩
  have HK := hid hk
  have HC := hid (((Chg.of_below HA1.out).trans hc))
  have HF := hid (And.intro ha1 (And.intro ha2 hv))
  clear hk hc ho hn ha1 ha2 hv c0 c1 c2
  go_wp2
  go_ret2
  exact ⟨val, pg, er, arm', rfl, HK.out, HC.out, HF.out.1, HF.out.2.1, HF.out.2.2⟩
set_option maxRecDepth 100000 in
set_option maxHeartbeats 1000000 in
theorem list_any (k : ShL s d N cnt lim h arm S w0 w) (ham : arm ≤ 1000) (c : No.C) :
    Calls Tryz.prog 110 #[pV s, cV c] w (ListPost s d N cnt lim h arm S w0 w c) := by
  have hA1 : Below w.heap.size w (w.alloc (cO c)) := (Below.refl w.heap.size w).alloc (Nat.le_refl _) _
  have HA1 := hid hA1
  have hbx := Mem.blk_new w (cO c)
  have c0 := Mem.blk_cell hbx 0
  have c1 := Mem.blk_cell hbx 1
  have c2 := Mem.blk_cell hbx 2
  have HR := hid (read_any (k.kept hA1) ham c)
  clear k hA1 hbx ham
  go_enter Tryz.func110, Tryz.ntmps110
  go_wp2_with fail
  refine HR.out.mono ?_
  rintro e w1 ⟨val, pg, er, v, arm', rfl, hk, hc, ho, hn, ha1, ha2, hv⟩
  have HK := hid hk
  have HC := hid (((Chg.of_below HA1.out).trans hc))
  have HF := hid (And.intro ha1 (And.intro ha2 hv))
  have HO := hid (And.intro ho (fun g hg => Nat.le_trans HA1.out.size (hn g hg)))
  clear hk hc ho hn ha1 ha2 hv c0 c1 c2
  go_wp2
  go_ret2
  exact ⟨val, pg, er, v, arm', rfl, HK.out, HC.out, HO.out.1, HO.out.2, HF.out.1, HF.out.2.1, HF.out.2.2⟩
/-! ### Cell -/
def c0 : No.C := ⟨0, [], 0⟩
def CellOut (v : Bs) (c : No.C) (er : Int) (lim : Int) (h : Hd) (arm : Int) (S : St) (U F : List Int) (h' : Hd) (arm' : Int) (S' : St) : Prop :=
  (er = 47 ∧ c = c0 ∧ 5000 < v.length ∧ h' = h ∧ arm' = arm ∧ S' = S) ∨
  (er = 0 ∧ v.length ≤ 5000 ∧ ∃ ps F', CellOf S'.f c v ps ∧ Inv h' S' (U ++ ps.reverse) F' ∧ (∀ x ∈ U, S'.f x = S.f x) ∧ F'.length = F.length - ps.length ∧ h'.pages = h.pages + ((ps.length - F.length : Nat) : Int) ∧ h'.pages ≤ lim ∧ (arm < 1 → arm' = arm) ∧ arm' ≤ 1000) ∨
  (er = 11 ∧ c = c0 ∧ 1 ≤ arm ∧ 40 < v.length ∧ v.length ≤ 5000) ∨
  (er = 22 ∧ c = c0 ∧ 40 < v.length ∧ v.length ≤ 5000 ∧ lim < h.pages + ((((v.length + 226) / 227 - F.length : Nat)) : Int))
def CellPost (s d N cnt : Nat) (lim : Int) (h : Hd) (arm : Int) (S : St) (U F : List Int) (w0 w : World) (v : Bs) (e : Ending) (w' : World) : Prop :=
  ∃ (c : No.C) (er : Int) (h' : Hd) (arm' : Int) (S' : St), e = .returned (.tuple #[cV c, .int .i64 er]) ∧ ShL s d N (cnt + 200) lim h' arm' S' w0 w' ∧ Chg (Two s d) w w' ∧ CellOut v c er lim h arm S U F h' arm' S'
theorem cell_short {v : Bs} (hv : v.length ≤ 40) {c : No.C} (hc : c = ⟨v.length, v, 0⟩) (inv : Inv h S U F) (hp : h.pages ≤ lim) (ha : arm ≤ 1000) : CellOut v c 0 lim h arm S U F h arm S := by
  refine Or.inr (Or.inl ⟨rfl, by omega, [], F, ⟨by omega, Or.inl ⟨hv, hc, rfl⟩⟩, by simpa using inv, fun _ _ => rfl, by simp, by simp, hp, fun _ => rfl, ha⟩)
theorem cell_long {v : Bs} (hv : 40 < v.length) (hv2 : v.length ≤ 5000) {n er : Int} {h' : Hd} {arm' : Int} {S' : St} (L : LayOut v n er lim h arm S U F h' arm' S') : CellOut v (if er = 0 then ⟨v.length, [], n⟩ else c0) er lim h arm S U F h' arm' S' := by
  rcases L with ⟨rfl, ps, F', L⟩ | ⟨rfl, h2, h3⟩ | ⟨rfl, h2, h3⟩
  · rw [if_pos rfl]
    have hch := L.ch
    rw [Nat.mul_zero, List.drop_zero] at hch
    have hhd := hch.head.1
    exact Or.inr (Or.inl ⟨rfl, hv2, ps, F', ⟨hv2, Or.inr ⟨hv, by rw [hhd], by rw [← hhd]; exact hch⟩⟩, L.inv, L.same, L.fl, L.pg, L.pl, L.ar, L.am⟩)
  · rw [if_neg (by decide)]
    exact Or.inr (Or.inr (Or.inl ⟨rfl, rfl, h3, hv, hv2⟩))
  · rw [if_neg (by decide)]
    exact Or.inr (Or.inr (Or.inr ⟨rfl, rfl, hv, hv2, h3⟩))
abbrev put3 (w : World) (g : Nat) (c : No.C) : World := ((w.setCell ⟨g, 0, none⟩ (.int .i64 c.z)).setCell ⟨g, 1, none⟩ (.string (bs c.d))).setCell ⟨g, 2, none⟩ (.int .i64 c.p)
/-- The box of the answer. -/
structure Ans (s d N : Nat) (g : Nat) (w : World) : Prop where
  box : ∃ c : No.C, w.heap[g]? = some (.cells #[.int .i64 c.z, .string (bs c.d), .int .i64 c.p] tC (0, 0))
  ap : N ≤ g ∧ g ≠ s ∧ g ≠ d
theorem Ans.put {g : Nat} (a : Ans s d N g w) (c : No.C) : (put3 w g c).heap[g]? = some (.cells #[.int .i64 c.z, .string (bs c.d), .int .i64 c.p] tC (0, 0)) := by
  obtain ⟨⟨x, hx⟩, -⟩ := a
  exact Mem.blk_set (Mem.blk_set (Mem.blk_set hx 0 (.int .i64 c.z)) 1 (.string (bs c.d))) 2 (.int .i64 c.p)
theorem Ans.chg {g : Nat} (c : No.C) : Chg (· = g) w (put3 w g c) := ((((Chg.refl _ w).root 0 _).root 1 _).root 2 _)
theorem Ans.sh {g : Nat} (a : Ans s d N g w) (k : ShL s d N cnt lim h arm S w0 w) (c : No.C) : ShL s d N cnt lim h arm S w0 (put3 w g c) :=
  k.beside (Ans.chg c) (fun j hj => by rw [hj]; exact a.ap)
theorem Ans.cells {g : Nat} (a : Ans s d N g w) : ∃ c : No.C, w.cell? ⟨g, 0, none⟩ = some (.int .i64 c.z) ∧ w.cell? ⟨g, 1, none⟩ = some (.string (bs c.d)) ∧ w.cell? ⟨g, 2, none⟩ = some (.int .i64 c.p) ∧ w.frozen? ⟨g, 0, none⟩ = false ∧ w.frozen? ⟨g, 1, none⟩ = false ∧ w.frozen? ⟨g, 2, none⟩ = false ∧ g < w.heap.size := by
  obtain ⟨⟨x, hx⟩, -⟩ := a
  exact ⟨x, Mem.blk_cell hx 0, Mem.blk_cell hx 1, Mem.blk_cell hx 2, Mem.blk_free hx 0, Mem.blk_free hx 1, Mem.blk_free hx 2, lt_of_block hx⟩
theorem put_cells {g : Nat} {c : No.C} {w1 : World} (hx : w1.heap[g]? = some (.cells #[.int .i64 c.z, .string (bs c.d), .int .i64 c.p] tC (0, 0))) : w1.cell? ⟨g, 0, none⟩ = some (.int .i64 c.z) ∧ w1.cell? ⟨g, 1, none⟩ = some (.string (bs c.d)) ∧ w1.cell? ⟨g, 2, none⟩ = some (.int .i64 c.p) :=
  ⟨Mem.blk_cell hx 0, Mem.blk_cell hx 1, Mem.blk_cell hx 2⟩
theorem Ans.kept {g : Nat} {w' : World} (a : Ans s d N g w) (hb : Below w.heap.size w w') : Ans s d N g w' := by
  obtain ⟨⟨x, hx⟩, h2⟩ := a
  exact ⟨⟨x, (hb.block _ (lt_of_block hx)).trans hx⟩, h2⟩
theorem Ans.turned {g : Nat} {w' : World} (a : Ans s d N g w) (hc : Chg (Two s d) w w') : Ans s d N g w' := by
  obtain ⟨⟨x, hx⟩, h2⟩ := a
  exact ⟨⟨x, hc.at hx (fun e => by rcases e with e | e; exact h2.2.1 e; exact h2.2.2 e)⟩, h2⟩
set_option maxRecDepth 100000 in
set_option maxHeartbeats 4000000 in
theorem cell_any (k : ShL s d N cnt lim h arm S w0 w) (hcn : cnt ≤ 10000) (inv : Inv h S U F) (hl : lim ≤ 4096) (hp : h.pages ≤ lim) (ham : arm ≤ 1000) (v : Bs) (hvl : v.length ≤ 9223372036854775807) :
    Calls Tryz.prog 93 #[pV s, .string (bs v)] w (CellPost s d N cnt lim h arm S U F w0 w v) := by
  have hz := Sp.bs_size v
  have hA1 : Below w.heap.size w (w.alloc (cO c0)) := (Below.refl w.heap.size w).alloc (Nat.le_refl _) _
  have k1 := k.kept hA1
  have HK := hid k1
  have a1 : Ans s d N w.heap.size (w.alloc (cO c0)) := ⟨⟨c0, Mem.blk_new w (cO c0)⟩, by have := k.at'.lt; have := k.size; omega⟩
  have A1 := hid a1
  have HB1 := hid hA1
  by_cases h1 : 5000 < v.length
  · have hs : (5000 : Int) < ((bs v).size : Int) := by omega
    obtain ⟨x0, x1, x2⟩ : (w.alloc (.cells #[.int .i64 0, .string ⟨#[]⟩, .int .i64 0] tC)).cell? ⟨w.heap.size, 0, none⟩ = some (.int .i64 0) ∧ (w.alloc (.cells #[.int .i64 0, .string ⟨#[]⟩, .int .i64 0] tC)).cell? ⟨w.heap.size, 1, none⟩ = some (.string ⟨#[]⟩) ∧ (w.alloc (.cells #[.int .i64 0, .string ⟨#[]⟩, .int .i64 0] tC)).cell? ⟨w.heap.size, 2, none⟩ = some (.int .i64 0) := put_cells (c := c0) (Mem.blk_new w (cO c0))
    clear k k1 a1 hA1 hz hcn inv hl hp ham hvl
    have e0 : bs [] = ⟨#[]⟩ := rfl
    go_enter Tryz.func93, Tryz.ntmps93
    go_wp2_with fail
    refine @bodyPost_ret Tryz.prog Tryz.f93 (CellPost s d N cnt lim h arm S U F w0 w v) _ _ (.tuple #[cV c0, .int .i64 47]) ?_ ?_ ?_
    · simp [results, go_sem, x0, x1, x2, c0, e0]
    · rfl
    · exact ⟨c0, 47, h, arm, S, rfl, HK.out.more (by omega), Chg.of_below HB1.out, Or.inl ⟨rfl, rfl, h1, rfl, rfl, rfl⟩⟩
  · have hs : ¬ (5000 : Int) < ((bs v).size : Int) := by omega
    have HI := hid (fun w => inline_any ((bs v).size : Int) w)
    by_cases h4 : v.length ≤ 40
    · rw [decide_eq_true (by omega : ((bs v).size : Int) ≤ 40)] at HI
      have HC := hid (fun w => No.clone_any (bs v) w (by rw [hz]; omega))
      have HO := hid (cell_short h4 (c := ⟨(bs v).size, v, 0⟩) (by rw [hz]) inv hp ham)
      clear k k1 hz hcn inv hl hp ham hvl
      go_enter Tryz.func93, Tryz.ntmps93
      go_wp2_with fail
      refine (HI.out _).mono ?_
      rintro e w1 ⟨rfl, rfl⟩
      go_wp2_with fail
      refine (HC.out _).mono ?_
      rintro e w2 ⟨rfl, hb⟩
      have a2 := A1.out.kept hb
      have k2 := HK.out.kept hb
      have b2 := HB1.out.trans (hb.mono HB1.out.size)
      have K3 := hid (a2.sh k2 ⟨(bs v).size, v, 0⟩)
      have C3 : Hid (Chg (Two s d) w (put3 w2 w.heap.size ⟨(bs v).size, v, 0⟩)) := hid ((Chg.of_below b2).then (Ans.chg _) (fun i hi e => Or.inl (by have e2 : i = w.heap.size := e; omega)))
      obtain ⟨x0, x1, x2⟩ := put_cells (a2.put ⟨(bs v).size, v, 0⟩)
      obtain ⟨y, y0, y1, y2, f0, f1, f2, gl⟩ := a2.cells
      clear hb a2 k2 b2 a1 hA1
      dsimp only [put3] at x0 x1 x2 K3 C3
      go_wp2
      generalize ((w2.setCell ⟨w.heap.size, 0, none⟩ (.int .i64 ((bs v).size : Int))).setCell ⟨w.heap.size, 1, none⟩ (.string (bs v))).setCell ⟨w.heap.size, 2, none⟩ (.int .i64 0) = W at *
      refine @bodyPost_ret Tryz.prog Tryz.f93 (CellPost s d N cnt lim h arm S U F w0 w v) _ _ (.tuple #[cV ⟨(bs v).size, v, 0⟩, .int .i64 0]) ?_ ?_ ?_
      · simp [results, go_sem, x0, x1, x2]
      · rfl
      · exact ⟨⟨(bs v).size, v, 0⟩, 0, h, arm, S, rfl, K3.out.more (by omega), C3.out, HO.out⟩
    · rw [decide_eq_false (by omega : ¬ ((bs v).size : Int) ≤ 40)] at HI
      have HLY := hid (lay_any (v := v) k1 hcn inv hl hp ham (by omega) (by omega))
      have H4 := hid (show 40 < v.length by omega)
      have H5 := hid (show v.length ≤ 5000 by omega)
      have HZ := hid hz
      clear k k1 hz hcn inv hl hp ham hvl
      go_enter Tryz.func93, Tryz.ntmps93
      go_wp2_with fail
      refine (HI.out _).mono ?_
      rintro e w1 ⟨rfl, rfl⟩
      go_wp2_with fail
      refine HLY.out.mono ?_
      rintro e w2 ⟨n, er, h', arm', S', rfl, k2, c2, L⟩
      have HO := hid (cell_long H4.out H5.out L)
      have a2 := A1.out.turned c2
      have b2 : Chg (Two s d) w w2 := (Chg.of_below HB1.out).trans c2
      obtain ⟨y, y0, y1, y2, f0, f1, f2, gl⟩ := a2.cells
      by_cases he : er = 0
      · subst he
        rw [if_pos rfl, ← HZ.out] at HO
        have K3 := hid (a2.sh k2 ⟨(bs v).size, [], n⟩)
        have C3 : Hid (Chg (Two s d) w (put3 w2 w.heap.size ⟨(bs v).size, [], n⟩)) := hid (b2.then (Ans.chg _) (fun i hi e => Or.inl (by have e2 : i = w.heap.size := e; omega)))
        obtain ⟨x0, x1, x2⟩ := put_cells (a2.put ⟨(bs v).size, [], n⟩)
        clear a2 k2 b2 c2 a1 hA1 L
        have e0 : bs [] = ⟨#[]⟩ := rfl
        dsimp only [put3] at x0 x1 x2 K3 C3
        rw [e0] at x0 x1 x2 K3 C3
        clear e0
        go_wp2
        generalize ((w2.setCell ⟨w.heap.size, 0, none⟩ (.int .i64 ((bs v).size : Int))).setCell ⟨w.heap.size, 1, none⟩ (.string ⟨#[]⟩)).setCell ⟨w.heap.size, 2, none⟩ (.int .i64 n) = W at *
        have e0 : bs [] = ⟨#[]⟩ := rfl
        refine @bodyPost_ret Tryz.prog Tryz.f93 (CellPost s d N cnt lim h arm S U F w0 w v) _ _ (.tuple #[cV ⟨(bs v).size, [], n⟩, .int .i64 0]) ?_ ?_ ?_
        · simp [results, go_sem, x0, x1, x2, e0]
        · rfl
        · exact ⟨⟨(bs v).size, [], n⟩, 0, h', arm', S', rfl, K3.out, C3.out, HO.out⟩
      · rw [if_neg he] at HO
        have hne : (er != 0) = true := by simpa using he
        have K3 := hid (a2.sh k2 c0)
        have C3 : Hid (Chg (Two s d) w (put3 w2 w.heap.size c0)) := hid (b2.then (Ans.chg _) (fun i hi e => Or.inl (by have e2 : i = w.heap.size := e; omega)))
        obtain ⟨x0, x1, x2⟩ := put_cells (a2.put c0)
        clear a2 k2 b2 c2 a1 hA1 L he
        have e0 : bs [] = ⟨#[]⟩ := rfl
        dsimp only [put3, c0] at x0 x1 x2 K3 C3
        rw [e0] at x0 x1 x2 K3 C3
        clear e0
        go_wp2
        generalize ((w2.setCell ⟨w.heap.size, 0, none⟩ (.int .i64 0)).setCell ⟨w.heap.size, 1, none⟩ (.string ⟨#[]⟩)).setCell ⟨w.heap.size, 2, none⟩ (.int .i64 0) = W at *
        have e0 : bs [] = ⟨#[]⟩ := rfl
        refine @bodyPost_ret Tryz.prog Tryz.f93 (CellPost s d N cnt lim h arm S U F w0 w v) _ _ (.tuple #[cV c0, .int .i64 er]) ?_ ?_ ?_
        · simp [results, go_sem, x0, x1, x2, c0, e0]
        · rfl
        · exact ⟨c0, er, h', arm', S', rfl, K3.out, C3.out, HO.out⟩
end Ch
end Go.Proofs.YtoifhcmgeackdaaGreatDoor

/-
  Contract of Free: a chain's pages are free, what stands on the others stays.
-/
namespace Go.Proofs.YtoifhcmgeackdaaGreatDoor
open Go.RowKit
namespace Ch
open Num (hid)
open Mem (Bs bs ptr Chg tI tIs IAt)
open Sp (Hd)
open Sh (ShL St Inv Two Own)
open No (okC)
/-- With the first j of ps free. -/
structure Freed (h : Hd) (S : St) (U F ps : List Int) (j : Nat) (h' : Hd) (S' : St) (U' F' : List Int) : Prop where
  inv : Inv h' S' U' F'
  pg : h'.pages = h.pages
  fl : F'.length = F.length + j
  st : ∀ x ∈ U, x ∉ ps.take j → x ∈ U' ∧ S'.f x = S.f x
variable {s d N cnt : Nat} {lim : Int} {h : Hd} {arm : Int} {S : St} {w0 w : World} {U F ps : List Int} {c : No.C} {v : Bs}
def FreePost (s d N cnt : Nat) (lim : Int) (h : Hd) (arm : Int) (S : St) (U F ps : List Int) (w0 w : World) (e : Ending) (w' : World) : Prop :=
  ∃ (h' : Hd) (S' : St) (U' F' : List Int), e = .returned (.int .i64 0) ∧ ShL s d N (cnt + 200) lim h' arm S' w0 w' ∧ Chg (Two s d) w w' ∧ Freed h S U F ps ps.length h' S' U' F'
theorem Freed.next {j : Nat} {h1 h2 : Hd} {S1 S2 : St} {U1 F1 : List Int} (f : Freed h S U F ps j h1 S1 U1 F1) {i : Nat} (hi : i < U1.length) (hj : j < ps.length) (e : U1[i] = ps[j]) (inv : Inv h2 S2 (U1.take i ++ U1.drop (i + 1)) (U1[i] :: F1)) (hp : h2.pages = h1.pages)
    (hs : ∀ x, x ∈ U1.take i ++ U1.drop (i + 1) → S2.f x = S1.f x) : Freed h S U F ps (j + 1) h2 S2 (U1.take i ++ U1.drop (i + 1)) (U1[i] :: F1) := by
  refine ⟨inv, hp.trans f.pg, by rw [List.length_cons, f.fl]; omega, fun x hx hn => ?_⟩
  have htk : ps.take (j + 1) = ps.take j ++ [ps[j]] := by rw [List.take_add_one, List.getElem?_eq_getElem hj]; rfl
  rw [htk] at hn
  have h3 : x ∉ ps.take j := fun e => hn (List.mem_append_left _ e)
  have h4 : x ≠ ps[j] := fun e => hn (List.mem_append_right _ (List.mem_singleton.2 e))
  obtain ⟨h5, h6⟩ := f.st x hx h3
  have h7 : x ∈ U1.take i ++ U1.drop (i + 1) := by
    have hU : U1 = U1.take i ++ U1[i] :: U1.drop (i + 1) := by simp
    rw [hU] at h5
    rcases List.mem_append.1 h5 with h5 | h5
    · exact List.mem_append_left _ h5
    · rcases List.mem_cons.1 h5 with h5 | h5
      · exact absurd (h5.trans e) h4
      · exact List.mem_append_right _ h5
  exact ⟨h7, (hs x h7).trans h6⟩
theorem own_cell {s d N : Nat} {v : Value} {pg : List Int} (o : Own s d N tI w v pg.length (ints pg)) : ∃ ao cap, v = .slice ao pg.length cap ∧ ∀ j (hj : j < pg.length), ∃ g, ao = some ⟨g, 0, none⟩ ∧ g < w.heap.size ∧ w.cell? ⟨g, j, none⟩ = some (.int .i64 pg[j]) := by
  obtain ⟨ao, cap, rfl, h2⟩ := Mem.row_shape o.row
  refine ⟨ao, cap, rfl, fun j hj => ?_⟩
  obtain ⟨g, rfl, hg⟩ := h2 (by omega)
  refine ⟨g, rfl, hg, ?_⟩
  rw [o.row.cellAt j (by omega)]
  simp
set_option maxRecDepth 100000 in
set_option maxHeartbeats 4000000 in
theorem free_any (k : ShL s d N cnt lim h arm S w0 w) (hcn : cnt ≤ 10000) (ha : arm < 1) (inv : Inv h S U F) (hp : h.pages ≤ 4096) (hc : CellOf S.f c v ps) (hnd : ps.Nodup) (hsub : ∀ x ∈ ps, x ∈ U) :
    Calls Tryz.prog 104 #[pV s, cV c] w (FreePost s d N cnt lim h arm S U F ps w0 w) := by
  have hA1 : Below w.heap.size w (w.alloc (cO c)) := (Below.refl w.heap.size w).alloc (Nat.le_refl _) _
  have HA1 := hid hA1
  have hbx := Mem.blk_new w (cO c)
  have c0 := Mem.blk_cell hbx 0
  have c1 := Mem.blk_cell hbx 1
  have c2 := Mem.blk_cell hbx 2
  have HR := hid (list_any (k.kept hA1) (by omega) c)
  have HV := hid hc.val
  have hpl : ps.length ≤ 23 := by
    have h1 := hc.len
    have h2 := hc.1
    unfold partsN at h1
    split at h1 <;> omega
  have HND := hid hnd
  have HS := hid hsub
  have HIV := hid inv
  have HP := hid hp
  have HA := hid ha
  clear k hA1 hbx hc hnd hsub inv hp ha
  go_enter Tryz.func104, Tryz.ntmps104
  go_wp2_with fail
  refine HR.out.mono ?_
  rintro e w1 ⟨val, pg, er, pv, arm', rfl, hk, hc, ho, hn, ha1, -, hv⟩
  have hv2 : val = v ∧ pg = ps ∧ er = 0 := by
    rcases hv with hv | hv
    · rw [HV.out] at hv
      simp only [Prod.mk.injEq] at hv
      exact ⟨hv.1.1, hv.1.2, hv.2⟩
    · exact absurd hv.1 (by have := HA.out; omega)
  obtain ⟨rfl, rfl, rfl⟩ := hv2
  rw [ha1 HA.out] at hk
  have HK := hid hk
  have HC := hid ((Chg.of_below HA1.out).trans hc)
  have HO := hid ho
  obtain ⟨ao, cap, rfl, -⟩ := own_cell ho
  have F0 : Hid (Freed h S U F pg 0 h S U F) := hid ⟨HIV.out, rfl, rfl, fun x hx _ => ⟨hx, rfl⟩⟩
  clear hk hc ho hn ha1 hv c0 c1 c2
  go_wp2_with fail
  go_loopw [21] (fun iv wr => ∃ (j : Nat) (h1 : Hd) (S1 : St) (U1 F1 : List Int), iv = .int .i64 (j : Int) ∧ j ≤ pg.length ∧ Hid (ShL s d N (cnt + 3 * j) lim h1 arm S1 w0 wr) ∧ Hid (Chg (Two s d) w wr) ∧ Hid (Own s d N tI wr (.slice ao pg.length cap) pg.length (ints pg)) ∧ Hid (Freed h S U F pg j h1 S1 U1 F1)) (fun iv _ => pg.length - (intOf iv).toNat)
  case atStart => exact ⟨0, h, S, U, F, rfl, Nat.zero_le _, HK, HC, HO, F0⟩
  case round =>
    obtain ⟨j, h1, S1, U1, F1, rfl, hj, K1, C1, O1, FR⟩ := hrel
    by_cases hlt : j < pg.length
    · have hlt' : (j : Int) < (pg.length : Int) := by omega
      obtain ⟨ao2, cap2, e2, hcell⟩ := own_cell O1.out
      cases e2
      obtain ⟨g, rfl, hg, x0⟩ := hcell j hlt
      have hmem : pg[j] ∈ U1 := (FR.out.st pg[j] (HS.out _ (List.getElem_mem hlt)) (fun e => by
        obtain ⟨i, hi, he⟩ := List.getElem_of_mem e
        rw [List.getElem_take] at he
        have hij : i < j := by rw [List.length_take] at hi; omega
        exact (List.pairwise_iff_getElem.1 HND.out i j (by omega) hlt hij) he)).1
      obtain ⟨i, hi, hie⟩ := List.getElem_of_mem hmem
      have HG := hid (K1.out.give HA.out (by omega) FR.out.inv (by have := FR.out.pg; have := HP.out; omega) hi)
      rw [hie] at HG
      have HIE := hid hie
      have HLT := hid hlt
      clear hmem hie hcell
      generalize hpj : pg[j] = pj at *
      have HPJ := hid hpj
      clear hpj
      go_wp2_with fail
      refine HG.out.mono ?_
      rintro e w2 ⟨h2, S2, rfl, k2, inv2, pg2, hs2, cc2⟩
      have K2 := hid (k2.more (show cnt + 3 * j + 3 ≤ cnt + 3 * (j + 1) by omega))
      have C2 := hid (C1.out.trans cc2)
      have O2 := hid (O1.out.turned cc2)
      have FR2 := hid (FR.out.next hi HLT.out (HIE.out.trans HPJ.out.symm) (by rw [HIE.out]; exact inv2) pg2 hs2)
      clear k2 inv2 pg2 hs2 cc2 x0
      go_wp2
      go_roundw
      case rel => exact ⟨j + 1, h2, S2, _, _, by go_num, by omega, K2, C2, O2, FR2⟩
      case measure => simp [intOf]; omega
    · have hlt' : ¬ (j : Int) < (pg.length : Int) := by omega
      have e : j = pg.length := by omega
      have FR2 := hid FR.out
      rw [e] at FR2
      clear e
      go_wp2
      go_ret
      exact ⟨h1, S1, U1, F1, rfl, K1.out.more (by omega), C1.out, FR2.out⟩
end Ch
end Go.Proofs.YtoifhcmgeackdaaGreatDoor

/-
  What comes in: a list of strings, a cell by value; as the frames want them.
-/
namespace Go.Proofs.YtoifhcmgeackdaaGreatDoor
open Go.ChangeShapes Go.WideShapes Go.ChangeAt Go.RowKit Go.Joins Go.Deep
namespace Ch
open No (Bs bs SAt sV C tS tSs tC cellsS cellsC bytesS str_el cell_el list_of)
section
variable {H : Type} {enc : TypeId × Value → H} {W : World} {b0 : Nat} {held : Bool} {r : Reach}
set_option maxRecDepth 100000 in
theorem strs_of {v : Value} {d : DataW H} {ps : List MemPlace} (hv : Value.okWide Tryz.prog W r b0 tSs v) (hd : DataW.Trod enc Tryz.prog W 0 (fun _ => true) held tSs v d ps) (hz : ∀ n ∈ d.weights Tryz.prog tSs, n ≤ reachBytes) :
    ∃ l : List Bs, SAt W v l ∧ (∀ a ∈ l, a.length ≤ reachBytes) ∧ ∀ x ∈ ps, x.block < W.heap.size := by
  obtain ⟨fuel, hf⟩ := hd
  have hlt := DataW.trod_lt _ _ _ _ hf
  obtain ⟨ao, n, c, rfl⟩ := okWide_slice Tryz.underlying22 hv
  have hf' : DataW.trod enc Tryz.prog W 0 (fun _ => true) held fuel tSs [.slice ao n c] = some (d, ps) := hf
  obtain ⟨l, h1, h2⟩ := list_of (α := Bs) [] tSs tS 1 sV List.length Tryz.underlying22 cellsS (by decide) bytesS str_el hf' hz
  exact ⟨l, h1, h2, hlt⟩
theorem array3 {α : Type} {cs : Array α} (h : cs.size = 3) : ∃ a b c, cs = #[a, b, c] := by
  match cs, h with
  | ⟨[a, b, c]⟩, _ => exact ⟨a, b, c, rfl⟩
set_option maxRecDepth 100000 in
theorem cell_of {v : Value} {d : DataW H} {ps : List MemPlace} (hv : Value.okWide Tryz.prog W r b0 tC v) (hd : DataW.Trod enc Tryz.prog W 0 (fun _ => true) held tC v d ps) :
    ∃ c : C, v = .agg #[.int .i64 c.z, .string (bs c.d), .int .i64 c.p] ∧ ∀ x ∈ ps, x.block < W.heap.size := by
  obtain ⟨cs, rfl, hsz⟩ := okWide_struct Tryz.underlying103 hv
  obtain ⟨c0, c1, c2, rfl⟩ := array3 (hsz.trans cellsC)
  obtain ⟨fuel, hf⟩ := hd
  have hlt := DataW.trod_lt _ _ _ _ hf
  have hf' : DataW.trod enc Tryz.prog W 0 (fun _ => true) held fuel tC [c0, c1, c2] = some (d, ps) := hf
  obtain ⟨c, hc, -, -⟩ := cell_el _ _ _ hf'
  refine ⟨c, ?_, hlt⟩
  have hc2 : [c0, c1, c2] = [.int .i64 c.z, .string (bs c.d), .int .i64 c.p] := hc
  simp only [List.cons.injEq, and_true] at hc2
  obtain ⟨rfl, rfl, rfl⟩ := hc2
  rfl
end
end Ch
end Go.Proofs.YtoifhcmgeackdaaGreatDoor
