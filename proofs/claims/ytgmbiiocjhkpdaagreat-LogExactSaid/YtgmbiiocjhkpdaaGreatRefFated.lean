/-
  fated: the walk.
-/
import Derived.Test.YtgmbiiocjhkpdaaGreatRefFatedM
import Derived.Test.YtgmbiiocjhkpdaaGreatGrpJRd
import Derived.Deep.RegionHeldLaw
namespace Go.Proofs.YtgmbiiocjhkpdaaGreat
open Go.RowKit
namespace Ref
open Disk
open Num (hid bcells)
section
variable {R : Nat → Prop} {w : World}
/-- Behind j rounds of the first loop. -/
def FatedAt (W0 : World) (v : Value) (l : List Int) (k : Nat) (ps : List Plc) (j : Nat) (wr : World) : Prop :=
  wr.ownsRow 0 tC 3 v ps.length (safesC (metSo l k ps j)) ∧ Below W0.heap.size W0 wr
theorem FatedAt.idle {W0 wr : World} {v : Value} {l : List Int} {k : Nat} {ps : List Plc} {j : Nat} (h : FatedAt W0 v l k ps j wr) (hj : j < ps.length) (e : met1 l (counts k (ps.take j)) ps[j] = ps[j]) : FatedAt W0 v l k ps (j + 1) wr := by
  refine ⟨?_, h.2⟩
  have : metSo l k ps (j + 1) = metSo l k ps j := by
    unfold metSo
    rw [mets_take l k ps j hj, List.append_assoc, List.drop_eq_getElem_cons hj, e]
    rfl
  rw [this]
  exact h.1
theorem FatedAt.put {W0 wr : World} {g c : Nat} {l : List Int} {k : Nat} {ps : List Plc} {j : Nat} (h : FatedAt W0 (.slice (some ⟨g, 0, none⟩) ps.length c) l k ps j wr) (hg : W0.heap.size ≤ g) (hj : j < ps.length) {a b d : Value} (e : safeC (met1 l (counts k (ps.take j)) ps[j]).safe = [a, b, d]) :
    FatedAt W0 (.slice (some ⟨g, 0, none⟩) ps.length c) l k ps (j + 1) (((wr.setCell ⟨g, j * 3, none⟩ a).setCell ⟨g, j * 3 + 1, none⟩ b).setCell ⟨g, j * 3 + 2, none⟩ d) := by
  refine ⟨?_, ((h.2.setCell (p := ⟨g, j * 3, none⟩) hg _).setCell (p := ⟨g, j * 3 + 1, none⟩) hg _).setCell (p := ⟨g, j * 3 + 2, none⟩) hg _⟩
  have hl : j < (metSo l k ps j).length := by rw [metSo_len]; exact hj
  rw [metSo_next l k ps j hj, ← safes_put (metSo l k ps j) j hl _ a b d e]
  exact (((h.1.stored _ _).1.stored _ _).1.stored _ _).1

/-- append at a step of a region that draws its order: what its run is. -/
theorem step_append_run {P : Program} {ops : Array Oper} {o : Oper} {a : Act} {w : World} {K : Act → World → Prop} {Q : Exit → Act → World → Prop} {E : Prop} (hgd : o.guard = none) (s x : Operand) (t tn : TypeId)
    (ho : o.op = .call { callee := .builtin .append, args := #[s, x], argTypes := #[t, tn] }) (vs vx : Value) (hs : a.eval s = vs) (hx : a.eval x = vx)
    (v' : Value) (w' : World) (hr : (Builtin.append_ #[t, tn] o.type #[vs, vx]).run P w = .ok v' w') (h : K (a.put o.dst v') w') : if Region.wanted o (yielded ops a.tmps) = true then Oper.wp P o a w K Q else E := by
  have hw : Region.wanted o (yielded ops a.tmps) = true := by simp [Region.wanted, hgd]
  rw [if_pos hw]
  unfold Oper.wp execOp
  simp only [ho, resolve, invoke, builtin, Sem.run_bind, Sem.run_pure, Result.andThen_ok, List.map_toArray, List.map_cons, List.map_nil, hs, hx, hr]
  exact h

/-- What the end's region holds: the box of the file that came, and some file in the answer's. -/
abbrev FS (N : Nat) (wr : World) (u0 u4 : Value) (b : Nat) (W : World) : Prop := Below N wr W ∧ W.cell? ⟨b, 0, none⟩ = some u0 ∧ W.cell? ⟨b, 4, none⟩ = some u4 ∧ ∃ f, FBox N f W
theorem FBox.nam {b : Nat} {f : FR} {w : World} (h : FBox b f w) (s : ByteArray) : FBox b { f with name := s } (w.setCell ⟨b, 0, none⟩ (.string s)) := blk_set h 0 (.string s)
theorem FS.start {N b : Nat} {wr W : World} {f z : FR} (hw : FBox b f wr) (hb : b < N) (h : Below N wr W) (h' : FBox N z W) : FS N wr (.string f.name) (.bool f.sure) b W :=
  ⟨h, (h.cell (p := ⟨b, 0, none⟩) hb).trans hw.cells.1, (h.cell (p := ⟨b, 4, none⟩) hb).trans hw.cells.2.2.2.2, z, h'⟩
theorem FS.on {N b : Nat} {wr W W' : World} {u0 u4 : Value} (h : FS N wr u0 u4 b W) (hb : b < N) (k : Below W.heap.size W W') : FS N wr u0 u4 b W' := by
  obtain ⟨h1, h2, h3, f, h4⟩ := h
  have hl := lt_of_block h4
  exact ⟨h1.trans (k.mono (by omega)), (k.cell (p := ⟨b, 0, none⟩) (show b < W.heap.size by omega)).trans h2, (k.cell (p := ⟨b, 4, none⟩) (show b < W.heap.size by omega)).trans h3, f, h4.on k⟩
/-- A file laid into a box. -/
abbrev set5 (N : Nat) (f : FR) (W : World) : World := ((((W.setCell ⟨N, 0, none⟩ (.string f.name)).setCell ⟨N, 1, none⟩ f.now).setCell ⟨N, 2, none⟩ f.safe).setCell ⟨N, 3, none⟩ f.wait).setCell ⟨N, 4, none⟩ (.bool f.sure)
theorem set5_below (N : Nat) (f : FR) (W : World) {M : Nat} (h : M ≤ N) : Below M W (set5 N f W) :=
  (((((Below.refl M W).setCell (p := ⟨N, 0, none⟩) h _).setCell (p := ⟨N, 1, none⟩) h _).setCell (p := ⟨N, 2, none⟩) h _).setCell (p := ⟨N, 3, none⟩) h _).setCell (p := ⟨N, 4, none⟩) h _
theorem FS.set {N b : Nat} {wr W : World} {u0 u4 : Value} (h : FS N wr u0 u4 b W) (hb : b < N) (f : FR) : FS N wr u0 u4 b (set5 N f W) := by
  obtain ⟨h1, h2, h3, z, h4⟩ := h
  have hB := set5_below N f W (Nat.le_refl N)
  exact ⟨h1.trans hB, (hB.cell (p := ⟨b, 0, none⟩) hb).trans h2, (hB.cell (p := ⟨b, 4, none⟩) hb).trans h3, _, ((((h4.nam f.name).now f.now).safe f.safe).wait f.wait).sure f.sure⟩

theorem fated_end {w W : World} {n : Nam} {G : Fil} {f z : FR} (hR : ∀ b, w.heap.size ≤ b → R b) (hn : f.name.data.toList = n) (hs : f.sure = G.sure) (hz : FBox (w.heap.size + 1) z W) (hb : Below w.heap.size w W)
    (r1 : W.ownsRow 0 tC 3 f.now G.ps.length (nowsC G.ps)) (o1 : ∀ k, f.now.ownBlock = some k → w.heap.size ≤ k) (r2 : W.ownsRow 0 tC 3 f.safe G.ps.length (safesC G.ps)) (o2 : ∀ k, f.safe.ownBlock = some k → w.heap.size ≤ k)
    (r3 : W.ownsRow 0 tB 1 f.wait G.ps.length (waitsC G.ps)) (o3 : ∀ k, f.wait.ownBlock = some k → w.heap.size ≤ k) : FileR R (set5 (w.heap.size + 1) f W) f n G ∧ Below w.heap.size w (set5 (w.heap.size + 1) f W) := by
  have C : Chg (· = w.heap.size + 1) W (set5 (w.heap.size + 1) f W) := (((((Chg.refl _ W).root 0 _).root 1 _).root 2 _).root 3 _).root 4 _
  have ne : ∀ {t : TypeId} {k : Nat} {v : Value} {m : Nat} {xs : List Value}, W.ownsRow 0 t k v m xs → t ≠ tF → ∀ g, v.ownBlock = some g → ¬ g = w.heap.size + 1 := by
    rintro t k v m xs hv ht g hg rfl
    obtain ⟨cur, hh⟩ := row_type hv hg
    unfold FBox at hz
    rw [hz] at hh
    simp only [Option.some.injEq, Obj.cells.injEq] at hh
    exact ht hh.2.1.symm
  exact ⟨⟨hn, hs, ⟨row_kept r1 C (ne r1 (by decide)), fun g hg => hR g (o1 g hg)⟩, ⟨row_kept r2 C (ne r2 (by decide)), fun g hg => hR g (o2 g hg)⟩, ⟨row_kept r3 C (ne r3 (by decide)), fun g hg => hR g (o3 g hg)⟩⟩, hb.trans (set5_below _ f W (Nat.le_succ _))⟩

theorem set5_box {N : Nat} {z : FR} {W : World} (h : FBox N z W) (f : FR) : FBox N f (set5 N f W) := ((((h.nam f.name).now f.now).safe f.safe).wait f.wait).sure f.sure
/-- What fated hands back: the box, and the count. -/
theorem fated_results {f : FR} {W : World} {N : Nat} {u : Value} {tmps : Array Value} (h6 : tmps.getD 6 undef = .pointer (some ⟨N, 0, none⟩)) (h7 : tmps.getD 7 undef = u) (hf : FBox N f W) :
    (results Tryz.f76 tmps).run Tryz.prog W = .ok (.tuple #[.agg #[.string f.name, f.now, f.safe, f.wait, .bool f.sure], u]) W := by
  obtain ⟨e0, e1, e2, e3, e4⟩ := hf.cells
  have h6' : tmps[6]?.getD undef = .pointer (some ⟨N, 0, none⟩) := by rw [← h6]; simp
  have h7' : tmps[7]?.getD undef = u := by rw [← h7]; simp
  simp [results, h6', h7', go_sem, e0, e1, e2, e3, e4]

theorem woken_len (F : Fil) (l : List Int) (k : Nat) : (F.woken l k).ps.length = endOf (mets l k F.ps) := by
  unfold Fil.woken
  rw [List.length_map, List.length_take]
  have := endOf_le (mets l k F.ps)
  omega
theorem woken_waits (F : Fil) (l : List Int) (k : Nat) : waitsC (F.woken l k).ps = List.replicate (endOf (mets l k F.ps)) (.bool false) := by
  rw [List.eq_replicate_iff]
  constructor
  · unfold waitsC
    rw [List.length_map, woken_len]
  · intro b hb
    unfold waitsC Fil.woken at hb
    rw [List.map_map] at hb
    obtain ⟨p, _, rfl⟩ := List.mem_map.1 hb
    rfl
/-- append([]Cell{}, v...), other memory made between the empty row and the append. -/
theorem copy_later {w W : World} {v : Value} {n : Nat} {xs : List Value} (hv : w.ownsRow 0 tC 3 v n xs) (ho : ∀ u ∈ xs, u.oneCell' = true) (hn : n ≤ 100000) (hb : Below (w.alloc (.cells #[] tC)).heap.size (w.alloc (.cells #[] tC)) W) :
    ∃ v' w', (Builtin.append_ #[tCs, tCs] tCs #[.slice (some ⟨w.heap.size, 0, none⟩) 0 0, v]).run Tryz.prog W = .ok v' w' ∧ w'.ownsRow 0 tC 3 v' n xs ∧ Below w.heap.size w w' ∧ Chg (· = w.heap.size) W w' ∧ (∀ k, v'.ownBlock = some k → w.heap.size ≤ k) := by
  obtain ⟨i, hi, h0, h1, h2⟩ := cellInfo
  have hc0 : Chg (fun _ => False) (w.alloc (.cells #[] tC)) W := Chg.of_below hb
  obtain ⟨v', w', hr, ho', hc, hw⟩ := copy_row tCs tC i _ 3 32 Tryz.underlying106 hi h0 h1 h2 rfl (by decide) (by decide) (w := W) (row_kept (World.ownsRow_made w #[] 0 (Nat.zero_le _) (by decide) rfl) hc0 (fun _ _ h => h)) (row_kept (hv.alloc _) hc0 (fun _ _ h => h)) ho (by omega)
  rw [Nat.zero_add, List.nil_append] at ho'
  have hs : (w.alloc (.cells #[] tC)).heap.size = w.heap.size + 1 := by simp
  have hsz := hb.size
  have hb0 : Below w.heap.size w (w.alloc (.cells #[] tC)) := (Below.refl _ _).alloc (Nat.le_refl _) _
  refine ⟨v', w', hr, ho', (hb0.trans (hb.mono (by omega))).trans (hc.below (by omega) (fun k hk e => by simp [Value.ownBlock] at e; omega)), hc.mono (fun k _ e => by simp [Value.ownBlock] at e; omega), ?_⟩
  intro k hk
  rcases hw k hk with h | h
  · simp [Value.ownBlock] at h; omega
  · omega

set_option maxRecDepth 100000 in
set_option maxHeartbeats 2000000 in
theorem fated_any {f : FR} {n : Nam} {F : Fil} (hf : FileR R w f n F) (hR : ∀ b, w.heap.size ≤ b → R b) (hl : F.ps.length ≤ 16384) (fv : Value) (l : List Int) (hI : IntsAt w fv l) (_hll : l.length ≤ maxLen) (k : Nat) (hk : k ≤ 1000000) :
    Calls Tryz.prog 76 #[.agg #[.string f.name, f.now, f.safe, f.wait, .bool f.sure], fv, .int .i64 k] w fun e w' => (∃ f' : FR, e = .returned (.tuple #[.agg #[.string f'.name, f'.now, f'.safe, f'.wait, .bool f'.sure], .int .i64 (counts k F.ps : Nat)]) ∧ FileR R w' f' n ⟨(F.woken l k).ps, F.sure⟩) ∧ Below w.heap.size w w' := by
  obtain ⟨fn, fno, fsa, fwa, fsu⟩ := f
  obtain ⟨hname, hsure, hnow, hsafe, hwait⟩ := hf
  simp only at hname hsure hnow hsafe hwait ⊢
  obtain ⟨aN, cN, eN, -⟩ := row_shape hnow.1
  obtain ⟨aS, cS, eS, -⟩ := row_shape hsafe.1
  obtain ⟨aW, cW, eW, -⟩ := row_shape hwait.1
  subst eN eS eW
  generalize hps : F.ps = ps at *
  have B1 : FBox w.heap.size ⟨fn, .slice aN ps.length cN, .slice aS ps.length cS, .slice aW ps.length cW, fsu⟩ (w.alloc (.cells #[.string fn, .slice aN ps.length cN, .slice aS ps.length cS, .slice aW ps.length cW, .bool fsu] tF)) := blk_new w _
  have hb0 : Below w.heap.size w ((w.alloc (.cells #[.string fn, .slice aN ps.length cN, .slice aS ps.length cS, .slice aW ps.length cW, .bool fsu] tF)).alloc (.cells #[.string ⟨#[]⟩, .slice none 0 0, .slice none 0 0, .slice none 0 0, .bool false] tF)) := ((Below.refl _ _).alloc (Nat.le_refl _) _).alloc (by simp) _
  have B2 : FBox w.heap.size ⟨fn, .slice aN ps.length cN, .slice aS ps.length cS, .slice aW ps.length cW, fsu⟩ ((w.alloc (.cells #[.string fn, .slice aN ps.length cN, .slice aS ps.length cS, .slice aW ps.length cW, .bool fsu] tF)).alloc (.cells #[.string ⟨#[]⟩, .slice none 0 0, .slice none 0 0, .slice none 0 0, .bool false] tF)) := blk_alloc B1 _
  have BZ : FBox (w.heap.size + 1) ⟨⟨#[]⟩, .slice none 0 0, .slice none 0 0, .slice none 0 0, false⟩ ((w.alloc (.cells #[.string fn, .slice aN ps.length cN, .slice aS ps.length cS, .slice aW ps.length cW, .bool fsu] tF)).alloc (.cells #[.string ⟨#[]⟩, .slice none 0 0, .slice none 0 0, .slice none 0 0, .bool false] tF)) := by
    unfold FBox
    rw [show w.heap.size + 1 = (w.alloc (.cells #[.string fn, .slice aN ps.length cN, .slice aS ps.length cS, .slice aW ps.length cW, .bool fsu] tF)).heap.size by simp]
    exact blk_new _ _
  have hs0 : ((w.alloc (.cells #[.string fn, .slice aN ps.length cN, .slice aS ps.length cS, .slice aW ps.length cW, .bool fsu] tF)).alloc (.cells #[.string ⟨#[]⟩, .slice none 0 0, .slice none 0 0, .slice none 0 0, .bool false] tF)).heap.size = w.heap.size + 1 + 1 := by simp
  generalize hW0 : (w.alloc (.cells #[.string fn, .slice aN ps.length cN, .slice aS ps.length cS, .slice aW ps.length cW, .bool fsu] tF)).alloc (.cells #[.string ⟨#[]⟩, .slice none 0 0, .slice none 0 0, .slice none 0 0, .bool false] tF) = W0 at *
  obtain ⟨v2, w2, hr2, ho2, hb2, hw2⟩ := copy_cells (row_kept hsafe.1 (F := fun _ => False) (Chg.of_below hb0) (fun _ _ h => h)) (safes_one _) (by omega)
  obtain ⟨a2, c2, e2, ha2⟩ := row_shape ho2
  subst e2
  rw [hs0] at hr2
  have HR2 := hid hr2
  obtain ⟨y0, y1, y2, y3, y4⟩ := B2.cells
  simp only at y0 y1 y2 y3 y4
  have lt0 := lt_of_block B2
  have HS := hid (show FatedAt W0 (.slice a2 ps.length c2) l k ps 0 w2 from ⟨by rw [metSo_zero]; exact ho2, hb2⟩)
  have HB0 := hid hb0
  have HSU := hid hsure
  have HNM := hid hname
  have HPS := hid hps
  clear hr2 ho2 hb2 B1 hb0 hsure hname hps
  go_enter Tryz.func76, Tryz.ntmps76
  go_wp2_with (at_builtin; refine wpList_append_run rfl (.tmp 14) (.tmp 16) tCs tCs rfl _ _ (by simp [Act.eval]) (by simp [Act.eval]) HR2.out ?_)
  go_loopw [2, 9] (fun u i wr => ∃ j : Nat, j ≤ ps.length ∧ i = .int .i64 j ∧ u = .int .i64 (counts k (ps.take j) : Nat) ∧ FatedAt W0 (.slice a2 ps.length c2) l k ps j wr) (fun _ i _ => ps.length - (intOf i).toNat)
  case atStart => exact ⟨0, Nat.zero_le _, rfl, rfl, HS.out⟩
  case round =>
    obtain ⟨j, hj, rfl, rfl, hF⟩ := hrel
    have HF := hid hF
    have Bw := B2.on hF.2
    obtain ⟨z0, z1, z2, z3, z4⟩ := Bw.cells
    simp only at z0 z1 z2 z3 z4
    have lt1 := lt_of_block Bw
    have Cw : Chg (fun _ => False) w wr := Chg.of_below (HB0.out.trans (hF.2.mono (by omega)))
    have hnowR := row_kept hnow.1 Cw (fun _ _ h => h)
    have hwaitR := row_kept hwait.1 Cw (fun _ _ h => h)
    have hIR := hI.kept Cw (fun _ _ _ _ _ _ h => h)
    have hownR := hF.1
    clear hF Cw
    by_cases hlt : j < ps.length
    · obtain ⟨g, hg, hgl⟩ := ha2 (by omega)
      subst hg
      obtain ⟨gW, hgW, hgWl⟩ : ∃ gW, aW = some ⟨gW, 0, none⟩ ∧ gW < wr.heap.size := by
        obtain ⟨ao', cap', e, h⟩ := row_shape hwaitR
        cases e
        exact h (by omega)
      subst hgW
      have hwc : wr.cell? ⟨gW, j, none⟩ = some (.bool ps[j].waits) := by
        have := (hwaitR.cellAt (j * 1) (by omega))
        rw [Nat.mul_one] at this
        rw [this]
        unfold waitsC
        simp [hlt]
      cases hwt : ps[j].waits with
      | false =>
        rw [hwt] at hwc
        have hid1 := metSo_idle l k ps j hlt hwt
        have HN := hid (HF.out.idle hlt (by unfold met1; rw [hwt]; rfl))
        have HCt := hid hid1.2
        clear hid1 hwt hnowR hwaitR hIR hownR
        go_wp2
        go_roundw
        case rel => exact ⟨j + 1, by omega, congrArg (Value.int .i64) (by omega), by rw [HCt.out], HN.out⟩
        case measure => simp [intOf]; omega
      | true =>
        rw [hwt] at hwc
        obtain ⟨u, hu⟩ : ∃ u, counts k (ps.take j) = u := ⟨_, rfl⟩
        have hub : u ≤ 2000000 := by
          have := counts_le (ps.take j) k
          rw [List.length_take] at this
          omega
        have HC1 := hid (counts_one k ps j hlt hwt)
        have HU := hid hu
        have hmet : Hid (met1 l (counts k (ps.take j)) ps[j] = ps[j].meet (fateAt l u)) := hid (by unfold met1; rw [hwt, hu]; rfl)
        rw [hu]
        obtain ⟨gN, hgN, hgNl⟩ : ∃ gN, aN = some ⟨gN, 0, none⟩ ∧ gN < wr.heap.size := by
          obtain ⟨ao', cap', e, h⟩ := row_shape hnowR
          cases e
          exact h (by omega)
        subst hgN
        obtain ⟨q0, q1, q2⟩ := nows_at ps j hlt
        have n0 := (hnowR.cellAt (j * 3) (by omega)).trans q0
        have n1 := (hnowR.cellAt (j * 3 + 1) (by omega)).trans q1
        have n2 := (hnowR.cellAt (j * 3 + 2) (by omega)).trans q2
        have hlen := hownR.1
        obtain ⟨s0, hs0'⟩ : ∃ c, wr.cell? ⟨g, j * 3, none⟩ = some c := ⟨_, (hownR.cellAt (j * 3) (by omega)).trans (List.getElem?_eq_getElem (by omega))⟩
        obtain ⟨s1, hs1'⟩ : ∃ c, wr.cell? ⟨g, j * 3 + 1, none⟩ = some c := ⟨_, (hownR.cellAt (j * 3 + 1) (by omega)).trans (List.getElem?_eq_getElem (by omega))⟩
        obtain ⟨s2, hs2'⟩ : ∃ c, wr.cell? ⟨g, j * 3 + 2, none⟩ = some c := ⟨_, (hownR.cellAt (j * 3 + 2) (by omega)).trans (List.getElem?_eq_getElem (by omega))⟩
        have f0 := hownR.frozenAt (j * 3)
        have f1 := hownR.frozenAt (j * 3 + 1)
        have f2 := hownR.frozenAt (j * 3 + 2)
        have hgw0 : W0.heap.size ≤ g := hw2 g rfl
        have hgr := (hownR.lt g rfl).2
        clear hwt hu q0 q1 q2 hnowR hwaitR hownR hlen
        by_cases hz : l.length = 0
        · obtain ⟨ao, cap, hv⟩ : ∃ ao cap, fv = .slice ao 0 cap := by
            rcases hIR with ⟨ao, cap, hv, _⟩ | ⟨b, o, cap, hv, _⟩
            · exact ⟨ao, cap, hv⟩
            · exact ⟨_, cap, by rw [hv, hz]⟩
          subst hv
          have HN := hid (HF.out.idle hlt (by rw [hmet.out]; unfold fateAt; rw [if_pos hz]; rfl))
          clear hIR hI hz
          go_wp2
          go_roundw
          case rel => exact ⟨j + 1, by omega, congrArg (Value.int .i64) (by omega), by rw [HC1.out, HU.out]; exact congrArg (Value.int .i64) (by omega), HN.out⟩
          case measure => simp [intOf]; omega
        · rcases hIR with ⟨_, _, _, h⟩ | ⟨b, o, cap, hv, hb, hjx⟩
          · exact absurd (by rw [h]; rfl) hz
          have hm : u % l.length < l.length := Nat.mod_lt _ (by omega)
          have hx := hjx _ hm
          have i1 : (u : Int).tmod (l.length : Int) = ((u % l.length : Nat) : Int) := by rw [Int.ofNat_tmod]
          have HX : Hid (fateAt l u = l[u % l.length]) := hid (by
            unfold fateAt
            rw [if_neg hz, List.getD_eq_getElem?_getD, List.getElem?_eq_getElem hm]; rfl)
          subst hv
          clear hjx hI
          generalize l[u % l.length] = x at *
          by_cases x1 : x = 1
          · subst x1
            have HN := hid (HF.out.put hgw0 hlt (a := .bool true) (b := .string ⟨(ps[j].now.getD []).toArray⟩) (d := .bool ps[j].now.isNone) (by rw [hmet.out, HX.out]; unfold Plc.meet; rw [if_pos rfl]; cases ps[j].now <;> rfl))
            go_wp2
            refine ⟨⟨j + 1, by omega, congrArg (Value.int .i64) (by omega), by rw [HC1.out, HU.out]; exact congrArg (Value.int .i64) (by omega), HN.out⟩, ?_⟩
            simp [intOf]; omega
          by_cases x2 : x = 2
          · subst x2
            have HN := hid (HF.out.put hgw0 hlt (a := .bool true) (b := .string ⟨#[]⟩) (d := .bool true) (by rw [hmet.out, HX.out]; unfold Plc.meet; rw [if_neg (by decide), if_pos rfl]; rfl))
            go_wp2
            refine ⟨⟨j + 1, by omega, congrArg (Value.int .i64) (by omega), by rw [HC1.out, HU.out]; exact congrArg (Value.int .i64) (by omega), HN.out⟩, ?_⟩
            simp [intOf]; omega
          · have HN := hid (HF.out.idle hlt (by rw [hmet.out, HX.out]; unfold Plc.meet; rw [if_neg x1, if_neg x2]))
            go_wp2
            go_roundw
            case rel => exact ⟨j + 1, by omega, congrArg (Value.int .i64) (by omega), by rw [HC1.out, HU.out]; exact congrArg (Value.int .i64) (by omega), HN.out⟩
            case measure => simp [intOf]; omega
    · have hjq : j = ps.length := by omega
      subst hjq
      have hown := HF.out.1
      rw [metSo_all] at hown
      have hcnt : Hid (counts k (ps.take ps.length) = counts k ps) := hid (by rw [List.take_length])
      have hml : Hid ((mets l k ps).length = ps.length) := hid (mets_len ..)
      obtain ⟨G, hGm⟩ : ∃ G, mets l k ps = G := ⟨_, rfl⟩
      have HGM := hid hGm
      rw [hGm] at hown hml
      have hml' := hml.out
      have HO := hid hown
      clear hGm hnowR hwaitR hIR hownR hown hI
      rw [hcnt.out]
      obtain ⟨w5, hw5⟩ : ∃ x, x = wr := ⟨_, rfl⟩
      subst hw5
      go_wp2
      go_loopw [11, 12] (fun e i w9 => ∃ j : Nat, j ≤ ps.length ∧ i = .int .i64 j ∧ e = .int .i64 (endOf (G.take j) : Nat) ∧ w9 = w5) (fun _ i _ => ps.length - (intOf i).toNat)
      case atStart => exact ⟨0, Nat.zero_le _, rfl, rfl, rfl⟩
      case round =>
        obtain ⟨j, hj, rfl, rfl, rfl⟩ := hrel
        by_cases hlt : j < ps.length
        · obtain ⟨g, hg, hgl⟩ := ha2 (by omega)
          subst hg
          have hgr := (HO.out.lt g rfl).2
          have c0 := (HO.out.cellAt (j * 3) (by omega)).trans (safes_is G j (by omega))
          have hen : endOf (G.take (j + 1)) = if G[j].safe.isSome then j + 1 else endOf (G.take j) := by
            rw [List.take_succ_eq_append_getElem (by omega), endOf_snoc, List.length_take, Nat.min_eq_left (by omega)]
          have HEN := hid hen
          clear hen
          cases hb : G[j].safe.isSome with
          | false =>
            rw [hb] at c0
            have e1 : Hid (endOf (G.take (j + 1)) = endOf (G.take j)) := hid (by rw [HEN.out, hb]; rfl)
            clear hb
            go_wp2
            go_roundw
            case rel => exact ⟨j + 1, by omega, congrArg (Value.int .i64) (by omega), by rw [e1.out], trivial⟩
            case measure => simp [intOf]; omega
          | true =>
            rw [hb] at c0
            have e1 : Hid (endOf (G.take (j + 1)) = j + 1) := hid (by rw [HEN.out, hb]; rfl)
            clear hb
            go_wp2
            go_roundw
            case rel => exact ⟨j + 1, by omega, congrArg (Value.int .i64) (by omega), by rw [e1.out]; exact congrArg (Value.int .i64) (by omega), trivial⟩
            case measure => simp [intOf]; omega
        · have hjq : j = ps.length := by omega
          subst hjq
          have he : endOf G ≤ ps.length := by have := endOf_le G; omega
          have hte : Hid (G.take ps.length = G) := hid (List.take_of_length_le (by omega))
          rw [hte.out]
          obtain ⟨E, hE⟩ : ∃ E, endOf G = E := ⟨_, rfl⟩
          have HE := hid hE
          rw [hE] at he ⊢
          have hgl : (G.take E).length = E := by rw [List.length_take]; omega
          have hown3 := row_take HO.out he
          rw [← safes_take, ← risen_zero (G.take E)] at hown3
          have H3 := hid (And.intro hown3 HF.out.2)
          clear hown3
          have hEc : E ≤ c2 := Nat.le_trans he (row_cap HO.out)
          have hEc2 : (E : Int) ≤ c2 := by omega
          clear hE
          obtain ⟨w6, hw6⟩ : ∃ x, x = wr := ⟨_, rfl⟩
          subst hw6
          go_wp2
          go_loopw [13] (fun i w9 => ∃ j : Nat, j ≤ E ∧ i = .int .i64 j ∧ w9.ownsRow 0 tC 3 (.slice a2 E c2) E (safesC (risen (G.take E) j)) ∧ Below W0.heap.size W0 w9) (fun i _ => E - (intOf i).toNat)
          case atStart => exact ⟨0, Nat.zero_le _, rfl, H3.out.1, H3.out.2⟩
          case round =>
            obtain ⟨j, hj, rfl, hr3, hb3⟩ := hrel
            have HR3 := hid hr3
            have HB3 := hid hb3
            by_cases hlt : j < E
            · obtain ⟨g, hg, hgl3⟩ := ha2 (by omega)
              subst hg
              have hgw0 := hw2 g rfl
              have hgr := (hr3.lt g rfl).2
              have hlen3 := hr3.1
              have hr3l : (risen (G.take E) j).length = E := by rw [risen_len]; exact hgl
              have hat := risen_at (G.take E) j (by omega)
              have c0 := (hr3.cellAt (j * 3) (by omega)).trans (safes_is (risen (G.take E) j) j (by omega))
              rw [hat] at c0
              obtain ⟨s1, hs1'⟩ : ∃ c, wr.cell? ⟨g, j * 3 + 1, none⟩ = some c := ⟨_, (hr3.cellAt (j * 3 + 1) (by omega)).trans (List.getElem?_eq_getElem (by omega))⟩
              obtain ⟨s2, hs2'⟩ : ∃ c, wr.cell? ⟨g, j * 3 + 2, none⟩ = some c := ⟨_, (hr3.cellAt (j * 3 + 2) (by omega)).trans (List.getElem?_eq_getElem (by omega))⟩
              cases hb : (G.take E)[j].safe with
              | some s =>
                rw [hb] at c0
                have HN := hid (show wr.ownsRow 0 tC 3 (.slice (some ⟨g, 0, none⟩) E c2) E (safesC (risen (G.take E) (j + 1))) by rw [risen_idle (G.take E) j (by omega) s hb]; exact hr3)
                clear hb hr3 hb3 hat hlen3 hr3l
                have c0' : wr.cell? ⟨g, j * 3, none⟩ = some (.bool true) := c0
                clear c0
                go_wp2
                go_roundw
                case rel => exact ⟨j + 1, by omega, congrArg (Value.int .i64) (by omega), HN.out, HB3.out⟩
                case measure => simp [intOf]; omega
              | none =>
                rw [hb] at c0
                have c0' : wr.cell? ⟨g, j * 3, none⟩ = some (.bool false) := c0
                obtain ⟨w7, hmk, hcv, hb7⟩ := make_conv wr 256 (by omega)
                have hr7 := row_kept hr3 (F := fun _ => False) (Chg.of_below hb7) (fun _ _ h => h)
                have hrs : w7.ownsRow 0 tC 3 (.slice (some ⟨g, 0, none⟩) E c2) E (safesC (risen (G.take E) j)) := hr7
                have HN := hid (show (((w7.setCell ⟨g, j * 3, none⟩ (.bool true)).setCell ⟨g, j * 3 + 1, none⟩ (.string (Part.zerosS 256))).setCell ⟨g, j * 3 + 2, none⟩ (.bool false)).ownsRow 0 tC 3 (.slice (some ⟨g, 0, none⟩) E c2) E (safesC (risen (G.take E) (j + 1))) by
                  rw [risen_next (G.take E) j (by omega), ← safes_put (risen (G.take E) j) j (by omega) _ (.bool true) (.string (Part.zerosS 256)) (.bool false) (by rw [hb]; rfl)]
                  exact (((hrs.stored _ _).1.stored _ _).1.stored _ _).1)
                have HBN := hid ((((HB3.out.trans (hb7.mono HB3.out.size)).setCell (p := ⟨g, j * 3, none⟩) hgw0 (.bool true)).setCell (p := ⟨g, j * 3 + 1, none⟩) hgw0 (.string (Part.zerosS 256))).setCell (p := ⟨g, j * 3 + 2, none⟩) hgw0 (.bool false))
                have t0 := (hb7.cell (p := ⟨g, j * 3, none⟩) hgr).trans c0'
                have t1 := (hb7.cell (p := ⟨g, j * 3 + 1, none⟩) hgr).trans hs1'
                have t2 := (hb7.cell (p := ⟨g, j * 3 + 2, none⟩) hgr).trans hs2'
                have f0 := hrs.frozenAt (j * 3)
                have f1 := hrs.frozenAt (j * 3 + 1)
                have f2 := hrs.frozenAt (j * 3 + 2)
                have hg7 := (hrs.lt g rfl).2
                have hmk' : (Instr.makeSlice 99 (.int .i64 256) (.int .i64 256)).run Tryz.prog wr = .ok (.slice (some ⟨wr.heap.size, 0, none⟩) 256 256) w7 := hmk
                have hcv' : (convert 99 9 (.slice (some ⟨wr.heap.size, 0, none⟩) 256 256)).run Tryz.prog w7 = .ok (.string (Part.zerosS 256)) w7 := hcv
                clear hb hr3 hb3 hat hlen3 hr3l c0 hr7 hrs hb7 hmk hcv
                go_wp2
                exact ⟨⟨j + 1, by omega, congrArg (Value.int .i64) (by omega), HN.out, HBN.out⟩, by simp [intOf]; omega⟩
            · have hjE : E = j := by omega
              subst hjE
              have RS := risen_safe F l k
              have WL := woken_len F l k
              have WW := woken_waits F l k
              rw [HPS.out, HGM.out, HE.out] at RS WL WW
              have hR3 := HR3.out
              rw [RS.1] at hR3
              have Bw := B2.on HB3.out
              have Bz := BZ.on HB3.out
              have hlz := lt_of_block Bz
              have hdz : wr.drew.heap.size = wr.heap.size := rfl
              have hso := safes_one (F.woken l k).ps
              have hsz3 := HB3.out.size
              have a2w : ∀ q, (Value.slice a2 E c2).ownBlock = some q → w.heap.size ≤ q := fun q hq => by
                have := hw2 q (by cases a2 <;> exact hq)
                omega
              obtain ⟨mb, hmb⟩ := Classical.axiomOfChoice (fun W : World => make_bools W E (by omega))
              have hmk : ∀ W : World, (Instr.makeSlice tBs (.int .i64 (E : Int)) (.int .i64 (E : Int))).run Tryz.prog W = .ok (.slice (some ⟨W.heap.size, 0, none⟩) E E) (mb W) := fun W => (hmb W).1
              have hbd : Below wr.heap.size wr wr.drew := (Below.refl _ _).drew
              have hrd : wr.drew.ownsRow 0 tC 3 (.slice a2 E c2) E (safesC (F.woken l k).ps) := row_kept hR3 (F := fun _ => False) (Chg.of_below hbd) (fun _ _ h => h)
              have hda : Below wr.drew.heap.size wr.drew ((wr.alloc (.cells #[] tC)).drew) := ((Below.refl wr.drew.heap.size wr.drew).alloc (Nat.le_refl _) (.cells #[] tC) : Below _ _ (wr.drew.alloc _))
              have hdm := (hmb wr.drew).2.2
              have hrm : (mb wr.drew).ownsRow 0 tC 3 (.slice a2 E c2) E (safesC (F.woken l k).ps) := row_kept hrd (F := fun _ => False) (Chg.of_below hdm) (fun _ _ h => h)
              have hdma : Below (mb wr.drew).heap.size (mb wr.drew) ((mb wr.drew).alloc (.cells #[] tC)) := (Below.refl _ _).alloc (Nat.le_refl _) _
              have hdam := (hmb ((wr.alloc (.cells #[] tC)).drew)).2.2
              obtain ⟨v1, w1, q1, p1, k1, i1⟩ := copy_cells hrd hso (by omega)
              obtain ⟨v3, w3, q3, p3, k3, i3⟩ := copy_cells hrm hso (by omega)
              obtain ⟨v4, w4, q4, p4, k4, g4, i4⟩ := copy_later hrd hso (by omega) hdam
              obtain ⟨a1, d1, rfl, -⟩ := row_shape p1
              obtain ⟨a3, d3, rfl, -⟩ := row_shape p3
              obtain ⟨a4, d4, rfl, -⟩ := row_shape p4
              have hm1 := (hmb w1).2.2
              have q1 : (Builtin.append_ #[tCs, tCs] tCs #[.slice (some ⟨wr.heap.size, 0, none⟩) 0 0, .slice a2 E c2]).run Tryz.prog ((wr.alloc (.cells #[] tC)).drew) = .ok (.slice a1 E d1) w1 := q1
              have q4 : (Builtin.append_ #[tCs, tCs] tCs #[.slice (some ⟨wr.heap.size, 0, none⟩) 0 0, .slice a2 E c2]).run Tryz.prog (mb ((wr.alloc (.cells #[] tC)).drew)) = .ok (.slice a4 E d4) w4 := q4
              have z1 := k1.size
              have z3 := k3.size
              have zm := hdm.size
              have za : ((wr.alloc (.cells #[] tC)).drew).heap.size = wr.heap.size + 1 := by
                show (wr.heap.push _).size = _
                exact Array.size_push _
              have t1 : Below wr.heap.size wr (mb w1) := hbd.trans (k1.trans (hm1.mono z1))
              have t3 : Below wr.heap.size wr w3 := hbd.trans (hdm.trans (k3.mono zm))
              have t4 : Below wr.heap.size wr w4 := hbd.trans k4
              have bb : ∀ W, Below wr.heap.size wr W → Below w.heap.size w W := fun W h => HB0.out.trans ((HB3.out.trans (h.mono hsz3)).mono (by omega))
              have r1 : (mb w1).ownsRow 0 tC 3 (.slice a1 E d1) E (safesC (F.woken l k).ps) := row_kept p1 (F := fun _ => False) (Chg.of_below hm1) (fun _ _ h => h)
              have s1 : (mb w1).ownsRow 0 tC 3 (.slice a2 E c2) E (safesC (F.woken l k).ps) := row_kept hR3 (F := fun _ => False) (Chg.of_below t1) (fun _ _ h => h)
              have s3 : w3.ownsRow 0 tC 3 (.slice a2 E c2) E (safesC (F.woken l k).ps) := row_kept hR3 (F := fun _ => False) (Chg.of_below t3) (fun _ _ h => h)
              have s4 : w4.ownsRow 0 tC 3 (.slice a2 E c2) E (safesC (F.woken l k).ps) := row_kept hR3 (F := fun _ => False) (Chg.of_below t4) (fun _ _ h => h)
              have u1 : (mb w1).ownsRow 0 tB 1 (.slice (some ⟨w1.heap.size, 0, none⟩) E E) E (List.replicate E (.bool false)) := row_low (hmb w1).2.1
              have u3 : w3.ownsRow 0 tB 1 (.slice (some ⟨wr.heap.size, 0, none⟩) E E) E (List.replicate E (.bool false)) := row_kept (row_low (hmb wr.drew).2.1) (F := fun _ => False) (Chg.of_below k3) (fun _ _ h => h)
              have u4 : w4.ownsRow 0 tB 1 (.slice (some ⟨wr.heap.size + 1, 0, none⟩) E E) E (List.replicate E (.bool false)) := by
                rw [← za]
                exact row_kept (row_low (hmb ((wr.alloc (.cells #[] tC)).drew)).2.1) g4 (fun g hg e => by simp [Value.ownBlock] at hg; omega)
              have Z1 := Bz.on t1
              have Z3 := Bz.on t3
              have Z4 := Bz.on t4
              have FE1 := hid (fated_end (f := ⟨fn, .slice a1 E d1, .slice a2 E c2, .slice (some ⟨w1.heap.size, 0, none⟩) E E, fsu⟩) (G := ⟨(F.woken l k).ps, F.sure⟩) hR HNM.out HSU.out Z1 (bb _ t1) (by rw [← RS.2, WL]; exact r1) (fun q hq => by have := i1 q hq; omega) (by rw [WL]; exact s1) a2w (by rw [WL, WW]; exact u1) (fun q hq => by simp [Value.ownBlock] at hq; omega))
              have FE3 := hid (fated_end (f := ⟨fn, .slice a3 E d3, .slice a2 E c2, .slice (some ⟨wr.heap.size, 0, none⟩) E E, fsu⟩) (G := ⟨(F.woken l k).ps, F.sure⟩) hR HNM.out HSU.out Z3 (bb _ t3) (by rw [← RS.2, WL]; exact p3) (fun q hq => by have := i3 q hq; omega) (by rw [WL]; exact s3) a2w (by rw [WL, WW]; exact u3) (fun q hq => by simp [Value.ownBlock] at hq; omega))
              have FE4 := hid (fated_end (f := ⟨fn, .slice a4 E d4, .slice a2 E c2, .slice (some ⟨wr.heap.size + 1, 0, none⟩) E E, fsu⟩) (G := ⟨(F.woken l k).ps, F.sure⟩) hR HNM.out HSU.out Z4 (bb _ t4) (by rw [← RS.2, WL]; exact p4) (fun q hq => by have := i4 q hq; omega) (by rw [WL]; exact s4) a2w (by rw [WL, WW]; exact u4) (fun q hq => by simp [Value.ownBlock] at hq; omega))
              have hbN : w.heap.size < w.heap.size + 1 := Nat.lt_succ_self _
              have KD : FS (w.heap.size + 1) wr (.string fn) (.bool fsu) w.heap.size wr.drew := FS.start Bw hbN ((Below.refl _ _).drew) (Bz.on hbd)
              have KDA : FS (w.heap.size + 1) wr (.string fn) (.bool fsu) w.heap.size ((wr.alloc (.cells #[] tC)).drew) := KD.on hbN hda
              have KDM := KD.on hbN hdm
              have KDMA := KDM.on hbN hdma
              have KDAM := KDA.on hbN hdam
              have K1 : FS (w.heap.size + 1) wr (.string fn) (.bool fsu) w.heap.size w1 := KD.on hbN k1
              have K1M := K1.on hbN hm1
              have K3 := KDM.on hbN k3
              have K4 : FS (w.heap.size + 1) wr (.string fn) (.bool fsu) w.heap.size w4 := KD.on hbN k4
              have KE1 := K1M.set hbN ⟨fn, .slice a1 E d1, .slice a2 E c2, .slice (some ⟨w1.heap.size, 0, none⟩) E E, fsu⟩
              have KE3 := K3.set hbN ⟨fn, .slice a3 E d3, .slice a2 E c2, .slice (some ⟨wr.heap.size, 0, none⟩) E E, fsu⟩
              have KE4 := K4.set hbN ⟨fn, .slice a4 E d4, .slice a2 E c2, .slice (some ⟨wr.heap.size + 1, 0, none⟩) E E, fsu⟩
              have KK := hid (And.intro KD (And.intro KDA (And.intro KDM (And.intro KDMA (And.intro KDAM (And.intro K1 (And.intro K1M (And.intro K3 (And.intro K4 (And.intro KE1 (And.intro KE3 KE4)))))))))))
              obtain ⟨x0, x1, x2, x3, x4⟩ := Z1.cells
              obtain ⟨x5, x6, x7, x8, x9⟩ := Z1.frees
              obtain ⟨y0, y1, y2, y3, y4⟩ := Z3.cells
              obtain ⟨y5, y6, y7, y8, y9⟩ := Z3.frees
              obtain ⟨c0, c1, c2', c3, c4⟩ := Z4.cells
              obtain ⟨c5, c6, c7, c8, c9⟩ := Z4.frees
              have l1 := lt_of_block Z1
              have l3 := lt_of_block Z3
              have l4 := lt_of_block Z4
              have Y1 := hid (set5_box Z1 ⟨fn, .slice a1 E d1, .slice a2 E c2, .slice (some ⟨w1.heap.size, 0, none⟩) E E, fsu⟩)
              have Y3 := hid (set5_box Z3 ⟨fn, .slice a3 E d3, .slice a2 E c2, .slice (some ⟨wr.heap.size, 0, none⟩) E E, fsu⟩)
              have Y4 := hid (set5_box Z4 ⟨fn, .slice a4 E d4, .slice a2 E c2, .slice (some ⟨wr.heap.size + 1, 0, none⟩) E E, fsu⟩)
              clear KD KDA KDM KDMA KDAM K1 K1M K3 K4 KE1 KE3 KE4 Z1 Z3 Z4 u1 u3 u4 s1 s3 s4 r1 t1 t3 t4 bb p1 p3 p4 k1 k3 k4 g4 i1 i3 i4 hm1 hdam hdma hrm hdm hda hrd hbd hmb Bw Bz hR3 RS WL WW a2w hso
              go_wp2
              go_region_held_law (fun W => Below (w.heap.size + 1) wr W ∧ W.cell? ⟨w.heap.size, 0, none⟩ = some (.string fn) ∧ W.cell? ⟨w.heap.size, 4, none⟩ = some (.bool fsu) ∧ ∃ f, FBox (w.heap.size + 1) f W)
                (first
                  | with_reducible exact KK.out.1 | with_reducible exact KK.out.2.1 | with_reducible exact KK.out.2.2.1 | with_reducible exact KK.out.2.2.2.1 | with_reducible exact KK.out.2.2.2.2.1 | with_reducible exact KK.out.2.2.2.2.2.1 | with_reducible exact KK.out.2.2.2.2.2.2.1 | with_reducible exact KK.out.2.2.2.2.2.2.2.1 | with_reducible exact KK.out.2.2.2.2.2.2.2.2.1 | with_reducible exact KK.out.2.2.2.2.2.2.2.2.2.1 | with_reducible exact KK.out.2.2.2.2.2.2.2.2.2.2.1 | with_reducible exact KK.out.2.2.2.2.2.2.2.2.2.2.2)
                (first
                  | refine step_append_run (by rfl) (.tmp 94) (.tmp 95) tCs tCs (by rfl) (.slice (some ⟨wr.heap.size, 0, none⟩) 0 0) (.slice a2 E c2) (by rfl) (by rfl) _ _ q1 ?_
                  | refine step_append_run (by rfl) (.tmp 94) (.tmp 95) tCs tCs (by rfl) (.slice (some ⟨(mb wr.drew).heap.size, 0, none⟩) 0 0) (.slice a2 E c2) (by rfl) (by rfl) _ _ q3 ?_
                  | refine step_append_run (by rfl) (.tmp 94) (.tmp 95) tCs tCs (by rfl) (.slice (some ⟨wr.heap.size, 0, none⟩) 0 0) (.slice a2 E c2) (by rfl) (by rfl) _ _ q4 ?_)
              all_goals go_wp2_with fail
              all_goals try simp only [Exit.inBlock, Exit.then]
              · exact bodyPost_ret (fated_results rfl rfl Y1.out) rfl ⟨⟨_, rfl, FE1.out.1⟩, FE1.out.2⟩
              · exact bodyPost_ret (fated_results rfl rfl Y4.out) rfl ⟨⟨_, rfl, FE4.out.1⟩, FE4.out.2⟩
              · exact bodyPost_ret (fated_results rfl rfl Y3.out) rfl ⟨⟨_, rfl, FE3.out.1⟩, FE3.out.2⟩
end
end Ref
end Go.Proofs.YtgmbiiocjhkpdaaGreat
