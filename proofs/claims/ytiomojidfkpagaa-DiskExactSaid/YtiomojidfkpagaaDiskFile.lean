/-
  Contracts of the project's files: a sector is written, what waits is safe, a cut.
-/
import Derived.Test.YtiomojidfkpagaaDiskRow
import Derived.Deep.RegionHeld3
import Derived.Deep.QuietTactic
import Derived.BigQuiet
namespace Go.Proofs.Ytiomojidfkpagaa
open Go.RowKit
namespace Disk
open Num (hid bcells)

/-- A call on a file: what it is behind the call. -/
def FileTurned (tag : Nat → Tag) (n : Nam) (f : Nat) (F' : Fil) (w w' : World) : Prop :=
  ∃ tag' v' Q', FileAt tag' w' n f F' v' Q' ∧ (∀ k, k < w.heap.size → tag' k = tag k) ∧ Chg (fun k => tag k = .file n ∨ tag k = .row n) w w'


/-- Behind the stores of 'write' at a place that is there. -/
theorem wrote_old (tag : Nat → Tag) (w : World) (n : Nam) (f : Nat) (F : Fil) (g cap : Nat) (Q : Pls) (h : FileAt tag w n f F (.slice (some ⟨g, 0, none⟩) Q.length cap) Q) (i : Nat) (hi : i < Q.length) (l : List UInt8) (hl : l.length = 256) :
    FileTurned tag n f (F.write i l) w (((w.setCell ⟨g, i * 3, none⟩ (ptr w.heap.size)).setCell ⟨g, i * 3 + 2, none⟩ (.bool true)).alloc (.cells (secCells (some (fitted l))) tSector)).drew := by
  have hf := lt_of_block h.blk
  have hg := (h.row.lt g rfl).2
  have hne : f ≠ g := fun e => by have h1 := h.tagb; rw [e, h.tagr g rfl] at h1; cases h1
  have r1 := (World.ownsRow.stored h.row (3 * i) (ptr w.heap.size)).1
  have r2 := (World.ownsRow.stored r1 (3 * i + 2) (.bool true)).1
  rw [Pls.cells_set Q i hi w.heap.size ⟨some l, Q[i].2.safe, true⟩] at r2
  have hc : Chg (· = g) w (((w.setCell ⟨g, i * 3, none⟩ (ptr w.heap.size)).setCell ⟨g, i * 3 + 2, none⟩ (.bool true)).alloc (.cells (secCells (some (fitted l))) tSector)).drew :=
    ((((Chg.refl _ _).root (i * 3) _).root (i * 3 + 2) _).alloc _).drew
  have ht : ∀ k, k < w.heap.size → upd tag w.heap.size .sec k = tag k := fun k hk => upd_ne _ _ (by omega)
  have hF : ∀ k, k = g → tag k ≠ .sec := by rintro k rfl e; rw [h.tagr k rfl] at e; cases e
  refine ⟨upd tag w.heap.size .sec, .slice (some ⟨g, 0, none⟩) Q.length cap, Q.set i (⟨w.heap.size, Q[i].1.safe, true⟩, ⟨some l, Q[i].2.safe, true⟩), ⟨?_, ?_, ?_, ?_, ?_, ?_, ?_⟩, ht, hc.mono (by rintro k _ rfl; exact Or.inr (h.tagr k rfl))⟩
  · have hs : (F.write i l).sure = F.sure := by unfold Fil.write; split <;> rfl
    rw [hs]
    exact hc.at h.blk hne
  · rw [ht f hf]; exact h.tagb
  · rw [Nat.mul_comm 3 i] at r2
    rw [List.length_set]
    exact World.ownsRow.alloc r2 _
  · intro k hk
    rw [ht k (by have e : g = k := by simpa [Value.ownBlock] using hk
                 omega)]
    exact h.tagr k hk
  · intro x hx
    rcases mem_set hx with hx | rfl
    · exact (h.pls x hx).kept hc ht hF
    · refine ⟨⟨upd_same _ _ _, hl, ?_⟩, ((h.pls Q[i] (List.getElem_mem hi)).safe).kept hc ht hF, rfl⟩
      have hw : ((w.setCell ⟨g, i * 3, none⟩ (ptr w.heap.size)).setCell ⟨g, i * 3 + 2, none⟩ (.bool true)).heap.size = w.heap.size := by rw [set_size, set_size]
      have := blk_new ((w.setCell ⟨g, i * 3, none⟩ (ptr w.heap.size)).setCell ⟨g, i * 3 + 2, none⟩ (.bool true)) (.cells (secCells (some (fitted l))) tSector)
      rw [hw, fitted_full l hl] at this
      rw [fitted_full l hl]
      exact this
  · have hps : F.ps.length = Q.length := by rw [h.ps, List.length_map]
    unfold Fil.write
    rw [if_neg (by omega), List.map_set]
    have e : F.ps[i]? = some Q[i].2 := by rw [h.ps, List.getElem?_map, List.getElem?_eq_getElem hi]; rfl
    simp only [e]
    rw [h.ps]
  · rw [List.length_set]; exact h.len

/-- What the walk of 'write' reads: the row's slice, two cells of the place; before the new sector, behind it, behind the first store. -/
structure WF (W : World) (f g i m cap : Nat) (x0 x2 : Value) (O : Obj) : Prop where
  fl : f < W.heap.size
  gl : g < W.heap.size
  c0 : W.cell? ⟨f, 0, none⟩ = some (.slice (some ⟨g, 0, none⟩) m cap)
  k0 : W.cell? ⟨g, i * 3, none⟩ = some x0
  z0 : W.frozen? ⟨g, i * 3, none⟩ = false
  A0 : (W.alloc O).cell? ⟨f, 0, none⟩ = some (.slice (some ⟨g, 0, none⟩) m cap)
  A1 : (W.alloc O).cell? ⟨g, i * 3, none⟩ = some x0
  A2 : (W.alloc O).frozen? ⟨g, i * 3, none⟩ = false
  B0 : ((W.setCell ⟨g, i * 3, none⟩ (ptr W.heap.size)).alloc O).drew.cell? ⟨f, 0, none⟩ = some (.slice (some ⟨g, 0, none⟩) m cap)
  B2 : ((W.setCell ⟨g, i * 3, none⟩ (ptr W.heap.size)).alloc O).drew.cell? ⟨g, i * 3 + 2, none⟩ = some x2
  B3 : ((W.setCell ⟨g, i * 3, none⟩ (ptr W.heap.size)).alloc O).drew.frozen? ⟨g, i * 3 + 2, none⟩ = false

theorem wf_any {W : World} {f g i m cap : Nat} {s : Bool} {xs : List Value} {x0 x2 : Value} (O : Obj) (hb : W.heap[f]? = some (.cells #[.slice (some ⟨g, 0, none⟩) m cap, .bool s] tFile (0, 0)))
    (hrow : W.ownsRow 0 tPlace 3 (.slice (some ⟨g, 0, none⟩) m cap) m xs) (hne : f ≠ g) (hi : i < m) (q0 : xs[3 * i]? = some x0) (q2 : xs[3 * i + 2]? = some x2) : WF W f g i m cap x0 x2 O := by
  have hf := lt_of_block hb
  have hg := (hrow.lt g rfl).2
  have c0 : W.cell? ⟨f, 0, none⟩ = some (.slice (some ⟨g, 0, none⟩) m cap) := blk_cell hb 0
  have k0 := (World.ownsRow.cellAt hrow (3 * i) (by omega)).trans q0
  have z0 := World.ownsRow.frozenAt hrow (3 * i)
  have r1 := (World.ownsRow.stored hrow (3 * i) (ptr W.heap.size)).1
  rw [Nat.mul_comm 3 i] at k0 z0 r1
  refine ⟨hf, hg, c0, k0, z0, (alloc_cell hf _).trans c0, (alloc_cell hg _).trans k0, (alloc_frozen hg _).trans z0, (alloc_cell (by rw [set_size]; exact hf) _).trans ((set_cell_other hne _).trans c0), ?_, (alloc_frozen (by rw [set_size]; exact hg) _).trans (World.ownsRow.frozenAt r1 _)⟩
  refine (alloc_cell (by rw [set_size]; exact hg) _).trans ?_
  rw [World.ownsRow.cellAt r1 (i * 3 + 2) (by omega), List.getElem?_set_ne (by omega), Nat.mul_comm i 3]
  exact q2

set_option maxRecDepth 100000 in
theorem fwrite_old (tag : Nat → Tag) (w : World) (n : Nam) (f : Nat) (F : Fil) (v : Value) (Q : Pls) (h : FileAt tag w n f F v Q) (i : Nat) (hi : i < Q.length) (s : ByteArray) (hs : s.size = 256) :
    Calls Try.prog 89 #[ptr f, .int .i64 i, .string s] w fun e w' => e = .returned (.tuple #[]) ∧ FileTurned tag n f (F.write i s.data.toList) w w' := by
  obtain ⟨g, cap, hv, hle, hcap, hg⟩ := row_some h.row (by omega)
  subst hv
  have hlen := h.len
  have hne : f ≠ g := fun e => by have h1 := h.tagb; rw [e, h.tagr g rfl] at h1; cases h1
  obtain ⟨q0, q1, q2⟩ := Pls.cells_at Q i hi
  obtain ⟨hf, -, c0, k0, z0, A0, A1, A2, B0, B2, B3⟩ := wf_any (.cells (secCells (some (fitted s.data.toList))) tSector) h.blk h.row hne hi q0 q2
  have HH := hid h
  have HS := hid hs
  clear hs h q0 q1 q2
  go_enter Try.func89, Try.ntmps89
  go_wp2
  go_region_with ((go_at_call 116; refine (newSector_any s _).mono ?_; rintro e w' ⟨rfl, rfl⟩))
  all_goals
    go_wp2
    go_end0
    exact ⟨rfl, wrote_old tag w n f F g cap Q HH.out i hi s.data.toList HS.out⟩

/-- Behind the stores of 'write' at a new place. -/
theorem wrote_new (tag : Nat → Tag) (w w1 : World) (n : Nam) (f : Nat) (F : Fil) (v : Value) (Q : Pls) (h : FileAt tag w n f F v Q) (hQ : Q.length < 16384) (g cap : Nat)
    (hrow : w1.ownsRow 0 tPlace 3 (.slice (some ⟨g, 0, none⟩) (Q.length + 1) cap) (Q.length + 1) (Pls.cells Q ++ [.pointer none, .pointer none, .bool false]))
    (hgr : w.grownBy w1 v.ownBlock) (hg : v.ownBlock = some g ∨ w.heap.size ≤ g) (l : List UInt8) (hl : l.length = 256) :
    FileTurned tag n f (F.write Q.length l) w ((((w1.setCell ⟨f, 0, none⟩ (.slice (some ⟨g, 0, none⟩) (Q.length + 1) cap)).setCell ⟨g, Q.length * 3, none⟩ (ptr w1.heap.size)).setCell ⟨g, Q.length * 3 + 2, none⟩ (.bool true)).alloc (.cells (secCells (some (fitted l))) tSector)).drew := by
  have hf := lt_of_block h.blk
  have hg1 : g < w1.heap.size := (hrow.lt g rfl).2
  have hne : f ≠ g := fun e => by
    rcases hg with hg | hg
    · have h1 := h.tagb; rw [e, h.tagr g hg] at h1; cases h1
    · omega
  have hvf : v.ownBlock ≠ some f := fun e => by have h1 := h.tagb; rw [h.tagr f e] at h1; cases h1
  have hsz := hgr.size
  have b1 : w1.heap[f]? = some (.cells #[v, .bool F.sure] tFile (0, 0)) := (hgr.block f hf (fun e => hvf e.symm)).trans h.blk
  have b2 := blk_set b1 0 (.slice (some ⟨g, 0, none⟩) (Q.length + 1) cap)
  have r0 := ownsRow_setCell_other hrow (a := ⟨f, 0, none⟩) (by simpa [Value.ownBlock] using fun e => hne e.symm) (.slice (some ⟨g, 0, none⟩) (Q.length + 1) cap)
  have r1 := (World.ownsRow.stored r0 (3 * Q.length) (ptr w1.heap.size)).1
  have r2 := (World.ownsRow.stored r1 (3 * Q.length + 2) (.bool true)).1
  have hset : ((Pls.cells Q ++ ([.pointer none, .pointer none, .bool false] : List Value)).set (3 * Q.length) (ptr w1.heap.size)).set (3 * Q.length + 2) (.bool true) = Pls.cells (Q ++ [(⟨w1.heap.size, none, true⟩, ⟨some l, none, true⟩)]) := by
    have hlen := Pls.cells_len Q
    rw [Pls.cells_append, List.set_append_right _ _ (by omega), List.set_append_right _ _ (by omega), hlen]
    have e1 : 3 * Q.length - 3 * Q.length = 0 := by omega
    have e2 : 3 * Q.length + 2 - 3 * Q.length = 2 := by omega
    rw [e1, e2]
    rfl
  rw [hset] at r2
  have hF0 : ∀ k, v.ownBlock = some k → tag k = .row n := h.tagr
  have hc0 : Chg (fun k => tag k = .file n ∨ tag k = .row n) w w1 := (Chg.refl _ w).grown hgr (fun k hk => Or.inr (Or.inr (hF0 k hk)))
  have hgF : w.heap.size ≤ g ∨ (tag g = .file n ∨ tag g = .row n) := by
    rcases hg with hg | hg
    · exact Or.inr (Or.inr (hF0 g hg))
    · exact Or.inl hg
  have hc : Chg (fun k => tag k = .file n ∨ tag k = .row n) w ((((w1.setCell ⟨f, 0, none⟩ (.slice (some ⟨g, 0, none⟩) (Q.length + 1) cap)).setCell ⟨g, Q.length * 3, none⟩ (ptr w1.heap.size)).setCell ⟨g, Q.length * 3 + 2, none⟩ (.bool true)).alloc (.cells (secCells (some (fitted l))) tSector)).drew :=
    ((((hc0.setCell (p := ⟨f, 0, none⟩) (Or.inr (Or.inl h.tagb)) _).setCell (p := ⟨g, Q.length * 3, none⟩) hgF _).setCell (p := ⟨g, Q.length * 3 + 2, none⟩) hgF _).alloc _).drew
  have hgB : g ≠ w1.heap.size := by omega
  have ht : ∀ k, k < w.heap.size → upd (upd tag g (.row n)) w1.heap.size .sec k = tag k := fun k hk => by
    rw [upd_ne _ _ (by omega)]
    by_cases e : k = g
    · subst e
      rw [upd_same]
      rcases hg with hg | hg
      · exact (hF0 k hg).symm
      · omega
    · exact upd_ne _ _ e
  have hF : ∀ k, (tag k = .file n ∨ tag k = .row n) → tag k ≠ .sec := by
    rintro k (e | e) e' <;> rw [e] at e' <;> cases e'
  refine ⟨upd (upd tag g (.row n)) w1.heap.size .sec, .slice (some ⟨g, 0, none⟩) (Q.length + 1) cap, Q ++ [(⟨w1.heap.size, none, true⟩, ⟨some l, none, true⟩)], ⟨?_, ?_, ?_, ?_, ?_, ?_, ?_⟩, ht, hc⟩
  · have hs : (F.write Q.length l).sure = F.sure := by unfold Fil.write; split <;> rfl
    rw [hs]
    exact blk_alloc (blk_other (blk_other b2 hne _) hne _) _
  · rw [ht f hf]; exact h.tagb
  · rw [List.length_append]
    rw [Nat.mul_comm 3 Q.length] at r2
    exact World.ownsRow.alloc r2 _
  · intro k hk
    have e : g = k := by simpa [Value.ownBlock] using hk
    rw [← e, upd_ne _ _ hgB, upd_same]
  · intro x hx
    rcases List.mem_append.1 hx with hx | hx
    · exact (h.pls x hx).kept hc ht hF
    · rw [List.mem_singleton.1 hx]
      refine ⟨⟨upd_same _ _ _, hl, ?_⟩, trivial, rfl⟩
      have hw : (((w1.setCell ⟨f, 0, none⟩ (.slice (some ⟨g, 0, none⟩) (Q.length + 1) cap)).setCell ⟨g, Q.length * 3, none⟩ (ptr w1.heap.size)).setCell ⟨g, Q.length * 3 + 2, none⟩ (.bool true)).heap.size = w1.heap.size := by rw [set_size, set_size, set_size]
      have := blk_new (((w1.setCell ⟨f, 0, none⟩ (.slice (some ⟨g, 0, none⟩) (Q.length + 1) cap)).setCell ⟨g, Q.length * 3, none⟩ (ptr w1.heap.size)).setCell ⟨g, Q.length * 3 + 2, none⟩ (.bool true)) (.cells (secCells (some (fitted l))) tSector)
      rw [hw, fitted_full l hl] at this
      rw [fitted_full l hl]
      exact this
  · have hps : F.ps.length = Q.length := by rw [h.ps, List.length_map]
    unfold Fil.write
    rw [if_pos (by omega), List.map_append, h.ps]
    rfl
  · rw [List.length_append]; show Q.length + 1 ≤ 16384; omega

theorem grown_alloc {w w1 : World} {o : Obj} {r : Option Nat} (h : (w.alloc o).grownBy w1 r) : w.grownBy w1 r :=
  ⟨h.os, h.tape, h.output, by have := h.size; simp at this; omega, fun i hi hne => (h.block i (by simp; omega) hne).trans (Below.heap_alloc w o i hi)⟩

set_option maxRecDepth 100000 in
set_option maxHeartbeats 1000000 in
theorem fwrite_new (tag : Nat → Tag) (w : World) (n : Nam) (f : Nat) (F : Fil) (v : Value) (Q : Pls) (h : FileAt tag w n f F v Q) (hQ : Q.length < 16384) (s : ByteArray) (hs : s.size = 256) :
    Calls Try.prog 89 #[ptr f, .int .i64 Q.length, .string s] w fun e w' => e = .returned (.tuple #[]) ∧ FileTurned tag n f (F.write Q.length s.data.toList) w w' := by
  have c0 : w.cell? ⟨f, 0, none⟩ = some v := blk_cell h.blk 0
  have hf := lt_of_block h.blk
  have a0 := (alloc_cell (i := 0) hf (.cells #[.pointer none, .pointer none, .bool false] tPlace)).trans c0
  obtain ⟨v', w1, hrun, hrow, hgr0, hwho⟩ := append_place (h.row.alloc (.cells #[.pointer none, .pointer none, .bool false] tPlace)) (blk_new w (.cells #[.pointer none, .pointer none, .bool false] tPlace)) rfl rfl rfl (by omega)
  obtain ⟨g, cap, hv', hle, hcap, hg⟩ := row_some hrow (by omega)
  subst hv'
  have hgr := grown_alloc hgr0
  have hgw : v.ownBlock = some g ∨ w.heap.size ≤ g := (hwho g rfl).imp_right fun e => by simp at e; omega
  have hvf : v.ownBlock ≠ some f := fun e => by have h1 := h.tagb; rw [h.tagr f e] at h1; cases h1
  have b1 : w1.heap[f]? = some (.cells #[v, .bool F.sure] tFile (0, 0)) := (hgr.block f hf (fun e => hvf e.symm)).trans h.blk
  have d0 : w1.cell? ⟨f, 0, none⟩ = some v := blk_cell b1 0
  have y0 : w1.frozen? ⟨f, 0, none⟩ = false := blk_free b1 0
  have hne : f ≠ g := fun e => by
    rcases hgw with hg | hg
    · have h1 := h.tagb; rw [e, h.tagr g hg] at h1; cases h1
    · omega
  have b2 := blk_set b1 0 (.slice (some ⟨g, 0, none⟩) (Q.length + 1) cap)
  have r0 := ownsRow_setCell_other hrow (a := ⟨f, 0, none⟩) (by simpa [Value.ownBlock] using fun e => hne e.symm) (.slice (some ⟨g, 0, none⟩) (Q.length + 1) cap)
  have hcl := Pls.cells_len Q
  have wf := wf_any (i := Q.length) (x0 := .pointer none) (x2 := .bool false) (.cells (secCells (some (fitted s.data.toList))) tSector) b2 r0 hne (by omega) (by rw [List.getElem?_append_right (by omega), hcl, Nat.sub_self]; rfl) (by
    rw [List.getElem?_append_right (by omega), hcl, show 3 * Q.length + 2 - 3 * Q.length = 2 by omega]; rfl)
  have hws : (w1.setCell ⟨f, 0, none⟩ (.slice (some ⟨g, 0, none⟩) (Q.length + 1) cap)).heap.size = w1.heap.size := set_size _ _ _
  have HQ := hid hQ
  have HR := hid hrow
  have HG := hid hgr
  have HW := hid hgw
  have HWS := hid hws
  have HC := hid hcl
  have hq : Q.length ≤ 16384 := by omega
  have HV := h.row.2
  have HH := hid h
  have HS := hid hs
  clear hs h hQ hrow hgr0 hwho hgr hgw hvf b1 b2 r0 hws hcl
  rcases HV with ⟨hv, hn⟩ | ⟨g0, cap0, cur0, hv, _, _, hn0, hm0, -, -⟩
  · subst hv
    have hq0 : ((Q.length : Int) == 0) = true := by simp [hn]
    clear hn
    go_enter Try.func89, Try.ntmps89
    go_wp2_with (first | (at_builtin; refine wpList_append_run rfl _ _ _ _ rfl _ _ rfl rfl hrun ?_) | go_in)
    generalize hW : w1.setCell ⟨f, 0, none⟩ (.slice (some ⟨g, 0, none⟩) (Q.length + 1) cap) = W at wf
    have HW2 := hid hW
    clear hW hrun
    obtain ⟨hfW, hgW, e0, k0, x0, A0, A1, A2, B0, B2, B3⟩ := wf
    go_region_with ((go_at_call 116; refine (newSector_any s _).mono ?_; rintro e w' ⟨rfl, rfl⟩))
    all_goals
      go_wp2
      go_end0
      obtain rfl := HW2.out
      refine ⟨rfl, ?_⟩
      have := wrote_new tag w w1 n f F _ Q HH.out HQ.out g cap HR.out HG.out HW.out s.data.toList HS.out
      rw [← HWS.out] at this
      exact this
  · subst hv
    go_enter Try.func89, Try.ntmps89
    go_wp2_with (first | (at_builtin; refine wpList_append_run rfl _ _ _ _ rfl _ _ rfl rfl hrun ?_) | go_in)
    generalize hW : w1.setCell ⟨f, 0, none⟩ (.slice (some ⟨g, 0, none⟩) (Q.length + 1) cap) = W at wf
    have HW2 := hid hW
    clear hW hrun
    obtain ⟨hfW, hgW, e0, k0, x0, A0, A1, A2, B0, B2, B3⟩ := wf
    go_region_with ((go_at_call 116; refine (newSector_any s _).mono ?_; rintro e w' ⟨rfl, rfl⟩))
    all_goals
      go_wp2
      go_end0
      obtain rfl := HW2.out
      refine ⟨rfl, ?_⟩
      have := wrote_new tag w w1 n f F _ Q HH.out HQ.out g cap HR.out HG.out HW.out s.data.toList HS.out
      rw [← HWS.out] at this
      exact this

end Disk
end Go.Proofs.Ytiomojidfkpagaa
