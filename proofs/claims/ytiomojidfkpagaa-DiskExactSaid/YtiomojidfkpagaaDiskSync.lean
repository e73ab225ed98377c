/-
  Contracts of the project's files: what waits is safe.
-/
import Derived.Test.YtiomojidfkpagaaDiskFile
namespace Go.Proofs.Ytiomojidfkpagaa
open Go.RowKit
namespace Disk
open Num (hid bcells)

set_option maxRecDepth 100000 in
theorem holds_any (g o b : Nat) (x y z : Value) (w : World) (c0 : w.cell? ⟨g, o, none⟩ = some x) (c1 : w.cell? ⟨g, o + 1, none⟩ = some y) (c2 : w.cell? ⟨g, o + 2, none⟩ = some z)
    (z0 : w.frozen? ⟨g, o, none⟩ = false) (z1 : w.frozen? ⟨g, o + 1, none⟩ = false) (z2 : w.frozen? ⟨g, o + 2, none⟩ = false) :
    Calls Try.prog 118 #[.pointer (some ⟨g, o, none⟩), ptr b] w fun e w' => e = .returned (.tuple #[]) ∧ w' = ((w.setCell ⟨g, o, none⟩ (ptr b)).setCell ⟨g, o + 1, none⟩ (ptr b)).setCell ⟨g, o + 2, none⟩ (.bool false) := by
  go_enter Try.func118, Try.ntmps118
  go_wp2
  go_end0
  exact ⟨rfl, rfl⟩

def syn (x : PQ × Plc) : PQ × Plc := (⟨x.1.now, some x.1.now, false⟩, ⟨x.2.now, some x.2.now, false⟩)
/-- The cells of a place. -/
theorem place_cells {w : World} {g m cap : Nat} {Q : Pls} (h : w.ownsRow 0 tPlace 3 (.slice (some ⟨g, 0, none⟩) m cap) m Q.cells) (i : Nat) (hi : i < Q.length) (hm : m = Q.length) :
    w.cell? ⟨g, i * 3, none⟩ = some (ptr Q[i].1.now) ∧ w.cell? ⟨g, i * 3 + 1, none⟩ = some (ptrO Q[i].1.safe) ∧ w.cell? ⟨g, i * 3 + 2, none⟩ = some (.bool Q[i].1.waits) ∧
    w.frozen? ⟨g, i * 3, none⟩ = false ∧ w.frozen? ⟨g, i * 3 + 1, none⟩ = false ∧ w.frozen? ⟨g, i * 3 + 2, none⟩ = false := by
  subst hm
  obtain ⟨q0, q1, q2⟩ := Pls.cells_at Q i hi
  rw [Nat.mul_comm 3 i] at q0 q1 q2
  exact ⟨(World.ownsRow.cellAt h _ (by omega)).trans q0, (World.ownsRow.cellAt h _ (by omega)).trans q1, (World.ownsRow.cellAt h _ (by omega)).trans q2, World.ownsRow.frozenAt h _, World.ownsRow.frozenAt h _, World.ownsRow.frozenAt h _⟩
/-- 'holds' at a place of a file. -/
theorem FileAt.held {tag : Nat → Tag} {w w' : World} {n : Nam} {f : Nat} {F : Fil} {g cap : Nat} {Q : Pls} (h : FileAt tag w n f F (.slice (some ⟨g, 0, none⟩) Q.length cap) Q) (i : Nat) (hi : i < Q.length) (b : Nat) (s : Sec)
    (hs : SecAt tag w b s) (hw : w' = ((w.setCell ⟨g, i * 3, none⟩ (ptr b)).setCell ⟨g, i * 3 + 1, none⟩ (ptr b)).setCell ⟨g, i * 3 + 2, none⟩ (.bool false)) :
    FileAt tag w' n f ⟨F.ps.set i ⟨s, some s, false⟩, F.sure⟩ (.slice (some ⟨g, 0, none⟩) Q.length cap) (Q.set i (⟨b, some b, false⟩, ⟨s, some s, false⟩)) ∧ Chg (· = g) w w' := by
  subst hw
  have hc : Chg (· = g) w (((w.setCell ⟨g, i * 3, none⟩ (ptr b)).setCell ⟨g, i * 3 + 1, none⟩ (ptr b)).setCell ⟨g, i * 3 + 2, none⟩ (.bool false)) := (((Chg.refl _ _).root (i * 3) _).root (i * 3 + 1) _).root (i * 3 + 2) _
  refine ⟨h.put i (⟨b, some b, false⟩, ⟨s, some s, false⟩) ?_ hc (fun _ _ => rfl) ?_, hc⟩
  · have r1 := (World.ownsRow.stored h.row (i * 3) (ptr b)).1
    have r2 := (World.ownsRow.stored r1 (i * 3 + 1) (ptr b)).1
    have r3 := (World.ownsRow.stored r2 (i * 3 + 2) (.bool false)).1
    have e := Pls.cells_set3 Q i hi (⟨b, some b, false⟩, ⟨s, some s, false⟩)
    rw [Nat.mul_comm 3 i] at e
    rw [← e]
    exact r3
  · have hF : ∀ k, k = g → tag k ≠ .sec := by rintro k rfl e; rw [h.tagr k rfl] at e; cases e
    exact ⟨hs.kept hc (fun _ _ => rfl) hF, hs.kept hc (fun _ _ => rfl) hF, rfl⟩

def SyncAt (tag : Nat → Tag) (n : Nam) (f g cap : Nat) (s : Bool) (Q : Pls) (k : Nat) (w0 w : World) : Prop :=
  FileAt tag w n f ⟨(part syn Q k).map (·.2), s⟩ (.slice (some ⟨g, 0, none⟩) Q.length cap) (part syn Q k) ∧ Chg (· = g) w0 w

theorem FileAt.drew {tag : Nat → Tag} {w : World} {n : Nam} {f : Nat} {F : Fil} {v : Value} {Q : Pls} (h : FileAt tag w n f F v Q) : FileAt tag w.drew n f F v Q :=
  h.kept ((Chg.refl (fun _ => False) w).drew) (fun _ _ => rfl) (fun _ h => h.elim)
theorem SyncAt.drew {tag : Nat → Tag} {n : Nam} {f g cap : Nat} {s : Bool} {Q : Pls} {k : Nat} {w0 w : World} (h : SyncAt tag n f g cap s Q k w0 w) : SyncAt tag n f g cap s Q k w0 w.drew := ⟨h.1.drew, h.2.drew⟩

theorem SyncAt.step {tag : Nat → Tag} {n : Nam} {f g cap : Nat} {s : Bool} {Q : Pls} {k : Nat} {w0 w w' : World} (h : SyncAt tag n f g cap s Q k w0 w) (hk : k < Q.length)
    (hw : w' = ((w.setCell ⟨g, k * 3, none⟩ (ptr Q[k].1.now)).setCell ⟨g, k * 3 + 1, none⟩ (ptr Q[k].1.now)).setCell ⟨g, k * 3 + 2, none⟩ (.bool false)) : SyncAt tag n f g cap s Q (k + 1) w0 w' := by
  obtain ⟨h1, h2⟩ := h
  have hl : (part syn Q k).length = Q.length := part_len _ _ _
  have hk' : k < (part syn Q k).length := by omega
  have h1' : FileAt tag w n f ⟨(part syn Q k).map (·.2), s⟩ (.slice (some ⟨g, 0, none⟩) (part syn Q k).length cap) (part syn Q k) := by rw [hl]; exact h1
  have hp := h1.pls Q[k] (by have := List.getElem_mem hk'; rw [part_get syn Q k hk] at this; exact this)
  obtain ⟨h3, h4⟩ := h1'.held k hk' Q[k].1.now Q[k].2.now hp.now hw
  rw [hl] at h3
  have e : (part syn Q k).set k (⟨Q[k].1.now, some Q[k].1.now, false⟩, ⟨Q[k].2.now, some Q[k].2.now, false⟩) = part syn Q (k + 1) := part_set syn Q k hk
  rw [e] at h3
  refine ⟨?_, h2.trans h4⟩
  rw [← e, List.map_set]
  rw [← e] at h3
  exact h3

/-- The file is sure. -/
theorem FileAt.sured {tag : Nat → Tag} {w : World} {n : Nam} {f : Nat} {F : Fil} {v : Value} {Q : Pls} (h : FileAt tag w n f F v Q) : FileAt tag (w.setCell ⟨f, 1, none⟩ (.bool true)) n f ⟨F.ps, true⟩ v Q := by
  have hc : Chg (· = f) w (w.setCell ⟨f, 1, none⟩ (.bool true)) := (Chg.refl _ _).root 1 _
  refine ⟨blk_set h.blk 1 _, h.tagb, row_kept h.row hc ?_, h.tagr, fun x hx => (h.pls x hx).kept hc (fun _ _ => rfl) ?_, h.ps, h.len⟩
  · rintro g hg rfl
    have := h.tagr _ hg
    rw [h.tagb] at this; cases this
  · rintro k rfl e
    rw [h.tagb] at e; cases e
/-- Behind 'sure', what was turned before it. -/
theorem FileTurned.of {tag tag' : Nat → Tag} {w w1 : World} {n : Nam} {f : Nat} {F' : Fil} {v : Value} {Q : Pls} (h : FileAt tag' w1 n f F' v Q) (hc : Chg (fun k => tag k = .file n ∨ tag k = .row n) w w1) (ht : ∀ k, k < w.heap.size → tag' k = tag k) (htf : tag f = .file n) :
    FileTurned tag n f ⟨F'.ps, true⟩ w (w1.setCell ⟨f, 1, none⟩ (.bool true)) :=
  ⟨tag', v, Q, h.sured, ht, hc.setCell (p := ⟨f, 1, none⟩) (Or.inr (Or.inl htf)) _⟩

theorem SyncAt.start {tag : Nat → Tag} {n : Nam} {f g cap : Nat} {F : Fil} {Q : Pls} {w : World} (h : FileAt tag w n f F (.slice (some ⟨g, 0, none⟩) Q.length cap) Q) : SyncAt tag n f g cap F.sure Q 0 w w := by
  have e : (⟨(part syn Q 0).map (·.2), F.sure⟩ : Fil) = F := by rw [part_zero, ← h.ps]
  refine ⟨?_, Chg.refl _ _⟩
  rw [e, part_zero]
  exact h
theorem SyncAt.done {tag : Nat → Tag} {n : Nam} {f g cap : Nat} {F : Fil} {Q : Pls} {w w1 : World} (h0 : FileAt tag w n f F (.slice (some ⟨g, 0, none⟩) Q.length cap) Q) (h : SyncAt tag n f g cap F.sure Q Q.length w w1) :
    FileTurned tag n f F.sync w (w1.setCell ⟨f, 1, none⟩ (.bool true)) := by
  have := FileTurned.of h.1 (h.2.mono (by rintro k _ rfl; exact Or.inr (h0.tagr k rfl))) (fun _ _ => rfl) h0.tagb
  have e : (part syn Q Q.length).map (·.2) = F.ps.map fun p => (⟨p.now, some p.now, false⟩ : Plc) := by rw [part_all, h0.ps, List.map_map, List.map_map]; rfl
  rw [e] at this
  exact this

set_option maxRecDepth 100000 in
theorem fsync_any (tag : Nat → Tag) (w : World) (n : Nam) (f : Nat) (F : Fil) (v : Value) (Q : Pls) (h : FileAt tag w n f F v Q) :
    Calls Try.prog 92 #[ptr f] w fun e w' => e = .returned (.tuple #[]) ∧ FileTurned tag n f F.sync w w' := by
  have c0 : w.cell? ⟨f, 0, none⟩ = some v := blk_cell h.blk 0
  have c1 : w.cell? ⟨f, 1, none⟩ = some (.bool F.sure) := blk_cell h.blk 1
  have z1 : w.frozen? ⟨f, 1, none⟩ = false := blk_free h.blk 1
  have hlen := h.len
  rcases h.row.2 with ⟨hv, hn⟩ | ⟨g, cap, cur0, hv, _, _, hn0, hm0, -, -⟩
  · subst hv
    obtain rfl : Q = [] := List.eq_nil_of_length_eq_zero hn
    have HH := hid h
    clear h hn
    go_enter Try.func92, Try.ntmps92
    go_wp2
    go_loopw [8] (fun i wr => i = .int .i64 0 ∧ wr = w) (fun _ _ => 0)
    case atStart => exact ⟨rfl, rfl⟩
    case round =>
      obtain ⟨rfl, rfl⟩ := hrel
      go_wp2
      go_end0
      have h := HH.out
      have e : F.sync = ⟨F.ps, true⟩ := by unfold Fil.sync; rw [h.ps]; rfl
      rw [e]
      exact ⟨rfl, FileTurned.of h (Chg.refl _ _) (fun _ _ => rfl) h.tagb⟩
  · subst hv
    have HH := hid h
    clear h
    go_enter Try.func92, Try.ntmps92
    go_wp2
    go_loopw [8] (fun i wr => ∃ k : Nat, k ≤ Q.length ∧ i = .int .i64 k ∧ SyncAt tag n f g cap F.sure Q k w wr) (fun i _ => Q.length - (intOf i).toNat)
    case atStart => exact ⟨0, Nat.zero_le _, rfl, SyncAt.start HH.out⟩
    case round =>
      obtain ⟨k, hk, rfl, hsa⟩ := hrel
      have d0 : wr.cell? ⟨f, 0, none⟩ = some _ := blk_cell hsa.1.blk 0
      have d1 : wr.cell? ⟨f, 1, none⟩ = some _ := blk_cell hsa.1.blk 1
      have y1 : wr.frozen? ⟨f, 1, none⟩ = false := blk_free hsa.1.blk 1
      by_cases hlt : k < Q.length
      · have hp := place_cells (i := k) (by have := hsa.1.row; rw [part_len] at this; exact this) (by rw [part_len]; exact hlt) (part_len _ _ _).symm
        rw [part_get syn Q k hlt] at hp
        obtain ⟨k0, k1, k2, x0, x1, x2⟩ := hp
        have HS := hid hsa
        clear hsa
        go_wp2
        go_region_with ((go_at_call 118; refine (holds_any g (k * 3) _ _ _ _ wr.drew k0 k1 k2 x0 x1 x2).mono ?_; rintro e w' ⟨rfl, rfl⟩))
        all_goals
          go_wp2
          go_roundw
          case rel => exact ⟨k + 1, by omega, by go_num, SyncAt.step HS.out.drew hlt rfl⟩
          case measure => simp [intOf]; omega
      · obtain rfl : k = Q.length := by omega
        have HS := hid hsa
        clear hsa
        go_wp2
        go_end0
        exact ⟨rfl, SyncAt.done HH.out HS.out⟩

end Disk
end Go.Proofs.Ytiomojidfkpagaa
