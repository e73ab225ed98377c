/-
  Contract of the laws' own same: rows of the same pages.
-/
import Derived.Test.YtpdpjgeoclilhaaGreatGrpJC
import Derived.BigQuiet
namespace Go.Proofs.YtpdpjgeoclilhaaGreat
open Go.RowKit Go.Shelf
namespace Jo
open Num (hid)
open Mem (Bs bs)
/-- A row of pages, as it is read. -/
def PgR (w : World) (v : Value) (l : List Rec) : Prop := ∃ ao cap, v = .slice ao l.length cap ∧ ∀ j (h : j < l.length), ∃ g, ao = some ⟨g, 0, none⟩ ∧ l.length ≤ cap ∧ w.cell? ⟨g, j * 2, none⟩ = some (.int .i64 (l[j].1 : Nat)) ∧ w.cell? ⟨g, j * 2 + 1, none⟩ = some (.string (bs l[j].2))
theorem pgr_of {w : World} {v : Value} {l : List Rec} (h : w.ownsRow 0 tPg 2 v l.length (l.flatMap pV)) : PgR w v l := by
  rcases pgs_of h (n₀ := w.heap.size) (fun g hg => (h.lt g hg).2) with ⟨e1, e2⟩ | ⟨g, cap, e, hc, _, hx⟩
  · subst e2
    exact ⟨none, 0, e1, fun j hj => absurd hj (Nat.not_lt_zero _)⟩
  · exact ⟨_, cap, e, fun j hj => ⟨g, rfl, hc, hx j hj⟩⟩
theorem PgR.on {w w' : World} {v : Value} {l : List Rec} (h : PgR w v l) (hb : Below w.heap.size w w') : PgR w' v l := by
  obtain ⟨ao, cap, e, hx⟩ := h
  refine ⟨ao, cap, e, fun j hj => ?_⟩
  obtain ⟨g, h1, h2, h3, h4⟩ := hx j hj
  have hg : g < w.heap.size := by
    rcases Nat.lt_or_ge g w.heap.size with h' | h'
    · exact h'
    · simp [World.cell?, Array.getElem?_eq_none h'] at h3
  exact ⟨g, h1, h2, (hb.cell (p := ⟨g, j * 2, none⟩) hg).trans h3, (hb.cell (p := ⟨g, j * 2 + 1, none⟩) hg).trans h4⟩
set_option maxRecDepth 100000 in
set_option maxHeartbeats 1000000 in
theorem same13_any {w : World} {v1 v2 : Value} {l : List Rec} (hl : l.length ≤ 100000) (h1 : PgR w v1 l) (h2 : PgR w v2 l) :
    Calls Tryz.prog 16 #[v1, v2] w fun e w' => e = .returned (.bool true) ∧ Below w.heap.size w w' := by
  have HX1 : Hid (∀ wr, Below w.heap.size w wr → PgR wr v1 l) := hid fun wr hb => h1.on hb
  have HX2 : Hid (∀ wr, Below w.heap.size w wr → PgR wr v2 l) := hid fun wr hb => h2.on hb
  obtain ⟨ao1, cap1, rfl, -⟩ := h1
  obtain ⟨ao2, cap2, rfl, -⟩ := h2
  go_enter Tryz.func16, Tryz.ntmps16
  go_wp2
  go_loopw [5] (fun i wr => ∃ k : Nat, k ≤ l.length ∧ i = .int .i64 k ∧ Hid (Below w.heap.size w wr)) (fun i _ => l.length - (intOf i).toNat)
  case atStart => exact ⟨0, Nat.zero_le _, rfl, hid (Below.refl _ _)⟩
  case round =>
    obtain ⟨k, hk, rfl, HB⟩ := hrel
    by_cases hlt : (k : Int) < (l.length : Int)
    · have hkl : k < l.length := by omega
      obtain ⟨ap1, cp1, e1, hx1⟩ := HX1.out wr HB.out
      obtain ⟨ap2, cp2, e2, hx2⟩ := HX2.out wr HB.out
      cases e1
      cases e2
      obtain ⟨g1, rfl, hc1, a1, a2⟩ := hx1 k hkl
      obtain ⟨g2, rfl, hc2, b1, b2⟩ := hx2 k hkl
      clear hx1 hx2
      have hk1 : (k : Int) < (cap1 : Int) := by omega
      have hk2 : (k : Int) < (cap2 : Int) := by omega
      have hw1 : wrap64 ((k : Int) + 1) = (k : Int) + 1 := by rw [Num.wrap_i]; omega
      generalize l[k] = x at *
      go_wp2_with fail
      go_quiet (fail)
      go_wp2
      all_goals
        go_roundw
        case rel => exact ⟨k + 1, by omega, by go_num, hid (below_drewN HB.out _)⟩
        case measure => simp [intOf]; omega
    · obtain rfl : k = l.length := by omega
      go_wp2
      go_ret
      exact ⟨rfl, HB.out⟩
end Jo
end Go.Proofs.YtpdpjgeoclilhaaGreat
