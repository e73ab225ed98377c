/-
  Contract of the statements' own awake: it answers true; the old memory stays.
-/
import Derived.Test.YtpdpjgeoclilhaaGreatJouAwakeM
namespace Go.Proofs.YtpdpjgeoclilhaaGreat
open Go.RowKit Go.Shelf
namespace Jo
open Num (hid)
open Disk (Mod Fil Plc Sees Stays Ctl)
open Seal (full full_size full_any)
open Mem (Bs bs tS Chg ptr blk_cell blk_free blk_new blk_set blk_other blk_alloc row_kept row_shape row_type)

theorem new100 (w : World) : Calls Tryz.prog 10 #[.int .i64 100] w fun e w' => ∃ d m, e = .returned (ptr d) ∧ Sees (Bl w.heap.size) d m (Mod.new 100) w' ∧ Below w.heap.size w w' := by
  refine (Disk.new_has 100 w).mono ?_
  rintro e w' ⟨rfl, h, hb⟩
  exact ⟨_, _, rfl, Disk.Sees.of_has h, hb⟩
/-- The rows found. -/
theorem found_two {w : World} {v : Value} {l : List Rec} (hl : l = [(1, jA), (2, jA)]) (h : w.ownsRow 0 tPg 2 v l.length (l.flatMap pV)) :
    ∃ g cap, v = .slice (some ⟨g, 0, none⟩) 2 cap ∧ w.cell? ⟨g, 0, none⟩ = some (.int .i64 1) ∧ w.cell? ⟨g, 1, none⟩ = some (.string (bs jA)) := by
  subst hl
  rcases pgs_of h (n₀ := w.heap.size) (fun g hg => (h.lt g hg).2) with ⟨_, e⟩ | ⟨g, cap, e, _, _, hc⟩
  · cases e
  · exact ⟨g, cap, e, (hc 0 (by decide)).1, (hc 0 (by decide)).2⟩
/-- The calls of awake. -/
structure AwJ (w : World) (d m j b : Nat) (M : Mod) (J : Jou) (wr : World) : Prop where
  js : JS (Bl w.heap.size) d m j b 3 7 M J wr
  below : Below w.heap.size w wr
theorem AwJ.on {w wr w2 : World} {d m j b : Nat} {M : Mod} {J : Jou} (h : AwJ w d m j b M J wr) (hb : Below wr.heap.size wr w2) : AwJ w d m j b M J w2 := ⟨h.js.on hb, h.below.trans (hb.mono h.below.size)⟩
theorem AwJ.to {w wr w2 : World} {d m j b : Nat} {M M' : Mod} {J J' : Jou} (h : AwJ w d m j b M J wr) (h1 : JS (Bl w.heap.size) d m j b 3 7 M' J' w2) (h2 : Stays (Bl w.heap.size) wr w2) : AwJ w d m j b M' J' w2 := ⟨h1, h.below.trans (bl_below h2 h.below.size)⟩
theorem jB_size (a : ByteArray) (h : a.size = 232) : (⟨#[98]⟩ ++ a.extract 1 a.size : ByteArray).size = 232 := by
  rw [ByteArray.size_append, ByteArray.size_extract, h]
  rfl
set_option maxRecDepth 100000 in
set_option maxHeartbeats 4000000 in
theorem awake_any (w : World) : Calls Tryz.prog 7 #[] w fun e w' => e = .returned (.bool true) ∧ Below w.heap.size w w' := by
  have hA : (bs jA).size = 232 := by rw [← full_a, full_size]
  have HA := hid hA
  have hA2 : ((bs jA).size : Int) = 232 := by omega
  clear hA
  go_enter Tryz.func7, Tryz.ntmps7
  go_wp2_with fail
  refine (new100 w).mono ?_
  rintro e w1 ⟨d, m, rfl, h, hb⟩
  have H1 : Hid (Sees (Bl w.heap.size) d m (Mod.new 100) w1) := hid h
  have HB1 : Hid (Below w.heap.size w w1) := hid hb
  clear h hb
  go_wp2_with fail
  refine (start_any (P := 3) (salt := 7) H1.out (by decide) new_size).mono ?_
  rintro e w2 ⟨j, b, rfl, hjs, hb, _, _⟩
  have H2 : Hid (AwJ w d m j b (Mod.new 100) j0 w2) := hid ⟨hjs, HB1.out.trans (hb.mono HB1.out.size)⟩
  clear hjs hb H1 HB1
  go_wp2_with fail
  refine (full_any ⟨#[97]⟩ w2).mono ?_
  rintro e w3 ⟨rfl, hb⟩
  rw [full_a]
  have H3 := hid (H2.out.on hb)
  clear hb H2
  go_wp2_with fail
  refine (note_any H3.out.js (by decide) (by decide) (by decide) (by decide) 1 (by decide) (bs jA) HA.out).mono ?_
  rintro e w4 ⟨rfl, h, hs⟩
  have H4 : Hid (AwJ w d m j b y1.2.2 y1.2.1 w4) := hid (H3.out.to h hs)
  have e1 : (noteM 7 j0 1 (bs jA).data.toList (Mod.new 100)).1 = 0 := y1_ok.1
  rw [y1_ok.2] at H4
  rw [e1]
  clear h hs H3 e1
  go_wp2_with fail
  refine (note_any H4.out.js (by decide) (by decide) (by decide) (by decide) 1 (by decide) _ (jB_size _ HA.out)).mono ?_
  rintro e w5 ⟨rfl, h, hs⟩
  have e2 : ∀ l, noteM 7 ⟨[1], 0, 1⟩ 1 l y1.2.2 = (0, ⟨[1], 0, 1⟩, y1.2.2) := fun l => if_pos (by decide)
  rw [e2] at h ⊢
  have H5 : Hid (AwJ w d m j b y1.2.2 ⟨[1], 0, 1⟩ w5) := hid (H4.out.to h hs)
  clear h hs H4 e2
  go_wp2_with fail
  refine (note_any H5.out.js (by decide) (by decide) (by decide) (by decide) 2 (by decide) (bs jA) HA.out).mono ?_
  rintro e w6 ⟨rfl, h, hs⟩
  have e3 : noteM 7 ⟨[1], 0, 1⟩ 2 (bs jA).data.toList y1.2.2 = y3 := by unfold y3; rw [y1_ok.2]; rfl
  rw [e3] at h ⊢
  have H6 : Hid (AwJ w d m j b y3.2.2 y3.2.1 w6) := hid (H5.out.to h hs)
  rw [y3_ok.2] at H6
  rw [y3_ok.1]
  clear h hs H5 e3
  go_wp2_with fail
  refine (seal_any H6.out.js ⟨by decide, by decide, by decide, by decide⟩).mono ?_
  rintro e w7 ⟨rfl, h, hs⟩
  have e4 : sealM 3 7 ⟨[1, 2], 0, 2⟩ y3.2.2 = y4 := by unfold y4; rw [y3_ok.2]
  rw [e4] at h ⊢
  have H7 : Hid (AwJ w d m j b y4.2.2 y4.2.1 w7) := hid (H6.out.to h hs)
  rw [y4_ok.2] at H7
  rw [y4_ok.1]
  clear h hs H6 e4
  go_wp2_with fail
  refine (find_any H7.out.js.disk).mono ?_
  rintro e w8 ⟨v, rfl, hrow, h, hs, hv⟩
  have e5 : findM y4.2.2 = y5 := rfl
  rw [e5] at hrow h ⊢
  obtain ⟨g, cap, rfl, c0, c1⟩ := found_two y5_ok.2.2.2.1 hrow
  have H8 : Hid (AwJ w d m j b y5.2.2 ⟨[1, 2], 1, 0⟩ w8) := hid (H7.out.to (H7.out.js.over (h.fewer (fun k hk => Or.inl hk)) hs) (fewer hs (fun k hk => Or.inl hk)))
  rw [y5_ok.1, y5_ok.2.1, y5_ok.2.2.1]
  clear hrow h hs hv H7 e5
  go_wp2_with fail
  refine (start_state (P := 3) (salt := 7) H8.out.js.disk (by decide) (by rw [y5_ok.2.2.2.2]; decide)).mono ?_
  rintro e w9 ⟨rfl, rfl⟩
  go_wp2_with fail
  refine (size_jn H8.out.js.disk).mono ?_
  rintro e w9 ⟨rfl, rfl⟩
  rw [y5_ok.2.2.2.2]
  go_wp2_with fail
  refine (has_any H8.out.js 1 (by decide)).mono ?_
  rintro e w10 ⟨rfl, hb⟩
  have H10 := hid (H8.out.on hb)
  have e6 : decide ((1 : Nat) ∈ (⟨[1, 2], 1, 0⟩ : Jou).noted) = true := by decide
  rw [e6]
  clear hb H8 c0 c1 e6
  go_wp2_with fail
  refine (has_any H10.out.js 0 (by decide)).mono ?_
  rintro e w11 ⟨rfl, hb⟩
  have H11 := hid (H10.out.on hb)
  have e7 : decide ((0 : Nat) ∈ (⟨[1, 2], 1, 0⟩ : Jou).noted) = false := by decide
  rw [e7]
  clear hb H10 e7
  go_wp2_with fail
  refine (end_any H11.out.js).mono ?_
  rintro e w12 ⟨rfl, h, hs⟩
  have H12 : Hid (AwJ w d m j b y6.2 ⟨[1, 2], 1, 0⟩ w12) := hid (H11.out.to h hs)
  have e8 : (dropM y5.2.2).1 = 0 := y6_ok.1
  rw [e8]
  clear h hs H11 e8
  go_wp2_with fail
  refine (size_jn H12.out.js.disk).mono ?_
  rintro e w13 ⟨rfl, rfl⟩
  rw [y6_ok.2]
  go_wp2
  go_ret
  exact ⟨rfl, H12.out.below⟩
end Jo
end Go.Proofs.YtpdpjgeoclilhaaGreat
