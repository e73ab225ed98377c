/-
  Contracts of the project's disk: New; and the statements' own page.
-/
import Derived.Test.YtgmbiiocjhkpdaaGreatDiskPut
import Derived.Test.YtgmbiiocjhkpdaaGreatDiskTop
namespace Go.Proofs.YtgmbiiocjhkpdaaGreat
open Go.RowKit
namespace Disk
open Num (hid bcells)

def tag0 (w : World) : Nat → Tag := upd (upd (fun _ => .other) w.heap.size .dir) (w.heap.size + 1) .root

theorem new_disk (w : World) (room : Int) {w2 : World} (ht : Turns w.heap.size (w.heap.size + 1) { (⟨0, 0, 0, 0, false, 0, 0⟩ : Ctl) with room := clamp room } ((w.alloc (.map #[] 0)).alloc (.cells (rootCells w.heap.size ⟨0, 0, 0, 0, false, 0, 0⟩) tDisk)) w2) :
    DiskAt (tag0 w) w2 (w.heap.size + 1) w.heap.size (Mod.new room).c [] ∧ Below w.heap.size w w2 := by
  have e1 : (w.alloc (.map #[] 0)).heap.size = w.heap.size + 1 := by simp
  have hown0 : Owns (w.alloc (.map #[] 0)) w.heap.size [] := World.ownsMap_made w Tryz.prog tStr RP
  have hc1 : Chg (fun _ => False) (w.alloc (.map #[] 0)) ((w.alloc (.map #[] 0)).alloc (.cells (rootCells w.heap.size ⟨0, 0, 0, 0, false, 0, 0⟩) tDisk)) := (Chg.refl _ _).alloc _
  have hown1 := hown0.kept hc1 (fun h => h)
  have hown2 := hown1.kept ht.2 (by omega)
  refine ⟨⟨⟨ht.1, upd_same _ _ _, ?_, ?_⟩, hown2, (fun e he => by cases he), Nat.zero_le _⟩, ?_⟩
  · show upd _ _ _ _ = _
    rw [upd_ne _ _ (by omega), upd_same]
  · exact ⟨by show 0 ≤ clamp room ∧ clamp room ≤ 16384; unfold clamp; omega, by simp [Mod.new], by simp [Mod.new], fun _ => ⟨rfl, rfl⟩, fun h => absurd rfl h⟩
  · have hc0 : Chg (fun k => k = w.heap.size + 1) w w2 := (((Chg.refl _ w).alloc _).alloc _).trans ht.2
    exact hc0.below (Nat.le_refl _) (fun k hk => by omega)

set_option maxRecDepth 100000 in
theorem new_any (room : Int) (w : World) :
    Calls Tryz.prog 8 #[.int .i64 room] w fun e w' => e = .returned (ptr (w.heap.size + 1)) ∧ DiskAt (tag0 w) w' (w.heap.size + 1) w.heap.size (Mod.new room).c [] ∧ Below w.heap.size w w' := by
  have hmk := run_makeMap (P := Tryz.prog) tMap w
  have hbl := blk_new (w.alloc (.map #[] 0)) (.cells (rootCells w.heap.size ⟨0, 0, 0, 0, false, 0, 0⟩) tDisk)
  have e1 : (w.alloc (.map #[] 0)).heap.size = w.heap.size + 1 := by simp
  rw [e1] at hbl
  have HB := hid hbl
  clear e1 hbl
  go_enter Tryz.func8, Tryz.ntmps8
  go_wp2_with fail
  refine (room_any (w.heap.size + 1) w.heap.size ⟨0, 0, 0, 0, false, 0, 0⟩ room _ HB.out).mono ?_
  rintro e w2 ⟨rfl, ht⟩
  have HT := hid ht
  clear ht
  go_wp2
  go_ret
  obtain ⟨h1, h2⟩ := new_disk w room HT.out
  exact ⟨rfl, h1, h2⟩

/-! ### a row of one byte -/
def fill (b : UInt8) (k n : Nat) : List UInt8 := List.replicate k b ++ List.replicate (n - k) 0
theorem fill_len (b : UInt8) (k n : Nat) (h : k ≤ n) : (fill b k n).length = n := by simp [fill]; omega
theorem fill_zero (b : UInt8) (n : Nat) : fill b 0 n = List.replicate n 0 := by simp [fill]
theorem fill_all (b : UInt8) (n : Nat) : fill b n n = List.replicate n b := by simp [fill]
theorem fill_set (b : UInt8) (k n : Nat) (h : k < n) : (bcells (fill b k n)).set k (.int .u8 (b.toNat : Int)) = bcells (fill b (k + 1) n) := by
  unfold bcells fill
  rw [← List.map_set (f := fun b : UInt8 => Value.int .u8 (b.toNat : Int)) (a := b)]
  congr 1
  rw [List.set_append_right _ _ (by simp), List.length_replicate, Nat.sub_self, show n - k = (n - (k + 1)) + 1 by omega, List.replicate_succ, List.set_cons_zero, List.replicate_succ', List.append_assoc]
  rfl
theorem made_zeros (n : Nat) : (madeCells (Value.int IntKind.u8 0).cells (n * 1)).toList = bcells (List.replicate n 0) := by
  have hc : (Value.int IntKind.u8 0).cells = #[.int .u8 0] := rfl
  rw [hc]
  apply List.ext_getElem
  · rw [Array.length_toList, size_madeCells, Num.bcells_len, List.length_replicate]; omega
  · intro i h1 h2
    simp [madeCells, bcells, Nat.mod_one]
/-- string(b) of a row that is there. -/
theorem conv_row {w : World} {base g n : Nat} {l : List UInt8} (hn : n = l.length) (h : w.ownsRow base 5 1 (.slice (some ⟨g, 0, none⟩) n n) n (bcells l)) :
    (convert 99 tStr (.slice (some ⟨g, 0, none⟩) n n)).run Tryz.prog w = .ok (.string ⟨l.toArray⟩) w := by
  subst hn
  exact run_convert_bytes_back w 99 tStr 5 ⟨g, 0, none⟩ l.length l Tryz.underlying99 Tryz.underlying5 Tryz.underlying9 fun j hj => h.cells (g := g) rfl j (.int .u8 (l[j].toNat : Int)) (by simp [bcells, hj])
theorem byteInfo : ∃ i, Tryz.prog.info? 5 = some i ∧ i.zero = some (.int .u8 0) ∧ i.size = 1 ∧ i.bytes = 1 := by
  have h : (Tryz.prog.info? 5).map (fun i => (i.zero, i.size, i.bytes)) = some (some (.int .u8 0), 1, 1) := by kernel_rfl
  cases e : Tryz.prog.info? 5 with
  | none => rw [e] at h; cases h
  | some i =>
    rw [e] at h
    simp only [Option.map_some, Option.some.injEq, Prod.mk.injEq] at h
    exact ⟨i, rfl, h.1, h.2.1, h.2.2⟩
theorem make_row (w : World) (n : Nat) (hn : n ≤ 1000000) : ∃ w', (Instr.makeSlice 99 (.int .i64 (n : Int)) (.int .i64 (n : Int))).run Tryz.prog w = .ok (.slice (some ⟨w.heap.size, 0, none⟩) n n) w' ∧
    w'.ownsRow w.heap.size 5 1 (.slice (some ⟨w.heap.size, 0, none⟩) n n) n (bcells (List.replicate n 0)) ∧ Below w.heap.size w w' := by
  obtain ⟨i, hi, h0, h1, h2⟩ := byteInfo
  obtain ⟨w', hr, ho, hg⟩ := run_make_full (P := Tryz.prog) w w.heap.size 99 5 i _ 1 Tryz.underlying99 hi h0 h1 .i64 .i64 n (by rw [h2]; omega) (by unfold maxLen; omega) (Nat.le_refl _)
  rw [made_zeros] at ho
  exact ⟨w', hr, ho, (Below.refl _ w).grown hg (Nat.le_refl _) (fun k hk => by cases hk)⟩

def pageL (b : UInt8) : List UInt8 := List.replicate 256 b
/-- The first k bytes of a row are filled. -/
def Filled (w : World) (g n : Nat) (b : UInt8) (k : Nat) (wr : World) : Prop := wr.ownsRow w.heap.size 5 1 (.slice (some ⟨g, 0, none⟩) n n) n (bcells (fill b k n)) ∧ Below w.heap.size w wr
theorem Filled.step {w wr : World} {g n : Nat} {b : UInt8} {k : Nat} (h : Filled w g n b k wr) (hk : k < n) : Filled w g n b (k + 1) (wr.setCell ⟨g, k, none⟩ (.int .u8 (b.toNat : Int))) := by
  have h1 := (World.ownsRow.stored h.1 k (.int .u8 (b.toNat : Int))).1
  rw [fill_set b k n hk] at h1
  exact ⟨h1, h.2.setCell (p := ⟨g, k, none⟩) ((h.1.lt g rfl).1) _⟩
theorem Filled.cell {w wr : World} {g n : Nat} {b : UInt8} {k : Nat} (h : Filled w g n b k wr) (hk : k < n) : ∃ x, wr.cell? ⟨g, k, none⟩ = some x ∧ wr.frozen? ⟨g, k, none⟩ = false := by
  have hl : k < (bcells (fill b k n)).length := by rw [Num.bcells_len, fill_len b k n (by omega)]; exact hk
  exact ⟨_, (World.ownsRow.cellAt h.1 k (by omega)).trans (List.getElem?_eq_getElem hl), World.ownsRow.frozenAt h.1 k⟩

end Disk
end Go.Proofs.YtgmbiiocjhkpdaaGreat
