/-
  Put together: DiskNew, DiskHas, DiskBytes, DiskLoad.
-/
import Derived.Test.YtgmbiiocjhkpdaaGreatDiskPut
import Derived.Test.YtgmbiiocjhkpdaaGreatDiskTop
import Derived.Deep.RegionLaw
/-
  Contracts of the project's disk: New; and the statements' own page.
-/
namespace Go.Proofs.YtgmbiiocjhkpdaaGreat
open Go.RowKit
namespace Disk
open Num (hid bcells)

def tag0 (w : World) : Nat → Tag := upd (upd (fun _ => .other) w.heap.size .dir) (w.heap.size + 1) .root

theorem new_disk (w : World) (room : Int) {w2 : World} (ht : Turns w.heap.size (w.heap.size + 1) { (⟨0, 0, 0, 0, false, 0, 0⟩ : Ctl) with room := clamp room } ((w.alloc (.map #[] 0)).alloc (.cells (rootCells w.heap.size ⟨0, 0, 0, 0, false, 0, 0⟩) tDisk)) w2) :
    DiskAt (tag0 w) w2 (w.heap.size + 1) w.heap.size (Mod.new room).c [] ∧ Below w.heap.size w w2 := by
  have e1 : (w.alloc (.map #[] 0)).heap.size = w.heap.size + 1 := by simp
  have hown0 : Owns (w.alloc (.map #[] 0)) w.heap.size [] := World.ownsMap_made w Tryz.prog tStr RP
  have hc1 : Chg (fun _ => False) (w.alloc (.map #[] 0)) ((w.alloc (.map #[] 0)).alloc (.cells (rootCells w.heap.size ⟨0, 0, 0, 0, false, 0, 0⟩) tDisk)) := (Chg.refl _ _).alloc _
  have hown1 := hown0.kept hc1 (fun h => h)
  have hown2 := hown1.kept ht.2 (by omega)
  refine ⟨⟨⟨ht.1, upd_same _ _ _, ?_, ?_⟩, hown2, (fun e he => by cases he), Nat.zero_le _⟩, ?_⟩
  · show upd _ _ _ _ = _
    rw [upd_ne _ _ (by omega), upd_same]
  · exact ⟨by show 0 ≤ clamp room ∧ clamp room ≤ 16384; unfold clamp; omega, by simp [Mod.new], by simp [Mod.new], fun _ => ⟨rfl, rfl⟩, fun h => absurd rfl h⟩
  · have hc0 : Chg (fun k => k = w.heap.size + 1) w w2 := (((Chg.refl _ w).alloc _).alloc _).trans ht.2
    exact hc0.below (Nat.le_refl _) (fun k hk => by omega)

set_option maxRecDepth 100000 in
theorem new_any (room : Int) (w : World) :
    Calls Tryz.prog 8 #[.int .i64 room] w fun e w' => e = .returned (ptr (w.heap.size + 1)) ∧ DiskAt (tag0 w) w' (w.heap.size + 1) w.heap.size (Mod.new room).c [] ∧ Below w.heap.size w w' := by
  have hmk := run_makeMap (P := Tryz.prog) tMap w
  have hbl := blk_new (w.alloc (.map #[] 0)) (.cells (rootCells w.heap.size ⟨0, 0, 0, 0, false, 0, 0⟩) tDisk)
  have e1 : (w.alloc (.map #[] 0)).heap.size = w.heap.size + 1 := by simp
  rw [e1] at hbl
  have HB := hid hbl
  clear e1 hbl
  go_enter Tryz.func8, Tryz.ntmps8
  go_wp2_with fail
  refine (room_any (w.heap.size + 1) w.heap.size ⟨0, 0, 0, 0, false, 0, 0⟩ room _ HB.out).mono ?_
  rintro e w2 ⟨rfl, ht⟩
  have HT := hid ht
  clear ht
  go_wp2
  go_ret
  obtain ⟨h1, h2⟩ := new_disk w room HT.out
  exact ⟨rfl, h1, h2⟩

/-! ### a row of one byte -/
def fill (b : UInt8) (k n : Nat) : List UInt8 := List.replicate k b ++ List.replicate (n - k) 0
theorem fill_len (b : UInt8) (k n : Nat) (h : k ≤ n) : (fill b k n).length = n := by simp [fill]; omega
theorem fill_zero (b : UInt8) (n : Nat) : fill b 0 n = List.replicate n 0 := by simp [fill]
theorem fill_all (b : UInt8) (n : Nat) : fill b n n = List.replicate n b := by simp [fill]
theorem fill_set (b : UInt8) (k n : Nat) (h : k < n) : (bcells (fill b k n)).set k (.int .u8 (b.toNat : Int)) = bcells (fill b (k + 1) n) := by
  unfold bcells fill
  rw [← List.map_set (f := fun b : UInt8 => Value.int .u8 (b.toNat : Int)) (a := b)]
  congr 1
  rw [List.set_append_right _ _ (by simp), List.length_replicate, Nat.sub_self, show n - k = (n - (k + 1)) + 1 by omega, List.replicate_succ, List.set_cons_zero, List.replicate_succ', List.append_assoc]
  rfl
theorem made_zeros (n : Nat) : (madeCells (Value.int IntKind.u8 0).cells (n * 1)).toList = bcells (List.replicate n 0) := by
  have hc : (Value.int IntKind.u8 0).cells = #[.int .u8 0] := rfl
  rw [hc]
  apply List.ext_getElem
  · rw [Array.length_toList, size_madeCells, Num.bcells_len, List.length_replicate]; omega
  · intro i h1 h2
    simp [madeCells, bcells, Nat.mod_one]
/-- string(b) of a row that is there. -/
theorem conv_row {w : World} {base g n : Nat} {l : List UInt8} (hn : n = l.length) (h : w.ownsRow base 5 1 (.slice (some ⟨g, 0, none⟩) n n) n (bcells l)) :
    (convert 99 tStr (.slice (some ⟨g, 0, none⟩) n n)).run Tryz.prog w = .ok (.string ⟨l.toArray⟩) w := by
  subst hn
  exact run_convert_bytes_back w 99 tStr 5 ⟨g, 0, none⟩ l.length l Tryz.underlying99 Tryz.underlying5 Tryz.underlying9 fun j hj => h.cells (g := g) rfl j (.int .u8 (l[j].toNat : Int)) (by simp [bcells, hj])
theorem byteInfo : ∃ i, Tryz.prog.info? 5 = some i ∧ i.zero = some (.int .u8 0) ∧ i.size = 1 ∧ i.bytes = 1 := by
  have h : (Tryz.prog.info? 5).map (fun i => (i.zero, i.size, i.bytes)) = some (some (.int .u8 0), 1, 1) := by kernel_rfl
  cases e : Tryz.prog.info? 5 with
  | none => rw [e] at h; cases h
  | some i =>
    rw [e] at h
    simp only [Option.map_some, Option.some.injEq, Prod.mk.injEq] at h
    exact ⟨i, rfl, h.1, h.2.1, h.2.2⟩
theorem make_row (w : World) (n : Nat) (hn : n ≤ 1000000) : ∃ w', (Instr.makeSlice 99 (.int .i64 (n : Int)) (.int .i64 (n : Int))).run Tryz.prog w = .ok (.slice (some ⟨w.heap.size, 0, none⟩) n n) w' ∧
    w'.ownsRow w.heap.size 5 1 (.slice (some ⟨w.heap.size, 0, none⟩) n n) n (bcells (List.replicate n 0)) ∧ Below w.heap.size w w' := by
  obtain ⟨i, hi, h0, h1, h2⟩ := byteInfo
  obtain ⟨w', hr, ho, hg⟩ := run_make_full (P := Tryz.prog) w w.heap.size 99 5 i _ 1 Tryz.underlying99 hi h0 h1 .i64 .i64 n (by rw [h2]; omega) (by unfold maxLen; omega) (Nat.le_refl _)
  rw [made_zeros] at ho
  exact ⟨w', hr, ho, (Below.refl _ w).grown hg (Nat.le_refl _) (fun k hk => by cases hk)⟩

def pageL (b : UInt8) : List UInt8 := List.replicate 256 b
/-- The first k bytes of a row are filled. -/
def Filled (w : World) (g n : Nat) (b : UInt8) (k : Nat) (wr : World) : Prop := wr.ownsRow w.heap.size 5 1 (.slice (some ⟨g, 0, none⟩) n n) n (bcells (fill b k n)) ∧ Below w.heap.size w wr
theorem Filled.step {w wr : World} {g n : Nat} {b : UInt8} {k : Nat} (h : Filled w g n b k wr) (hk : k < n) : Filled w g n b (k + 1) (wr.setCell ⟨g, k, none⟩ (.int .u8 (b.toNat : Int))) := by
  have h1 := (World.ownsRow.stored h.1 k (.int .u8 (b.toNat : Int))).1
  rw [fill_set b k n hk] at h1
  exact ⟨h1, h.2.setCell (p := ⟨g, k, none⟩) ((h.1.lt g rfl).1) _⟩
theorem Filled.cell {w wr : World} {g n : Nat} {b : UInt8} {k : Nat} (h : Filled w g n b k wr) (hk : k < n) : ∃ x, wr.cell? ⟨g, k, none⟩ = some x ∧ wr.frozen? ⟨g, k, none⟩ = false := by
  have hl : k < (bcells (fill b k n)).length := by rw [Num.bcells_len, fill_len b k n (by omega)]; exact hk
  exact ⟨_, (World.ownsRow.cellAt h.1 k (by omega)).trans (List.getElem?_eq_getElem hl), World.ownsRow.frozenAt h.1 k⟩

end Disk
end Go.Proofs.YtgmbiiocjhkpdaaGreat

/-
  A disk of the call's own, in short: what it is, from a block on.
-/
namespace Go.Proofs.YtgmbiiocjhkpdaaGreat
open Go.RowKit
namespace Disk
open Num (hid bcells)

/-- From block N on, the disk at d is M. -/
def Has (N d m : Nat) (M : Mod) (w : World) : Prop := ∃ tag L, DiskAt tag w d m M.c L ∧ dirOf L = M.fs ∧ (∀ k, k < N → tag k = .other) ∧ N ≤ w.heap.size

theorem Has.of_out {N d m : Nat} {tag : Nat → Tag} {M : Mod} {w w' : World} (h : Out tag d m M w w') (ht : ∀ k, k < N → tag k = .other) (hN : N ≤ w.heap.size) : Has N d m M w' ∧ Below N w w' := by
  obtain ⟨tag', L', h1, h2, h3, h4⟩ := h
  refine ⟨⟨tag', L', h1, h2, fun k hk => (h3 k (by omega)).trans (ht k hk), Nat.le_trans hN h4.size⟩, h4.below hN ?_⟩
  intro k hk hm
  exact hm.1 (ht k hk)
theorem Has.turned {N d m : Nat} {M : Mod} {w w' : World} {c' : Ctl} (h : Has N d m M w) (ht : Turns m d c' w w') (ok : M.c.Ok → c'.Ok) : Has N d m ⟨c', M.fs⟩ w' ∧ Below N w w' := by
  obtain ⟨tag, L, D, hL, hN, hs⟩ := h
  have := Out.same (D.turned ht (ok D.root.ok)) ht.2
  rw [hL] at this
  exact Has.of_out this hN hs
theorem Has.kept {N d m : Nat} {M : Mod} {w w' : World} (h : Has N d m M w) (hb : Below w.heap.size w w') : Has N d m M w' := by
  obtain ⟨tag, L, D, hL, hN, hs⟩ := h
  exact ⟨tag, L, D.kept (F := fun _ => False) (Chg.of_below hb) (fun _ _ => rfl) (fun _ h => h.elim), hL, hN, Nat.le_trans hs hb.size⟩
theorem Has.d_ge {N d m : Nat} {M : Mod} {w : World} (h : Has N d m M w) : N ≤ d := by
  obtain ⟨tag, L, D, hL, hN, hs⟩ := h
  rcases Nat.lt_or_ge d N with h | h
  · have := hN d h; rw [D.root.tagd] at this; cases this
  · exact h

section
variable {N d m : Nat} {M : Mod} {w : World}

theorem new_has (room : Int) (w : World) :
    Calls Tryz.prog 8 #[.int .i64 room] w fun e w' => e = .returned (ptr (w.heap.size + 1)) ∧ Has w.heap.size (w.heap.size + 1) w.heap.size (Mod.new room) w' ∧ Below w.heap.size w w' := by
  refine (new_any room w).mono ?_
  rintro e w' ⟨rfl, D, hb⟩
  refine ⟨rfl, ⟨tag0 w, [], D, rfl, fun k hk => ?_, hb.size⟩, hb⟩
  unfold tag0
  rw [upd_ne _ _ (by omega), upd_ne _ _ (by omega)]

theorem write_has (h : Has N d m M w) (s : ByteArray) (hs : s.size ≤ maxLen) (i : Int) (l : ByteArray) (hl : l.size ≤ maxLen) :
    Calls Tryz.prog 56 #[ptr d, .string s, .int .i64 i, .string l] w fun e w' => e = .returned (.int .i64 (M.write s.data.toList i l.data.toList).1) ∧ Has N d m (M.write s.data.toList i l.data.toList).2 w' ∧ Below N w w' := by
  obtain ⟨tag, L, D, hL, hN, hz⟩ := h
  refine (write_any tag w d m M.c L D s hs i l hl).mono ?_
  rintro e w' ⟨rfl, ho⟩
  rw [hL] at ho ⊢
  exact ⟨rfl, Has.of_out ho hN hz⟩
theorem sync_has (h : Has N d m M w) (s : ByteArray) (hs : s.size ≤ maxLen) :
    Calls Tryz.prog 65 #[ptr d, .string s] w fun e w' => e = .returned (.int .i64 (M.sync s.data.toList).1) ∧ Has N d m (M.sync s.data.toList).2 w' ∧ Below N w w' := by
  obtain ⟨tag, L, D, hL, hN, hz⟩ := h
  refine (sync_any tag w d m M.c L D s hs).mono ?_
  rintro e w' ⟨rfl, ho⟩
  rw [hL] at ho ⊢
  exact ⟨rfl, Has.of_out ho hN hz⟩
theorem cut_has (h : Has N d m M w) (s : ByteArray) (hs : s.size ≤ maxLen) (i : Int) :
    Calls Tryz.prog 69 #[ptr d, .string s, .int .i64 i] w fun e w' => e = .returned (.int .i64 (M.cut s.data.toList i).1) ∧ Has N d m (M.cut s.data.toList i).2 w' ∧ Below N w w' := by
  obtain ⟨tag, L, D, hL, hN, hz⟩ := h
  refine (cut_any tag w d m M.c L D s hs i).mono ?_
  rintro e w' ⟨rfl, ho⟩
  rw [hL] at ho ⊢
  exact ⟨rfl, Has.of_out ho hN hz⟩
theorem drop_has (h : Has N d m M w) (s : ByteArray) (hs : s.size ≤ maxLen) :
    Calls Tryz.prog 71 #[ptr d, .string s] w fun e w' => e = .returned (.int .i64 (M.drop s.data.toList).1) ∧ Has N d m (M.drop s.data.toList).2 w' ∧ Below N w w' := by
  obtain ⟨tag, L, D, hL, hN, hz⟩ := h
  refine (drop_any tag w d m M.c L D s hs).mono ?_
  rintro e w' ⟨rfl, ho⟩
  rw [hL] at ho ⊢
  exact ⟨rfl, Has.of_out ho hN hz⟩
theorem read_has (h : Has N d m M w) (s : ByteArray) (hs : s.size ≤ maxLen) (i : Int) (hi : i ≤ 9223372036854775807) :
    Calls Tryz.prog 67 #[ptr d, .string s, .int .i64 i] w fun e w' => e = .returned (.tuple #[.string ⟨(M.read s.data.toList i).1.toArray⟩, .int .i64 (M.read s.data.toList i).2.1]) ∧ Has N d m (M.read s.data.toList i).2.2 w' ∧ Below N w w' := by
  obtain ⟨tag, L, D, hL, hN, hz⟩ := h
  refine (read_any tag w d m M.c L D s hs i hi).mono ?_
  rintro e w' ⟨rfl, ho⟩
  rw [hL] at ho ⊢
  exact ⟨rfl, Has.of_out ho hN hz⟩
theorem off_has (h : Has N d m M w) :
    Calls Tryz.prog 25 #[ptr d] w fun e w' => e = .returned (.tuple #[]) ∧ Has N d m M.off w' ∧ Below N w w' := by
  have h0 := h
  obtain ⟨tag, L, D, hL, hN, hz⟩ := h
  refine (off_any d m M.c w D.root.blk).mono ?_
  rintro e w' ⟨rfl, ht⟩
  exact ⟨rfl, h0.turned ht (fun o => o.offed)⟩
theorem room_has (h : Has N d m M w) (n : Int) :
    Calls Tryz.prog 47 #[ptr d, .int .i64 n] w fun e w' => e = .returned (.tuple #[]) ∧ Has N d m (M.room n) w' ∧ Below N w w' := by
  have h0 := h
  obtain ⟨tag, L, D, hL, hN, hz⟩ := h
  refine (room_any d m M.c n w D.root.blk).mono ?_
  rintro e w' ⟨rfl, ht⟩
  exact ⟨rfl, h0.turned ht (fun o => o.roomed n)⟩
theorem arm_has (h : Has N d m M w) (a k n : Int) (ha : a ≤ 9223372036854775807) (hn : n ≤ 9223372036854775807) :
    Calls Tryz.prog 23 #[ptr d, .int .i64 a, .int .i64 k, .int .i64 n] w fun e w' => e = .returned (.tuple #[]) ∧ Has N d m (M.arm a k n) w' ∧ Below N w w' := by
  have h0 := h
  obtain ⟨tag, L, D, hL, hN, hz⟩ := h
  refine (arm_any d m M.c a k n w D.root.blk).mono ?_
  rintro e w' ⟨rfl, ht⟩
  exact ⟨rfl, h0.turned ht (fun o => o.armed a k n ha hn)⟩
theorem ops_has (h : Has N d m M w) : Calls Tryz.prog 34 #[ptr d] w fun e w' => e = .returned (.int .i64 M.c.ops) ∧ w = w' := by
  obtain ⟨tag, L, D, hL, hN, hz⟩ := h
  exact ops_any d m M.c w D.root.blk
theorem size_has (h : Has N d m M w) (s : ByteArray) (hs : s.size ≤ maxLen) : Calls Tryz.prog 38 #[ptr d, .string s] w fun e w' => e = .returned (.int .i64 (M.size s.data.toList)) ∧ w = w' := by
  obtain ⟨tag, L, D, hL, hN, hz⟩ := h
  refine (size_any tag w d m M.c L D s hs).mono ?_
  rintro e w' ⟨rfl, rfl⟩
  refine ⟨ret_i ?_, rfl⟩
  unfold sizeN Mod.size
  rw [← hL, dirOf_get]
  cases get? L s.data.toList <;> rfl

/-- 'd.On([]int{..})'. -/
theorem on_lit (h : Has N d m M w) (l : List Int) (hl : l.length ≤ maxLen) :
    Calls Tryz.prog 27 #[ptr d, .slice (some ⟨w.heap.size, 0, none⟩) l.length l.length] (w.alloc (.cells (l.map (Value.int .i64)).toArray 3)) fun e w' => e = .returned (.tuple #[]) ∧ Has N d m (M.on l) w' ∧ Below N w w' := by
  obtain ⟨tag, L, D, hL, hN, hz⟩ := h
  have D1 := D.norm.alloc (.cells (l.map (Value.int .i64)).toArray 3)
  have hI : IntsAt (w.alloc (.cells (l.map (Value.int .i64)).toArray 3)) (.slice (some ⟨w.heap.size, 0, none⟩) l.length l.length) l := by
    refine Or.inr ⟨w.heap.size, 0, l.length, rfl, by simp, fun j hj => ?_⟩
    rw [Nat.zero_add, blk_cell (blk_new w (.cells (l.map (Value.int .i64)).toArray 3)) j]
    simp [hj]
  refine (on_any (norm tag w.heap.size) _ d m M.c L D1 _ l hI hl ?_).mono ?_
  · intro b o n cap e _
    cases e
    exact norm_ge tag (Nat.le_refl _)
  · rintro e w' ⟨rfl, ho⟩
    rw [hL] at ho
    have := Has.of_out (N := N) ho (fun k hk => (norm_lt tag (by omega)).trans (hN k hk)) (by simp; omega)
    exact ⟨rfl, this.1, (((Below.refl N w).alloc hz _)).trans this.2⟩
/-- 'd.On(fates)', the fates read from a slice that was there before the disk. -/
theorem on_has (h : Has N d m M w) (fv : Value) (l : List Int) (hI : IntsAt w fv l) (hl : l.length ≤ maxLen) (hv : ∀ b o n cap, fv = .slice (some ⟨b, o, none⟩) n cap → n ≠ 0 → b < N) :
    Calls Tryz.prog 27 #[ptr d, fv] w fun e w' => e = .returned (.tuple #[]) ∧ Has N d m (M.on l) w' ∧ Below N w w' := by
  obtain ⟨tag, L, D, hL, hN, hz⟩ := h
  refine (on_any tag _ d m M.c L D _ l hI hl (fun b o n cap e hn => hN b (hv b o n cap e hn))).mono ?_
  rintro e w' ⟨rfl, ho⟩
  rw [hL] at ho
  have := Has.of_out (N := N) ho hN hz
  exact ⟨rfl, this⟩
end

end Disk
end Go.Proofs.YtgmbiiocjhkpdaaGreat

/-
  Contract of the project's disk: Bytes.
-/
namespace Go.Proofs.YtgmbiiocjhkpdaaGreat
open Go.RowKit
namespace Disk
open Num (hid bcells)

/-- The bytes of the first k places. -/
def bytesTo (F : Fil) (k : Nat) : List UInt8 := (F.ps.take k).flatMap fun p => p.now.getD zeros
def BytesAt (w : World) (F : Fil) (k : Nat) (v : Value) (wr : World) : Prop := wr.ownsRow w.heap.size 5 1 v (bytesTo F k).length (bcells (bytesTo F k)) ∧ Below w.heap.size w wr ∧ v ≠ .slice none 0 0

theorem make_room (w : World) (n : Nat) (hn : n ≤ 100000000) : ∃ w', (Instr.makeSlice 99 (.int .i64 0) (.int .i64 (n : Int))).run Tryz.prog w = .ok (.slice (some ⟨w.heap.size, 0, none⟩) 0 n) w' ∧
    w'.ownsRow w.heap.size 5 1 (.slice (some ⟨w.heap.size, 0, none⟩) 0 n) 0 [] ∧ Below w.heap.size w w' := by
  obtain ⟨i, hi, h0, h1, h2⟩ := byteInfo
  have hr := run_make (P := Tryz.prog) w 99 5 i _ Tryz.underlying99 hi h0 .i64 .i64 0 n (by omega) (by omega) (by rw [h2]; omega) (by omega)
  simp only [Int.toNat_natCast, Int.toNat_zero] at hr
  refine ⟨_, hr, ?_, (Below.refl _ w).alloc (Nat.le_refl _) _⟩
  rw [h1]
  exact World.ownsRow_made w _ n (Nat.le_refl _) (by unfold maxLen; omega) (by rw [size_madeCells])
/-- 'append(out, sector...)'. -/
theorem append_sector {w : World} {base : Nat} {v : Value} {l s : List UInt8} (hown : w.ownsRow base 5 1 v l.length (bcells l)) (hb : base ≤ w.heap.size) {nb : Nat} (hs : s.length = 256) (hc : ∀ j (h : j < s.length), w.cell? ⟨nb, j, none⟩ = some (.int .u8 (s[j].toNat : Int)))
    (hl : l.length ≤ 100000000) :
    ∃ v' w', (Builtin.append_ #[99, 99] 99 #[v, .slice (some ⟨nb, 0, none⟩) 256 256]).run Tryz.prog w = .ok v' w' ∧ w'.ownsRow base 5 1 v' (l ++ s).length (bcells (l ++ s)) ∧ w.grownBy w' v.ownBlock ∧ v' ≠ .slice none 0 0 := by
  obtain ⟨i, hi, h0, h1, h2⟩ := byteInfo
  obtain ⟨v', w', hr, ho, hg, hnil⟩ := run_append_own (P := Tryz.prog) w base 99 99 5 i _ 1 1 Tryz.underlying99 hi h0 h1 h2 rfl (by decide) v l.length (bcells l) hown ⟨nb, 0, none⟩ 256 256 (bcells s) (by rw [Num.bcells_len, hs]) (by
    intro j u hj
    have hjl : j < s.length := by have := (List.getElem?_eq_some_iff.1 hj).1; rw [Num.bcells_len] at this; exact this
    rw [show (⟨nb, 0, none⟩ : Addr).add j = ⟨nb, j, none⟩ from by simp [Addr.add]; omega, hc j hjl]
    unfold bcells at hj
    rw [List.getElem?_map, List.getElem?_eq_getElem hjl] at hj
    exact hj) (by intro u hu; unfold bcells at hu; obtain ⟨b, _, rfl⟩ := List.mem_map.1 hu; rfl) (by unfold maxLen; omega) (by omega) hb
  refine ⟨v', w', hr, ?_, hg, fun e => by have := (hnil.1 e).2; omega⟩
  have e : bcells (l ++ s) = bcells l ++ bcells s := by unfold bcells; rw [List.map_append]
  rw [e, List.length_append, hs]
  exact ho

theorem bytesTo_len (F : Fil) (h : ∀ p ∈ F.ps, (p.now.getD zeros).length = 256) : ∀ k, k ≤ F.ps.length → (bytesTo F k).length = 256 * k
  | 0, _ => rfl
  | k + 1, hk => by
    have ih := bytesTo_len F h k (by omega)
    unfold bytesTo at ih ⊢
    rw [List.take_succ_eq_append_getElem (by omega), List.flatMap_append, List.length_append, ih]
    simp only [List.flatMap_cons, List.flatMap_nil, List.append_nil, h _ (List.getElem_mem _)]
    omega
theorem bytesTo_next (F : Fil) (k : Nat) (hk : k < F.ps.length) : bytesTo F (k + 1) = bytesTo F k ++ F.ps[k].now.getD zeros := by
  unfold bytesTo
  rw [List.take_succ_eq_append_getElem hk, List.flatMap_append]
  simp

/-- A round: the place is boxed, its sector's bytes are appended. -/
theorem bytes_round {tag : Nat → Tag} {w wr : World} {n : Nam} {f : Nat} {F : Fil} {v : Value} {Q : Pls} (h : FileAt tag w n f F v Q) {k : Nat} (hk : k < Q.length) {o : Value} (hB : BytesAt w F k o wr) (bx : Array Value) :
    ∃ v' w', (Builtin.append_ #[99, 99] 99 #[o, .slice (some ⟨Q[k].1.now, 0, none⟩) 256 256]).run Tryz.prog (wr.alloc (.cells bx tPlace)) = .ok v' w' ∧ BytesAt w F (k + 1) v' w' := by
  obtain ⟨hrow, hbel, -⟩ := hB
  have hps : F.ps.length = Q.length := by rw [h.ps, List.length_map]
  have hpk : F.ps[k]'(by omega) = Q[k].2 := by simp [h.ps]
  have hp := h.pls Q[k] (List.getElem_mem hk)
  have hall : ∀ p ∈ F.ps, (p.now.getD zeros).length = 256 := by
    intro p hp
    rw [h.ps] at hp
    obtain ⟨x, hx, rfl⟩ := List.mem_map.1 hp
    exact (h.pls x hx).now.len
  have hlen := bytesTo_len F hall k (by omega)
  have hq := h.len
  have hs2 := lt_of_block hp.now.blk
  obtain ⟨-, hcells⟩ := sec_cells hp.now
  obtain ⟨v', w', hr, ho, hg, hne⟩ := append_sector (w := wr.alloc (.cells bx tPlace)) (hrow.alloc _) (by have := hbel.size; simp; omega) (nb := Q[k].1.now) (s := Q[k].2.now.getD zeros) hp.now.len (fun j hj => by
    refine (alloc_cell (Nat.lt_of_lt_of_le hs2 hbel.size) _).trans ?_
    exact (hbel.cell (p := ⟨Q[k].1.now, j, none⟩) hs2).trans (hcells j hj)) (by omega)
  refine ⟨v', w', hr, ?_, ?_, hne⟩
  · rw [bytesTo_next F k (by omega), hpk]; exact ho
  · exact (hbel.alloc hbel.size _).grown hg (by have := hbel.size; simp; omega) (fun j hj => (hrow.lt j hj).1)

theorem conv_any {w : World} {base : Nat} {v : Value} {l : List UInt8} (h : w.ownsRow base 5 1 v l.length (bcells l)) (hne : v ≠ .slice none 0 0) : (convert 99 tStr v).run Tryz.prog w = .ok (.string ⟨l.toArray⟩) w := by
  by_cases hl : 1 ≤ l.length
  · exact Num.conv_own 99 tStr 5 Tryz.underlying99 Tryz.underlying5 Tryz.underlying9 rfl hl h
  · obtain rfl : l = [] := List.eq_nil_of_length_eq_zero (by omega)
    rcases h.2 with ⟨e, _⟩ | ⟨g, cap, cur, rfl, _⟩
    · exact absurd e hne
    · exact run_convert_bytes_back w 99 tStr 5 ⟨g, 0, none⟩ cap [] Tryz.underlying99 Tryz.underlying5 Tryz.underlying9 fun j hj => absurd hj (Nat.not_lt_zero _)

theorem ret_str {a b : List UInt8} (h : a = b) : Ending.returned (.string ⟨a.toArray⟩) = .returned (.string ⟨b.toArray⟩) := by rw [h]
set_option maxRecDepth 100000 in
set_option maxHeartbeats 2000000 in
theorem fbytes_any (tag : Nat → Tag) (w : World) (n : Nam) (f : Nat) (F : Fil) (v : Value) (Q : Pls) (h : FileAt tag w n f F v Q) :
    Calls Tryz.prog 79 #[ptr f] w fun e w' => e = .returned (.string ⟨F.bytes.toArray⟩) ∧ Below w.heap.size w w' := by
  have c0 : w.cell? ⟨f, 0, none⟩ = some v := blk_cell h.blk 0
  have hlen := h.len
  have hfl := lt_of_block h.blk
  have hps : F.ps.length = Q.length := by rw [h.ps, List.length_map]
  have hall : bytesTo F Q.length = F.bytes := by unfold bytesTo Fil.bytes; rw [List.take_of_length_le (by omega)]
  obtain ⟨w1, hmk, hrow1, hb1⟩ := make_room w (Q.length * 256) (by omega)
  have hB0 : BytesAt w F 0 (.slice (some ⟨w.heap.size, 0, none⟩) 0 (Q.length * 256)) w1 := ⟨hrow1, hb1, by simp⟩
  have HB0 := hid hB0
  have HH := hid h
  have HALL := hid hall
  have d0 := (hb1.cell (p := ⟨f, 0, none⟩) hfl).trans c0
  have hrow := row_len h.row
  clear h hps hall hrow1 hb1 hB0
  rcases hrow with ⟨rfl, rfl⟩ | ⟨g, cap, rfl, hn0, hm0⟩
  · have hmk2 : (Instr.makeSlice 99 (.int .i64 0) (.int .i64 0)).run Tryz.prog w = .ok (.slice (some ⟨w.heap.size, 0, none⟩) 0 0) w1 := hmk
    clear hmk
    go_enter Tryz.func79, Tryz.ntmps79
    go_wp2
    go_loopw [3, 18] (fun o i wr => i = .int .i64 0 ∧ BytesAt w F 0 o wr) (fun _ _ _ => 0)
    case atStart => exact ⟨rfl, HB0.out⟩
    case round =>
      obtain ⟨rfl, hB⟩ := hrel
      have hcv := conv_any hB.1 hB.2.2
      have HB := hid hB
      clear hB
      go_wp2
      go_ret
      exact ⟨ret_str HALL.out, HB.out.2.1⟩
  · have hmk2 : (Instr.makeSlice 99 (.int .i64 0) (.int .i64 ((Q.length : Int) * 256))).run Tryz.prog w = .ok (.slice (some ⟨w.heap.size, 0, none⟩) 0 (Q.length * 256)) w1 := by rw [← hmk]; rfl
    clear hmk
    go_enter Tryz.func79, Tryz.ntmps79
    go_wp2
    go_loopw [3, 18] (fun o i wr => ∃ k : Nat, k ≤ Q.length ∧ i = .int .i64 k ∧ BytesAt w F k o wr) (fun _ i _ => Q.length - (intOf i).toNat)
    case atStart => exact ⟨0, Nat.zero_le _, rfl, HB0.out⟩
    case round =>
      obtain ⟨k, hk, rfl, hB⟩ := hrel
      by_cases hlt : k < Q.length
      · have hpc := place_cells (i := k) HH.out.row hlt rfl
        obtain ⟨q0, q1, q2, -, -, -⟩ := hpc
        have hgl := (HH.out.row.lt g rfl).2
        have k0 := (hB.2.1.cell (p := ⟨g, k * 3, none⟩) hgl).trans q0
        have k1 := (hB.2.1.cell (p := ⟨g, k * 3 + 1, none⟩) hgl).trans q1
        have k2 := (hB.2.1.cell (p := ⟨g, k * 3 + 2, none⟩) hgl).trans q2
        obtain ⟨v', w', hr, hB'⟩ := bytes_round HH.out hlt hB #[ptr Q[k].1.now, ptrO Q[k].1.safe, .bool Q[k].1.waits]
        have HB' := hid hB'
        clear q0 q1 q2 hB hB'
        cases hs : Q[k].1.safe with
        | none =>
          rw [hs] at k1 hr
          have k1' : _ = some (Value.pointer none) := k1
          have hr' : (Builtin.append_ #[99, 99] 99 #[u3, .slice (some ⟨Q[k].1.now, 0, none⟩) 256 256]).run Tryz.prog (wr.alloc (.cells #[ptr Q[k].1.now, Value.pointer none, .bool Q[k].1.waits] tPlace)) = .ok v' w' := hr
          clear hs k1 hr
          go_wp2_with (first | (at_builtin; refine wpList_append_run rfl _ _ _ _ rfl _ _ rfl rfl hr' ?_) | go_in)
          go_roundw
          case rel => exact ⟨k + 1, by omega, by go_num, HB'.out⟩
          case measure => simp [intOf]; omega
        | some b =>
          rw [hs] at k1 hr
          have k1' : _ = some (Value.pointer (some ⟨b, 0, none⟩)) := k1
          have hr' : (Builtin.append_ #[99, 99] 99 #[u3, .slice (some ⟨Q[k].1.now, 0, none⟩) 256 256]).run Tryz.prog (wr.alloc (.cells #[ptr Q[k].1.now, Value.pointer (some ⟨b, 0, none⟩), .bool Q[k].1.waits] tPlace)) = .ok v' w' := hr
          clear hs k1 hr
          go_wp2_with (first | (at_builtin; refine wpList_append_run rfl _ _ _ _ rfl _ _ rfl rfl hr' ?_) | go_in)
          go_roundw
          case rel => exact ⟨k + 1, by omega, by go_num, HB'.out⟩
          case measure => simp [intOf]; omega
      · obtain rfl : k = Q.length := by omega
        have hcv := conv_any hB.1 hB.2.2
        have HB := hid hB
        clear hB
        go_wp2
        go_ret
        exact ⟨ret_str HALL.out, HB.out.2.1⟩

set_option maxRecDepth 100000 in
theorem bytes_any (tag : Nat → Tag) (w : World) (d m : Nat) (c : Ctl) (L : Ents) (D : DiskAt tag w d m c L) (s : ByteArray) (hs : s.size ≤ maxLen) :
    Calls Tryz.prog 36 #[ptr d, .string s] w fun e w' => e = .returned (.string ⟨(Mod.bytes ⟨c, dirOf L⟩ s.data.toList).toArray⟩) ∧ Below w.heap.size w w' := by
  obtain ⟨c0, -, -, -, -, -, -, -⟩ := root_cells D.root.blk
  have hl := D.owns.look s hs
  cases hg : get? L s.data.toList with
  | none =>
    have e : Mod.bytes ⟨c, dirOf L⟩ s.data.toList = [] := by unfold Mod.bytes; rw [dirOf_get, hg]; rfl
    rw [hg] at hl
    have hl2 : _ = Result.ok (Value.pointer none) w := hl
    have HE := hid e
    clear hl hg D e
    go_enter Tryz.func36, Tryz.ntmps36
    go_wp2
    go_ret
    exact ⟨ret_str (a := []) HE.out.symm, Below.refl _ _⟩
  | some x =>
    obtain ⟨b, F⟩ := x
    obtain ⟨v, Q, hf⟩ := D.file hg
    have e : Mod.bytes ⟨c, dirOf L⟩ s.data.toList = F.bytes := by unfold Mod.bytes; rw [dirOf_get, hg]; rfl
    rw [hg] at hl
    have hl2 : _ = Result.ok (Value.pointer (some ⟨b, 0, none⟩)) w := hl
    have HE := hid e
    have HF := hid hf
    clear hl hg D e hf
    go_enter Tryz.func36, Tryz.ntmps36
    go_wp2_with fail
    refine (fbytes_any tag _ s.data.toList b F v Q HF.out).mono ?_
    rintro e w1 ⟨rfl, hb⟩
    have HB := hid hb
    clear hb
    go_wp2
    go_ret
    exact ⟨ret_str HE.out.symm, HB.out⟩
theorem bytes_has {N d m : Nat} {M : Mod} {w : World} (h : Has N d m M w) (s : ByteArray) (hs : s.size ≤ maxLen) :
    Calls Tryz.prog 36 #[ptr d, .string s] w fun e w' => e = .returned (.string ⟨(M.bytes s.data.toList).toArray⟩) ∧ Below w.heap.size w w' := by
  obtain ⟨tag, L, D, hL, hN, hz⟩ := h
  refine (bytes_any tag w d m M.c L D s hs).mono ?_
  rintro e w' ⟨rfl, hb⟩
  rw [hL]
  exact ⟨rfl, hb⟩

end Disk
end Go.Proofs.YtgmbiiocjhkpdaaGreat

/-
  Contract of the project's disk: Load.
-/
namespace Go.Proofs.YtgmbiiocjhkpdaaGreat
open Go.RowKit
namespace Disk
open Num (hid bcells)

/-- 'append' as one step of a region that draws its order, where its run is known by an equation. -/
theorem step_append_run {P : Program} {ops : Array Oper} {o : Oper} {a : Act} {w : World} {K : Act → World → Prop} {Q : Exit → Act → World → Prop} {E : Prop} (hgd : o.guard = none) (d s : Operand) (t t' : TypeId)
    (ho : o.op = .call { callee := .builtin .append, args := #[d, s], argTypes := #[t, t'] }) (v u : Value) (hd : a.eval d = v) (hs : a.eval s = u) {v' : Value} {w' : World}
    (hr : (Builtin.append_ #[t, t'] o.type #[v, u]).run P w = .ok v' w') (h : K (a.put o.dst v') w') : if Region.wanted o (yielded ops a.tmps) = true then Oper.wp P o a w K Q else E := by
  have hw : Region.wanted o (yielded ops a.tmps) = true := by simp [Region.wanted, hgd]
  rw [if_pos hw]
  unfold Oper.wp execOp
  simp only [ho, resolve, invoke, builtin, Sem.run_bind, Sem.run_pure, Result.andThen_ok, List.map_toArray, List.map_cons, List.map_nil, hd, hs, hr]
  exact h

set_option maxRecDepth 100000 in
theorem holds_blk (a b : Nat) (x y z : Value) (w : World) (h : w.heap[a]? = some (.cells #[x, y, z] tPlace (0, 0))) :
    Calls Tryz.prog 113 #[ptr a, ptr b] w fun e w' => e = .returned (.tuple #[]) ∧ w'.heap[a]? = some (.cells #[ptr b, ptr b, .bool false] tPlace (0, 0)) ∧ Chg (· = a) w w' := by
  have c0 : w.cell? ⟨a, 0, none⟩ = some x := blk_cell h 0
  have c1 : w.cell? ⟨a, 0 + 1, none⟩ = some y := blk_cell h 1
  have c2 : w.cell? ⟨a, 0 + 2, none⟩ = some z := blk_cell h 2
  refine (holds_any a 0 b x y z w c0 c1 c2 (blk_free h _) (blk_free h _) (blk_free h _)).mono ?_
  rintro e w' ⟨rfl, rfl⟩
  exact ⟨rfl, blk_set (blk_set (blk_set h 0 (ptr b)) 1 (ptr b)) 2 (.bool false), (((Chg.refl _ w).root 0 _).root 1 _).root 2 _⟩

/-- The first k sectors are there. -/
def LoadAt (tag : Nat → Tag) (w : World) (n : Nam) (l : List UInt8) (k : Nat) (wr : World) : Prop :=
  ∃ tag' v Q, FileAt tag' wr n w.heap.size ⟨(loadedF l).ps.take k, true⟩ v Q ∧ (∀ i, i < w.heap.size → tag' i = tag i) ∧ Below w.heap.size w wr ∧ ∀ g, v.ownBlock = some g → w.heap.size ≤ g
theorem loaded_len (l : List UInt8) : (loadedF l).ps.length = (l.length + 255) / 256 := by simp [loadedF]
theorem loaded_get (l : List UInt8) (k : Nat) (hk : k < (loadedF l).ps.length) : (loadedF l).ps[k] = ⟨some (fitted (l.drop (k * 256))), some (some (fitted (l.drop (k * 256)))), false⟩ := by simp [loadedF]

/-- A round, behind its last store. -/
theorem load_step {tag : Nat → Tag} {w wr w5 w6 : World} {n : Nam} {l : List UInt8} {k : Nat} {tag' : Nat → Tag} {v : Value} {Q : Pls} (h : FileAt tag' wr n w.heap.size ⟨(loadedF l).ps.take k, true⟩ v Q) (ht : ∀ i, i < w.heap.size → tag' i = tag i) (hb : Below w.heap.size w wr) (hrg : ∀ g, v.ownBlock = some g → w.heap.size ≤ g)
    (hk : k < (loadedF l).ps.length) (hl : (loadedF l).ps.length ≤ 16384) {b : Nat} (hbw : wr.heap.size ≤ b)
    (hsec : w5.heap[b]? = some (.cells (secCells (some (fitted (l.drop (k * 256))))) tSector (0, 0))) (hc5 : Chg (fun _ => False) wr w5) {v' : Value}
    (hrow : w6.ownsRow 0 tPlace 3 v' (Q.length + 1) (Pls.cells Q ++ [ptr b, ptr b, .bool false])) (hg : w5.grownBy w6 v.ownBlock) (hw : ∀ g, v'.ownBlock = some g → v.ownBlock = some g ∨ w5.heap.size ≤ g) :
    LoadAt tag w n l (k + 1) (w6.setCell ⟨w.heap.size, 0, none⟩ v') := by
  have hf := lt_of_block h.blk
  have hb5 := lt_of_block hsec
  have hvf : v.ownBlock ≠ some w.heap.size := fun e => by have h1 := h.tagb; rw [h.tagr _ e] at h1; cases h1
  have hvr : ∀ g, v.ownBlock = some g → g < wr.heap.size := fun g e => (h.row.lt g e).2
  have hs5 := hc5.size
  have hs6 := hg.size
  have hgr6 : ∀ g, v'.ownBlock = some g → g < w6.heap.size := fun g e => (hrow.lt g e).2
  let T : Nat → Tag := fun i => if i = b then .sec else if v'.ownBlock = some i then .row n else tag' i
  have hTb : T b = .sec := by simp [T]
  have hbv : ∀ g, v'.ownBlock = some g → g ≠ b := by
    rintro g e rfl
    rcases hw g e with e2 | e2
    · have := hvr g e2; omega
    · omega
  have hTr : ∀ g, v'.ownBlock = some g → T g = .row n := by
    intro g e
    simp only [T, if_neg (hbv g e), if_pos e]
  have hTo : ∀ i, i < wr.heap.size → T i = tag' i := by
    intro i hi
    have h1 : i ≠ b := by omega
    by_cases e : v'.ownBlock = some i
    · rw [hTr i e]
      rcases hw i e with e2 | e2
      · exact (h.tagr i e2).symm
      · omega
    · simp only [T, if_neg h1, if_neg e]
  have hF : ∀ i, (v.ownBlock = some i ∨ i = w.heap.size) → tag' i ≠ .sec := by
    rintro i (e | rfl) e2
    · rw [h.tagr i e] at e2; cases e2
    · rw [h.tagb] at e2; cases e2
  have hc6 : Chg (fun i => v.ownBlock = some i ∨ i = w.heap.size) wr (w6.setCell ⟨w.heap.size, 0, none⟩ v') :=
    Chg.setCell (F := fun i => v.ownBlock = some i ∨ i = w.heap.size) ((hc5.mono (fun _ _ h => h.elim)).grown hg (fun j hj => Or.inr (Or.inl hj))) (p := ⟨w.heap.size, 0, none⟩) (Or.inr (Or.inr rfl)) v'
  have hblk6 : w6.heap[w.heap.size]? = some (.cells #[v, .bool true] tFile (0, 0)) := (hg.block _ (by omega) (fun e => hvf e.symm)).trans (hc5.at h.blk (fun h => h))
  have hvne : v'.ownBlock ≠ some w.heap.size := by
    intro e
    rcases hw _ e with e2 | e2
    · exact hvf e2
    · omega
  have hsec6 : (w6.setCell ⟨w.heap.size, 0, none⟩ v').heap[b]? = some (.cells (secCells (some (fitted (l.drop (k * 256))))) tSector (0, 0)) :=
    blk_other (p := ⟨w.heap.size, 0, none⟩) ((hg.block b hb5 (fun e => by have := hvr b e.symm; omega)).trans hsec) (show b ≠ w.heap.size by omega) _
  have hS : SecAt T (w6.setCell ⟨w.heap.size, 0, none⟩ v') b (some (fitted (l.drop (k * 256)))) := ⟨hTb, fitted_len _, hsec6⟩
  have hQl : Q.length = k := by
    have := congrArg List.length h.ps
    simp only [List.length_take, List.length_map] at this
    omega
  refine ⟨T, v', Q ++ [(⟨b, some b, false⟩, ⟨some (fitted (l.drop (k * 256))), some (some (fitted (l.drop (k * 256)))), false⟩)], ⟨blk_set hblk6 0 v', ?_, ?_, hTr, ?_, ?_, ?_⟩, fun i hi => (hTo i (by omega)).trans (ht i hi), ?_, ?_⟩
  · rw [hTo _ hf]; exact h.tagb
  · rw [List.length_append, Pls.cells_append]
    exact ownsRow_setCell_other hrow hvne _
  · intro x hx
    rcases List.mem_append.1 hx with hx | hx
    · exact (h.pls x hx).kept hc6 hTo hF
    · rw [List.mem_singleton.1 hx]
      exact ⟨hS, hS, rfl⟩
  · show (loadedF l).ps.take (k + 1) = _
    rw [List.take_succ_eq_append_getElem hk, List.map_append, loaded_get l k hk]
    have := h.ps
    simp only at this
    rw [this]; rfl
  · rw [List.length_append, hQl]; show k + 1 ≤ 16384; omega
  · refine ⟨hc6.os.trans hb.os, hc6.tape.trans hb.tape, hc6.output.trans hb.output, Nat.le_trans hb.size hc6.size, fun i hi => (hc6.block i (Nat.lt_of_lt_of_le hi hb.size) ?_).trans (hb.block i hi)⟩
    rintro (e | rfl)
    · have := hrg i e
      omega
    · omega

  · intro g e
    rcases hw g e with e2 | e2
    · exact hrg g e2
    · omega

theorem extract_drop (s : ByteArray) (a : Nat) : (s.extract a s.size).data.toList = s.data.toList.drop a := by
  have h : s.size = s.data.toList.length := rfl
  rw [ByteArray.data_extract, Array.toList_extract, List.extract_eq_take_drop, List.take_of_length_le (by rw [List.length_drop]; omega)]

/-- What a round has before its region. -/
theorem load_ready {tag : Nat → Tag} {w wr w2 : World} {n : Nam} {l : List UInt8} {k : Nat} {tag' : Nat → Tag} {v : Value} {Q : Pls} (h : FileAt tag' wr n w.heap.size ⟨(loadedF l).ps.take k, true⟩ v Q) (ht : ∀ i, i < w.heap.size → tag' i = tag i) (hb : Below w.heap.size w wr)
    (hrg : ∀ g, v.ownBlock = some g → w.heap.size ≤ g) (hk : k < (loadedF l).ps.length) (hl : (loadedF l).ps.length ≤ 16384)
    (hblk : w2.heap[wr.heap.size]? = some (.cells #[ptr (wr.heap.size + 1), ptr (wr.heap.size + 1), .bool false] tPlace (0, 0)))
    (hc : Chg (· = wr.heap.size) ((wr.alloc (.cells #[.pointer none, .pointer none, .bool false] tPlace)).alloc (.cells (secCells (some (fitted (l.drop (k * 256))))) tSector)) w2) :
    ∃ (g nn cap : Nat) (w6 : World), (Builtin.append_ #[tPlaces, tPlaces] tPlaces #[v, .slice (some ⟨w2.heap.size, 0, none⟩) 1 1]).run Tryz.prog (w2.drew.alloc (.cells #[ptr (wr.heap.size + 1), ptr (wr.heap.size + 1), .bool false] tPlace)) = .ok (.slice (some ⟨g, 0, none⟩) nn cap) w6 ∧
      w.heap.size < w2.heap.size ∧ wr.heap.size < w2.heap.size ∧ w2.cell? ⟨w.heap.size, 0, none⟩ = some v ∧ w6.cell? ⟨w.heap.size, 0, none⟩ = some v ∧ w6.frozen? ⟨w.heap.size, 0, none⟩ = false ∧
      w2.cell? ⟨wr.heap.size, 0, none⟩ = some (ptr (wr.heap.size + 1)) ∧ w2.cell? ⟨wr.heap.size, 1, none⟩ = some (ptr (wr.heap.size + 1)) ∧ w2.cell? ⟨wr.heap.size, 2, none⟩ = some (.bool false) ∧
      LoadAt tag w n l (k + 1) (w6.setCell ⟨w.heap.size, 0, none⟩ (.slice (some ⟨g, 0, none⟩) nn cap)) := by
  have hf := lt_of_block h.blk
  have e1 : (wr.alloc (.cells #[.pointer none, .pointer none, .bool false] tPlace)).heap.size = wr.heap.size + 1 := by simp
  have hc0 : Chg (fun i => i = wr.heap.size) wr w2 := (((Chg.refl _ wr).alloc _).alloc _).trans hc
  have hcF : Chg (fun _ => False) wr w2 := ⟨hc0.os, hc0.tape, hc0.output, hc0.size, fun i hi _ => hc0.block i hi (by omega)⟩
  have hsec0 := blk_new (wr.alloc (.cells #[.pointer none, .pointer none, .bool false] tPlace)) (.cells (secCells (some (fitted (l.drop (k * 256))))) tSector)
  rw [e1] at hsec0
  have hsec : w2.heap[wr.heap.size + 1]? = _ := hc.at hsec0 (by omega)
  have hb2 : w2.heap[w.heap.size]? = _ := hcF.at h.blk (fun h => h)
  have hrow2 : w2.ownsRow 0 tPlace 3 v Q.length (Pls.cells Q) := row_kept h.row hcF (fun _ _ h => h)
  have hq := h.len
  obtain ⟨v', w6, hr, hrow, hg, hw⟩ := append_place (w := w2.drew.alloc (.cells #[ptr (wr.heap.size + 1), ptr (wr.heap.size + 1), .bool false] tPlace)) (World.ownsRow.alloc (w := w2.drew) hrow2 _) (blk_new w2.drew _) rfl rfl rfl (by omega)
  obtain ⟨g, cap, rfl, -⟩ := row_some hrow (by omega)
  have hc5 : Chg (fun _ => False) wr (w2.drew.alloc (.cells #[ptr (wr.heap.size + 1), ptr (wr.heap.size + 1), .bool false] tPlace)) := hcF.drew.alloc _
  have hsec5 := blk_alloc (w := w2.drew) hsec (.cells #[ptr (wr.heap.size + 1), ptr (wr.heap.size + 1), .bool false] tPlace)
  have hvf : v.ownBlock ≠ some w.heap.size := fun e => by have h1 := h.tagb; rw [h.tagr _ e] at h1; cases h1
  have hb6 : w6.heap[w.heap.size]? = some (.cells #[v, .bool true] tFile (0, 0)) := (hg.block _ (by have := hc5.size; omega) (fun e => hvf e.symm)).trans (hc5.at h.blk (fun h => h))
  exact ⟨g, _, cap, w6, hr, lt_of_block hb2, lt_of_block hblk, blk_cell hb2 0, blk_cell hb6 0, blk_free hb6 0, blk_cell hblk 0, blk_cell hblk 1, blk_cell hblk 2, load_step h ht hb hrg hk hl (b := wr.heap.size + 1) (by omega) hsec5 hc5 hrow hg hw⟩

set_option maxRecDepth 100000 in
set_option maxHeartbeats 2000000 in
theorem loaded_any (tag : Nat → Tag) (w : World) (n : Nam) (s : ByteArray) (hs : s.size ≤ 1048576) :
    Calls Tryz.prog 86 #[.string s] w fun e w' => e = .returned (ptr w.heap.size) ∧ LoadAt tag w n s.data.toList (loadedF s.data.toList).ps.length w' := by
  have hl := loaded_len s.data.toList
  have hsz : s.size = s.data.toList.length := rfl
  have hmax : (loadedF s.data.toList).ps.length ≤ 16384 := by omega
  have H0 : LoadAt tag w n s.data.toList 0 (w.alloc (.cells #[.slice none 0 0, .bool true] tFile)) := by
    refine ⟨upd tag w.heap.size (.file n), .slice none 0 0, [], ⟨blk_new _ _, upd_same _ _ _, World.ownsRow_nil _ _ _ _, (fun g hg => by cases hg), (fun x hx => by cases hx), rfl, Nat.zero_le _⟩, fun i hi => upd_ne _ _ (by omega), (Below.refl _ w).alloc (Nat.le_refl _) _, fun g hg => by cases hg⟩
  have HH := hid H0
  have HL := hid hl
  have HZ := hid hsz
  have HM := hid hmax
  generalize hK : (loadedF s.data.toList).ps.length = K at *
  have HK := hid hK
  clear hl hsz hmax H0 hK
  go_enter Tryz.func86, Tryz.ntmps86
  go_wp2
  go_loopw [4] (fun i wr => ∃ k : Nat, k ≤ K ∧ i = .int .i64 (k * 256 : Nat) ∧ LoadAt tag w n s.data.toList k wr) (fun i _ => K * 256 - (intOf i).toNat)
  case atStart => exact ⟨0, Nat.zero_le _, rfl, HH.out⟩
  case round =>
    obtain ⟨k, hk, rfl, hLd⟩ := hrel
    by_cases hlt : k < K
    · have hlt2 : k * 256 < s.size := by have := HL.out; have := HZ.out; omega
      obtain ⟨tag', v, Q, hf, ht, hb, hrg⟩ := hLd
      have HRD := hid (fun w2 hblk hc => load_ready (w2 := w2) hf ht hb hrg (by rw [HK.out]; exact hlt) (by rw [HK.out]; exact HM.out) hblk hc)
      clear hf ht hb hrg
      go_wp2_with fail
      refine (newSector_any (s.extract (k * 256) s.size) _).mono ?_
      rintro e w' ⟨rfl, rfl⟩
      rw [extract_drop s (k * 256)]
      have hb0 := blk_alloc (blk_new wr (.cells #[.pointer none, .pointer none, .bool false] tPlace)) (.cells (secCells (some (fitted (s.data.toList.drop (k * 256))))) tSector)
      have HB0 := hid hb0
      clear hb0
      go_wp2_with fail
      refine (holds_blk wr.heap.size (wr.heap.size + 1) _ _ _ _ HB0.out).mono ?_
      rintro e w2 ⟨rfl, hblk, hc⟩
      obtain ⟨g, nn, cap, w6, hr, hlt3, hlt4, x0, y0, z0, p0, p1, p2, hL⟩ := HRD.out w2 hblk hc
      have HLN := hid hL
      clear hblk hc hL
      go_wp2
      go_region_law (refine step_append_run rfl (.tmp 23) (.tmp 25) tPlaces tPlaces rfl _ _ (by simp [Act.eval]) (by simp [Act.eval]) hr ?_)
      all_goals
        go_wp2
        go_roundw
        case rel => exact ⟨k + 1, by omega, congrArg (Value.int .i64) (by omega), HLN.out⟩
        case measure => simp [intOf]; omega
    · obtain rfl : k = K := by omega
      have hge : ¬ k * 256 < s.size := by have := HL.out; have := HZ.out; omega
      have HLd := hid hLd
      clear hLd
      go_wp2
      go_ret
      exact ⟨rfl, HLd.out⟩

/-- A file is loaded over whatever was there. -/
theorem load_out {tag tag' : Nat → Tag} {w w1 w2 : World} {d m : Nat} {c : Ctl} {L : Ents} (D : DiskAt tag w d m c L) {n : Nam} {b : Nat} {F : Fil} (hf : ∃ v Q, FileAt tag' w1 n b F v Q) (ht : ∀ i, i < w.heap.size → tag' i = tag i) (hb : Below w.heap.size w w1)
    (ho : Owns w2 m (ins L n (b, F))) (hmt : w1.mapTurned w2 m) (hl : (ins L n (b, F)).length ≤ 8) : Out tag d m ⟨c, ins (dirOf L) n F⟩ w w2 := by
  have D1 : DiskAt tag' w1 d m c L := D.kept (F := fun _ => False) (Chg.of_below hb) ht (fun _ h => h.elim)
  obtain ⟨D2, hc⟩ := D1.putted hf ho hmt hl
  refine ⟨tag', _, D2, dirOf_ins L n b F, ht, Chg.then (Chg.of_below (F := Mine tag) hb) hc ?_⟩
  rintro i hi rfl
  refine Or.inr ?_
  unfold Mine; rw [D.root.tagm]; simp

theorem ins_len {L : Ents} {tag : Nat → Tag} {w : World} {d m : Nat} {c : Ctl} (D : DiskAt tag w d m c L) {n : Nam} (x : Nat × Fil) (h : canB L n = true) : (ins L n x).length ≤ 8 := by
  cases hg : get? L n with
  | none =>
    unfold canB at h
    rw [hg] at h
    have h2 : L.length < 8 := by simpa using h
    unfold ins
    rw [insB_len, del_self (get?_none hg)]
    omega
  | some y =>
    rw [ins_there x D.owns.rises hg, List.length_map]
    exact D.few

set_option maxRecDepth 100000 in
set_option maxHeartbeats 2000000 in
theorem load_any (tag : Nat → Tag) (w : World) (d m : Nat) (c : Ctl) (L : Ents) (D : DiskAt tag w d m c L) (s : ByteArray) (hs : s.size ≤ maxLen) (l : ByteArray) (hl : l.size ≤ maxLen) :
    Calls Tryz.prog 43 #[ptr d, .string s, .string l] w fun e w' => e = .returned (.int .i64 (Mod.load ⟨c, dirOf L⟩ s.data.toList l.data.toList).1) ∧ Out tag d m (Mod.load ⟨c, dirOf L⟩ s.data.toList l.data.toList).2 w w' := by
  obtain ⟨c0, -, -, -, -, -, -, -⟩ := root_cells D.root.blk
  have hls : l.size = l.data.toList.length := rfl
  replace hl : l.size ≤ 9223372036854775807 := by unfold maxLen at hl; omega
  have HD := hid D
  have hsame : Out tag d m ⟨c, dirOf L⟩ w w := Out.same D (Chg.refl _ _)
  have HSAME := hid hsame
  clear hsame
  cases hn : nameOk s with
  | false =>
    have e : Mod.load ⟨c, dirOf L⟩ s.data.toList l.data.toList = (1, ⟨c, dirOf L⟩) := by unfold Mod.load; rw [if_pos (Or.inl (by rw [← nameOk_fit]; exact hn))]
    have HE := hid e
    have HN := hid hn
    clear e hn D hls
    go_enter Tryz.func43, Tryz.ntmps43
    go_wp2_with fail
    refine (isName_any s hs _).mono ?_
    rintro e w' ⟨rfl, rfl⟩
    rw [HN.out]
    go_wp2
    go_ret
    rw [HE.out]
    exact ⟨rfl, HSAME.out⟩
  | true =>
    have HN := hid hn
    by_cases hbig : 1048576 < l.size
    · have e : Mod.load ⟨c, dirOf L⟩ s.data.toList l.data.toList = (1, ⟨c, dirOf L⟩) := by unfold Mod.load; rw [if_pos (Or.inr (by omega))]
      have HE := hid e
      clear e hn D hls
      go_enter Tryz.func43, Tryz.ntmps43
      go_wp2_with fail
      refine (isName_any s hs _).mono ?_
      rintro e w' ⟨rfl, rfl⟩
      rw [HN.out]
      go_wp2
      go_ret
      rw [HE.out]
      exact ⟨rfl, HSAME.out⟩
    · have hnot : ¬ (nameFit s.data.toList = false ∨ 1048576 < l.data.toList.length) := by
        rintro (h | h)
        · rw [← nameOk_fit, hn] at h; cases h
        · omega
      cases hcan : canB L s.data.toList with
      | false =>
        have e : Mod.load ⟨c, dirOf L⟩ s.data.toList l.data.toList = (12, ⟨c, dirOf L⟩) := by unfold Mod.load; rw [if_neg hnot, if_pos (by rw [dirOf_can]; exact hcan)]
        have HE := hid e
        have HCAN := hid hcan
        clear e hn D hls hnot hcan
        go_enter Tryz.func43, Tryz.ntmps43
        go_wp2_with fail
        refine (isName_any s hs _).mono ?_
        rintro e w' ⟨rfl, rfl⟩
        rw [HN.out]
        go_wp2_with fail
        refine (canHold_any tag _ d m c L HD.out s hs).mono ?_
        rintro e w' ⟨rfl, rfl⟩
        rw [HCAN.out]
        go_wp2
        go_ret
        rw [HE.out]
        exact ⟨rfl, HSAME.out⟩
      | true =>
        have e : Mod.load ⟨c, dirOf L⟩ s.data.toList l.data.toList = (0, ⟨c, ins (dirOf L) s.data.toList (loadedF l.data.toList)⟩) := by unfold Mod.load; rw [if_neg hnot, if_neg (by rw [dirOf_can, hcan]; simp)]
        have HE := hid e
        have HCAN := hid hcan
        have ld := lt_of_block D.root.blk
        have hown : Owns w m L := D.owns
        have hnext : ∀ wd w1 : World, LoadAt tag wd s.data.toList l.data.toList (loadedF l.data.toList).ps.length w1 → wd = w.drew → ∃ w2, (Instr.mapUpdate tMap (.map (some m)) (.string s) (ptr w.heap.size)).run Tryz.prog w1 = .ok () w2 ∧ w1.cell? ⟨d, 0, none⟩ = some (.map (some m)) ∧
            Out tag d m ⟨c, ins (dirOf L) s.data.toList (loadedF l.data.toList)⟩ w w2 := by
          rintro wd w1 ⟨tag', v, Q, hf, ht, hb, -⟩ rfl
          have hb' : Below w.heap.size w w1 := ((Below.refl _ w).drew).trans hb
          have hF : (⟨(loadedF l.data.toList).ps.take (loadedF l.data.toList).ps.length, true⟩ : Fil) = loadedF l.data.toList := by rw [List.take_length]; rfl
          rw [hF] at hf
          obtain ⟨w2, hrun, ho2, hmt⟩ := Owns.put (hown.kept (F := fun _ => False) (Chg.of_below hb') (fun h => h)) s hs (by have := D.few; unfold maxLen; omega) w.heap.size (loadedF l.data.toList)
          exact ⟨w2, hrun, (hb'.cell (p := ⟨d, 0, none⟩) ld).trans c0, load_out D ⟨v, Q, hf⟩ ht hb' ho2 hmt (ins_len D _ hcan)⟩
        have HNEXT := hid hnext
        clear e hn D hls hnot hcan hnext
        go_enter Tryz.func43, Tryz.ntmps43
        go_wp2_with fail
        refine (isName_any s hs _).mono ?_
        rintro e w' ⟨rfl, rfl⟩
        rw [HN.out]
        go_wp2_with fail
        refine (canHold_any tag _ d m c L HD.out s hs).mono ?_
        rintro e w' ⟨rfl, rfl⟩
        rw [HCAN.out]
        go_wp2
        go_region_with ((go_at_call 86; refine (loaded_any tag _ s.data.toList l (by omega)).mono ?_; rintro e w1 ⟨rfl, hLd⟩; obtain ⟨w2, hrun, q0, hOut⟩ := HNEXT.out _ w1 hLd rfl))
        all_goals
          have HO := hid hOut
          clear hOut
          go_wp2
          go_ret
          rw [HE.out]
          exact ⟨rfl, HO.out⟩

end Disk
end Go.Proofs.YtgmbiiocjhkpdaaGreat
