/-
  What a Decode carries: the answer's box, the trunk's box and its list, a row of the call's own.
-/
import Derived.Test.YtkoglikaaehhjaaSpareEnc
import Derived.Test.YtkoglikaaehhjaaSpareNum
import Derived.Laws.Strings
namespace Go.Proofs.Ytkoglikaaehhjaa
open Go.RowKit
namespace Sp
open Num (hid)
open Mem (Bs bs IAt tI tIs Chg blk_cell blk_free blk_new blk_set blk_other blk_alloc row_kept row_shape row_type)
open Part (numAt)
theorem bs_list (a : Bs) : (bs a).toList = a := by rw [ByteArray.toList_eq]; rfl
abbrev intsV (l : List Int) : List Value := l.map (Value.int .i64)
abbrev nilS : Value := .slice none 0 0
/-- A boxed trunk. -/
def Tb (b : Nat) (n : Int) (lv : Value) (w : World) : Prop := w.heap[b]? = some (.cells #[.int .i64 n, lv] tT (0, 0))
theorem Tb.lt {b : Nat} {n : Int} {lv : Value} {w : World} (h : Tb b n lv w) : b < w.heap.size := lt_of_block h
theorem Tb.new (n : Int) (lv : Value) (w : World) : Tb w.heap.size n lv (w.alloc (tObj n lv)) := blk_new w _
theorem Tb.on {b : Nat} {n : Int} {lv : Value} {w w' : World} (h : Tb b n lv w) (hb : Below w.heap.size w w') : Tb b n lv w' := (hb.block _ (lt_of_block h)).trans h
theorem Tb.at {b : Nat} {n : Int} {lv : Value} {w w' : World} {F : Nat → Prop} (h : Tb b n lv w) (hc : Chg F w w') (hF : ¬ F b) : Tb b n lv w' := hc.at h hF
theorem Tb.cells {b : Nat} {n : Int} {lv : Value} {w : World} (h : Tb b n lv w) : w.cell? ⟨b, 0, none⟩ = some (.int .i64 n) ∧ w.cell? ⟨b, 1, none⟩ = some lv := ⟨blk_cell h 0, blk_cell h 1⟩
theorem Tb.free {b : Nat} {n : Int} {lv : Value} {w : World} (h : Tb b n lv w) : w.frozen? ⟨b, 0, none⟩ = false ∧ w.frozen? ⟨b, 1, none⟩ = false := ⟨blk_free h 0, blk_free h 1⟩
theorem Tb.set0 {b : Nat} {n : Int} {lv : Value} {w : World} (h : Tb b n lv w) (m : Int) : Tb b m lv (w.setCell ⟨b, 0, none⟩ (.int .i64 m)) := blk_set h 0 _
theorem Tb.set1 {b : Nat} {n : Int} {lv : Value} {w : World} (h : Tb b n lv w) (u : Value) : Tb b n u (w.setCell ⟨b, 1, none⟩ u) := blk_set h 1 _
theorem Tb.other {b b' i : Nat} {n : Int} {lv : Value} {w : World} (h : Tb b n lv w) (hne : b ≠ b') (u : Value) : Tb b n lv (w.setCell ⟨b', i, none⟩ u) := blk_other h hne u
/-- The list as a row of the call's own, made behind N. -/
structure Lrow (N : Nat) (lv : Value) (l : List Int) (w : World) : Prop where
  row : w.ownsRow 0 tI 1 lv l.length (intsV l)
  low : ∀ g, lv.ownBlock = some g → N ≤ g
theorem Lrow.nil (N : Nat) (w : World) : Lrow N nilS [] w := ⟨World.ownsRow_nil w 0 tI 1, fun g h => by simp [Value.ownBlock] at h⟩
theorem Lrow.on {N : Nat} {lv : Value} {l : List Int} {w w' : World} (h : Lrow N lv l w) (hb : Below w.heap.size w w') : Lrow N lv l w' := ⟨row_kept h.row (F := fun _ => False) (Chg.of_below hb) (fun _ _ h => h), h.low⟩
theorem Lrow.at {N : Nat} {lv : Value} {l : List Int} {w : World} (h : Lrow N lv l w) (hl : l.length ≤ 1000000) : IAt w lv l := Mem.ints_row h.row (by unfold maxLen; omega)
theorem Lrow.shape {N : Nat} {lv : Value} {l : List Int} {w : World} (h : Lrow N lv l w) : ∃ ao cap, lv = .slice ao l.length cap := by
  obtain ⟨ao, cap, h1, -⟩ := row_shape h.row
  exact ⟨ao, cap, h1⟩
/-- No trunk's box is the list's block. -/
theorem Lrow.ne {N : Nat} {lv : Value} {l : List Int} {w : World} (h : Lrow N lv l w) {b : Nat} {n : Int} {u : Value} (hb : Tb b n u w) : ∀ g, lv.ownBlock = some g → ¬ g = b := by
  rintro g hg rfl
  obtain ⟨cur, hh⟩ := row_type h.row hg
  unfold Tb at hb
  rw [hb] at hh
  simp only [Option.some.injEq, Obj.cells.injEq] at hh
  exact absurd hh.2.1 (by decide)
theorem Lrow.set {N : Nat} {lv : Value} {l : List Int} {w : World} (h : Lrow N lv l w) {b i : Nat} {n : Int} {u : Value} (hb : Tb b n u w) (x : Value) : Lrow N lv l (w.setCell ⟨b, i, none⟩ x) :=
  ⟨row_kept h.row (F := (· = b)) ((Chg.refl _ w).root i x) (h.ne hb), h.low⟩
structure Dst (w : World) (n : Int) (lv : Value) (l : List Int) (wr : World) : Prop where
  rs : Tb w.heap.size 0 nilS wr
  tb : Tb (w.heap.size + 1) n lv wr
  li : Lrow (w.heap.size + 2) lv l wr
  be : Below w.heap.size w wr
theorem Dst.start (w : World) (n : Int) : Dst w n nilS [] ((w.alloc (tObj 0 nilS)).alloc (tObj n nilS)) := by
  refine ⟨?_, ?_, Lrow.nil _ _, ((Below.refl _ _).alloc (Nat.le_refl _) _).alloc (by simp) _⟩
  · exact blk_alloc (Tb.new 0 nilS w) _
  · have h := Tb.new n nilS (w.alloc (tObj 0 nilS))
    have e : (w.alloc (tObj 0 nilS)).heap.size = w.heap.size + 1 := by simp
    rw [e] at h
    exact h
theorem Dst.on {w : World} {n : Int} {lv : Value} {l : List Int} {wr w' : World} (h : Dst w n lv l wr) (hb : Below wr.heap.size wr w') : Dst w n lv l w' := ⟨h.rs.on hb, h.tb.on hb, h.li.on hb, h.be.trans (hb.mono h.be.size)⟩
theorem bput {B : Nat} {w0 w : World} (h : Below B w0 w) {g : Nat} (hg : B ≤ g) (j : Nat) (u : Value) : Below B w0 (w.setCell ⟨g, j, none⟩ u) :=
  ⟨h.os, h.tape, h.output, by simpa [World.setCell] using h.size, fun k hk => by rw [Below.heap_setCell _ _ _ _ (show k ≠ g by omega)]; exact h.block k hk⟩
theorem Dst.next {w : World} {n : Int} {lv : Value} {l : List Int} {wr : World} (h : Dst w n lv l wr) (m : Int) : Dst w m lv l (wr.setCell ⟨w.heap.size + 1, 0, none⟩ (.int .i64 m)) :=
  ⟨h.rs.other (by omega) _, h.tb.set0 m, h.li.set h.tb _, bput h.be (by omega) 0 _⟩
/-- One number more: the run of append, and the store behind it. -/
theorem Dst.push {w : World} {n : Int} {lv : Value} {l : List Int} {wr : World} (h : Dst w n lv l wr) (x : Int) (hl : l.length ≤ 1000) :
    ∃ ao cap W', (Builtin.append_ #[tIs, tIs] tIs #[lv, .slice (some ⟨wr.heap.size, 0, none⟩) 1 1]).run Try.prog (wr.alloc (.cells #[.int .i64 x] tI)) = .ok (.slice ao (l.length + 1) cap) W' ∧
      W'.frozen? ⟨w.heap.size + 1, 1, none⟩ = false ∧ W'.cell? ⟨w.heap.size + 1, 1, none⟩ = some lv ∧ w.heap.size + 1 < W'.heap.size ∧ Dst w n (.slice ao (l.length + 1) cap) (l ++ [x]) (W'.setCell ⟨w.heap.size + 1, 1, none⟩ (.slice ao (l.length + 1) cap)) := by
  obtain ⟨v', W', hr, ho, hc, hw⟩ := Mem.push_int h.li.row x (by omega)
  have hrs : Tb w.heap.size 0 nilS W' := h.rs.at hc (fun e => h.li.ne h.rs _ e rfl)
  have htb : Tb (w.heap.size + 1) n lv W' := h.tb.at hc (fun e => h.li.ne h.tb _ e rfl)
  obtain ⟨ao, cap, rfl, -⟩ := row_shape ho
  have hz := h.tb.lt
  have hli : Lrow (w.heap.size + 2) (.slice ao (l.length + 1) cap) (l ++ [x]) W' := by
    refine ⟨?_, fun g hg => ?_⟩
    · have e : intsV (l ++ [x]) = intsV l ++ [.int .i64 x] := List.map_append ..
      rw [e, List.length_append]
      exact ho
    · rcases hw g hg with h1 | h1
      · exact h.li.low g h1
      · omega
  have hbe : Below w.heap.size w W' := h.be.trans (hc.below h.be.size (fun k hk e => by have := h.li.low k e; omega))
  exact ⟨ao, cap, W', hr, htb.free.2, htb.cells.2, htb.lt, hrs.other (by omega) _, htb.set1 _, hli.set htb _, bput hbe (by omega) 1 _⟩
/-- What Decode answers. -/
def DecGives (x : Tr × Int) (w w' : World) (e : Ending) : Prop := (∃ lv, e = .returned (.tuple #[trV x.1 lv, .int .i64 x.2]) ∧ Lrow w.heap.size lv x.1.list w') ∧ Below w.heap.size w w'
abbrev put2 (w : World) (r : Nat) (n : Int) (lv : Value) : World := (w.setCell ⟨r, 0, none⟩ (.int .i64 n)).setCell ⟨r, 1, none⟩ lv
/-- The trunk is the answer. -/
theorem Dst.fin {w : World} {n : Int} {lv : Value} {l : List Int} {wr : World} (h : Dst w n lv l wr) : Tb w.heap.size n lv (put2 wr w.heap.size n lv) ∧ Lrow w.heap.size lv l (put2 wr w.heap.size n lv) ∧ Below w.heap.size w (put2 wr w.heap.size n lv) := by
  refine ⟨(h.rs.set0 n).set1 lv, ?_, bput (bput h.be (Nat.le_refl _) 0 _) (Nat.le_refl _) 1 _⟩
  have := ((h.li.set h.rs (.int .i64 n) (i := 0)).set (h.rs.set0 n) lv (i := 1))
  exact ⟨this.row, fun g hg => by have := this.low g hg; omega⟩
theorem Dst.nil {w : World} {n : Int} {lv : Value} {l : List Int} {wr : World} (h : Dst w n lv l wr) : Tb w.heap.size 0 nilS (put2 wr w.heap.size 0 nilS) ∧ Below w.heap.size w (put2 wr w.heap.size 0 nilS) :=
  ⟨(h.rs.set0 0).set1 nilS, bput (bput h.be (Nat.le_refl _) 0 _) (Nat.le_refl _) 1 _⟩
/-- The numbers read behind k rounds. -/
def L (S : Bs) (k : Nat) : List Int := (List.range k).map fun i => ((numAt S (6 + 4 * i) 4 : Nat) : Int)
theorem L_next (S : Bs) (k : Nat) : L S (k + 1) = L S k ++ [((numAt S (6 + 4 * k) 4 : Nat) : Int)] := by unfold L; rw [List.range_succ, List.map_append]; rfl
theorem L_len (S : Bs) (k : Nat) : (L S k).length = k := by unfold L; simp
theorem raw_L (m : Nat) (S : Bs) : rawT m S = ⟨(numAt S 1 4 : Nat), L S (min (numAt S 5 1) m)⟩ := rfl
theorem num_drop (S : Bs) (j k : Nat) : numAt (S.drop j) 0 k = numAt S j k := by unfold numAt; rw [List.drop_zero]
end Sp
end Go.Proofs.Ytkoglikaaehhjaa
