/-
  Put together: LogPMem, LogPC, LogPT.
-/
import Derived.Test.YtgmbiiocjhkpdaaGreatLogKeys
import Derived.Test.YtgmbiiocjhkpdaaGreatGrpJDke
import Derived.Test.YtgmbiiocjhkpdaaGreatLogShelf
import Derived.Test.YtgmbiiocjhkpdaaGreatGrpJSea
import Derived.Test.YtgmbiiocjhkpdaaGreatQuietTail
import Derived.Shelf.Strings.OnBuilder
import Derived.Shelf.Strings.BuilderK
import Derived.BigQuiet
import Derived.Deep.Cut
import Derived.Deep.RegionLaw
/-
  The project's log in memory: its box, its row of frames, the map of last frames, the disk beside them; whoever the others are, they stay.
-/
namespace Go.Proofs.YtgmbiiocjhkpdaaGreat
open Go.RowKit
namespace Lo
open Num (hid)
open Disk (Mod Fil Sees Stays)
open Mem (Bs bs tI Chg ptr blk_cell blk_free blk_new blk_set blk_other blk_alloc row_kept row_shape row_type append_from)
abbrev tLo : TypeId := 81
abbrev tFr : TypeId := 98
abbrev tFrs : TypeId := 79
theorem toMem' {F : Nat → Prop} {w w' : World} (h : Disk.Chg F w w') : Chg F w w' := ⟨h.os, h.tape, h.output, h.size, h.block⟩
theorem toDisk' {F : Nat → Prop} {w w' : World} (h : Chg F w w') : Disk.Chg F w w' := ⟨h.os, h.tape, h.output, h.size, h.block⟩
def frV (x : Fr) : List Value := [.int .i64 (x.1 : Nat), .int .u64 (x.2 : Nat)]
theorem frV_len (x : Fr) : (frV x).length = 2 := rfl
set_option maxRecDepth 100000 in
theorem frInfo : ∃ i, Tryz.prog.info? tFr = some i ∧ i.zero = some (.agg #[.int .i64 0, .int .u64 0]) ∧ i.size = 2 ∧ i.bytes = 16 := by
  refine ⟨_, rfl, ?_⟩
  refine ⟨?_, ?_, ?_⟩ <;> rfl
theorem frV_one (x : Fr) : ∀ u ∈ frV x, u.oneCell' = true := by
  intro u hu
  simp only [frV, List.mem_cons, List.not_mem_nil, or_false] at hu
  rcases hu with rfl | rfl <;> rfl
/-- One frame more. -/
theorem push_fr {w : World} {v : Value} {l : List Fr} (h : w.ownsRow 0 tFr 2 v l.length (l.flatMap frV)) (x : Fr) (hn : l.length ≤ 100000) :
    ∃ v' w', (Builtin.append_ #[tFrs, tFrs] tFrs #[v, .slice (some ⟨w.heap.size, 0, none⟩) 1 1]).run Tryz.prog (w.alloc (.cells #[.int .i64 (x.1 : Nat), .int .u64 (x.2 : Nat)] tFr)) = .ok v' w' ∧ w'.ownsRow 0 tFr 2 v' (l ++ [x]).length ((l ++ [x]).flatMap frV) ∧ Chg (fun k => v.ownBlock = some k) w w' ∧ (∀ k, v'.ownBlock = some k → v.ownBlock = some k ∨ w.heap.size ≤ k) := by
  obtain ⟨i, hi, h0, h1, h2⟩ := frInfo
  obtain ⟨v', w', hr, ho, hc, hw⟩ := append_from tFrs tFr i _ 2 16 Tryz.underlying79 hi h0 h1 h2 rfl (by decide) (by decide) (h.alloc (.cells #[.int .i64 (x.1 : Nat), .int .u64 (x.2 : Nat)] tFr)) (b := w.heap.size) (o := 0) (m := 1) (c := 1) (ys := frV x) rfl (by
    intro j hj
    rw [Nat.zero_add, blk_cell (blk_new w _) j, List.getElem?_toArray]
    exact List.getElem?_eq_getElem hj) (frV_one x) (by omega)
  have hk : ∀ k, v'.ownBlock = some k → v.ownBlock = some k ∨ w.heap.size ≤ k := fun k hk => by
    rcases hw k hk with h | h
    · exact Or.inl h
    · right; simp at h; omega
  refine ⟨v', w', hr, ?_, ((Chg.refl _ w).alloc _).trans hc, hk⟩
  rw [List.flatMap_append, List.length_append]
  simpa using ho
/-- The first frames of a row. -/
theorem fr_cut {w : World} {l : List Fr} {n cap : Nat} {ao : Option Addr} (h : w.ownsRow 0 tFr 2 (.slice ao n cap) l.length (l.flatMap frV)) {c : Nat} (hc : c ≤ l.length) :
    n = l.length ∧ c ≤ cap ∧ w.ownsRow 0 tFr 2 (.slice ao c cap) (l.take c).length ((l.take c).flatMap frV) := by
  have hl : (l.take c).length = c := by rw [List.length_take]; omega
  have hf : (l.flatMap frV).take (c * 2) = (l.take c).flatMap frV := by
    rw [← List.take_append_drop c l, List.flatMap_append, List.take_append_drop]
    rw [List.take_left' (by rw [Mem.flat_len frV_len, hl])]
  rw [hl]
  obtain ⟨h1, h2⟩ := h
  refine ⟨?_, ?_, by rw [Mem.flat_len frV_len, hl], ?_⟩
  · rcases h2 with ⟨h2, h3⟩ | ⟨g, cap', cur, h2, _⟩
    · cases h2; omega
    · cases h2; rfl
  · rcases h2 with ⟨h2, h3⟩ | ⟨g, cap', cur, h2, h3, h4, h5, _⟩
    · cases h2; omega
    · cases h2; omega
  · rcases h2 with ⟨h2, h3⟩ | ⟨g, cap', cur, h2, h3, h4, h5, h6, h7, h8⟩
    · cases h2
      exact Or.inl ⟨by have : c = 0 := by omega
                       subst this; rfl, by omega⟩
    · cases h2
      refine Or.inr ⟨g, cap, cur, rfl, h3, h4, by omega, h6, h7, ?_⟩
      have e := congrArg (List.take (c * 2)) h8
      rw [List.take_take, hf] at e
      have e2 : min (c * 2) (l.length * 2) = c * 2 := by omega
      rw [e2] at e
      exact e
/-- The cells of a frame of a row. -/
theorem fr_at {w : World} {l : List Fr} {n cap : Nat} {ao : Option Addr} (h : w.ownsRow 0 tFr 2 (.slice ao n cap) l.length (l.flatMap frV)) (j : Nat) (hj : j < l.length) :
    ∃ g, ao = some ⟨g, 0, none⟩ ∧ g < w.heap.size ∧ (j : Int) < (cap : Int) ∧ w.cell? ⟨g, j * 2, none⟩ = some (.int .i64 (l[j].1 : Nat)) ∧ w.cell? ⟨g, j * 2 + 1, none⟩ = some (.int .u64 (l[j].2 : Nat)) := by
  obtain ⟨h1, h2⟩ := h
  rcases h2 with ⟨h2, h3⟩ | ⟨g, cap', cur, h2, h3, h4, h5, h6, h7, h8⟩
  · omega
  · cases h2
    have hx : ∀ i, i < 2 → cur[j * 2 + i]? = (frV l[j])[i]? := fun i hi => by
      have e : (cur.toList.take (l.length * 2))[j * 2 + i]? = (l.flatMap frV)[j * 2 + i]? := by rw [h8]
      rw [List.getElem?_take_of_lt (by omega), Mem.flat_at frV_len l j hj i hi] at e
      simpa using e
    refine ⟨g, rfl, lt_of_block h4, by omega, ?_, ?_⟩
    · rw [blk_cell h4]; exact hx 0 (by decide)
    · rw [blk_cell h4]; exact hx 1 (by decide)

/-- The blocks of a log. -/
def pX (j b : Nat) (f : Value) : Nat → Prop := fun k => k = j ∨ k = b ∨ f.ownBlock = some k
def pCells (d b : Nat) (f : Value) : Array Value := #[ptr d, f, .map (some b)]
/-- A log at j, its frames in the row f, its map at b, the disk at d: none of them the others'. -/
structure PL (O : Nat → Prop) (d m j b : Nat) (f : Value) (M : Mod) (fs : List Fr) (w : World) : Prop where
  disk : Sees (fun k => O k ∨ pX j b f k) d m M w
  box : w.heap[j]? = some (.cells (pCells d b f) tLo (0, 0))
  row : w.ownsRow 0 tFr 2 f fs.length (fs.flatMap frV)
  map : ∃ c, c ≤ fs.length ∧ MapI w b c (lookL fs)
  ne : j ≠ b
  nj : f.ownBlock ≠ some j
  nb : f.ownBlock ≠ some b
  out : ∀ k, pX j b f k → ¬ O k
  few : fs.length ≤ 20000
  small : ∀ x ∈ fs, x.1 < 4096
  sums : ∀ x ∈ fs, x.2 < 18446744073709551616
variable {O O' : Nat → Prop} {d m j b : Nat} {f f' : Value} {M M' : Mod} {fs fs' : List Fr} {w w' : World}
theorem fewer {O O' : Nat → Prop} {w w' : World} (h : Stays O w w') (hO : ∀ k, O' k → O k) : Stays O' w w' := Disk.Chg.mono h (fun _ _ hn ho => hn (hO _ ho))
theorem stays_of {O : Nat → Prop} {w w' : World} (h : Below w.heap.size w w') : Stays O w w' := Disk.Chg.of_below h
theorem PL.olt (h : PL O d m j b f M fs w) {k : Nat} (hk : O k) : k < w.heap.size := by
  obtain ⟨tag, L, D, hL, hN, hs⟩ := h.disk
  exact hs k (Or.inl hk)
theorem PL.on (h : PL O d m j b f M fs w) (hb : Below w.heap.size w w') : PL O d m j b f M fs w' := by
  obtain ⟨c, hc, hm⟩ := h.map
  exact ⟨h.disk.kept hb, (hb.block _ (lt_of_block h.box)).trans h.box, row_kept h.row (F := fun _ => False) (Chg.of_below hb) (fun _ _ x => x), ⟨c, hc, hm.apart (F := fun _ => False) (Chg.of_below hb) (fun x => x)⟩, h.ne, h.nj, h.nb, h.out, h.few, h.small, h.sums⟩
/-- Behind a call of the disk alone. -/
theorem PL.over (h : PL O d m j b f M fs w) (hd : Sees (fun k => O k ∨ pX j b f k) d m M' w') (hs : Stays (fun k => O k ∨ pX j b f k) w w') : PL O d m j b f M' fs w' := by
  obtain ⟨c, hc, hm⟩ := h.map
  exact ⟨hd, hs.at h.box (Or.inr (Or.inl rfl)), row_kept h.row (toMem' hs) (fun g hg x => x (Or.inr (Or.inr (Or.inr hg)))), ⟨c, hc, hm.apart (toMem' hs) (fun x => x (Or.inr (Or.inr (Or.inl rfl))))⟩, h.ne, h.nj, h.nb, h.out, h.few, h.small, h.sums⟩
theorem PL.stays (hs : Stays (fun k => O k ∨ pX j b f k) w w') : Stays O w w' := fewer hs (fun _ hk => Or.inl hk)
/-- What was made since is none of the log's. -/
theorem PL.also (h : PL O d m j b f M fs w) (hb : Below w.heap.size w w') : PL (fun k => O k ∨ (w.heap.size ≤ k ∧ k < w'.heap.size)) d m j b f M fs w' := by
  have h2 := h.on hb
  obtain ⟨c, hc, hm⟩ := h.map
  refine ⟨(h.disk.more hb).fewer ?_, h2.box, h2.row, h2.map, h.ne, h.nj, h.nb, ?_, h.few, h.small, h.sums⟩
  · rintro k ((hk | hk) | hk)
    · exact Or.inl (Or.inl hk)
    · exact Or.inr hk
    · exact Or.inl (Or.inr hk)
  · rintro k hk (hO | ⟨h1, h2⟩)
    · exact h.out k hk hO
    · rcases hk with rfl | rfl | hk
      · have := lt_of_block h.box; omega
      · have := hm.lt; omega
      · have := (h.row.lt k hk).2; omega
theorem PL.fewerO (h : PL O d m j b f M fs w) (hO : ∀ k, O' k → O k) : PL O' d m j b f M fs w :=
  ⟨h.disk.fewer (fun k hk => hk.imp_left (hO k)), h.box, h.row, h.map, h.ne, h.nj, h.nb, fun k hk h' => h.out k hk (hO k h'), h.few, h.small, h.sums⟩
/-- Where the others' own blocks turn, and new ones come. -/
theorem sees_beside {O F : Nat → Prop} {d m : Nat} {M : Mod} {w w' : World} (h : Sees O d m M w) (hc : Chg F w w') (hF : ∀ k, F k → k < w.heap.size → O k) : Sees (fun k => O k ∨ (w.heap.size ≤ k ∧ k < w'.heap.size)) d m M w' := by
  obtain ⟨tag, L, D, hL, hN, hs⟩ := h
  have hc2 : Disk.Chg (fun k => F k ∧ k < w.heap.size) w w' := (toDisk' hc).mono (fun k hk e => ⟨e, hk⟩)
  have D3 : Disk.DiskAt (Disk.norm tag w.heap.size) w' d m M.c L := D.kept (F := fun k => F k ∧ k < w.heap.size) hc2 (fun k hk => Disk.norm_lt tag hk) (fun k hk => hN k (hF k hk.1 hk.2))
  refine ⟨Disk.norm tag w.heap.size, L, D3, hL, ?_, ?_⟩
  · rintro k (hk | ⟨hk, _⟩)
    · rw [Disk.norm_lt tag (hs k hk)]; exact hN k hk
    · exact Disk.norm_ge tag hk
  · rintro k (hk | ⟨_, hk⟩)
    · exact Nat.lt_of_lt_of_le (hs k hk) hc.size
    · exact hk
/-- Where the log's own blocks turn. -/
theorem PL.turn {F : Nat → Prop} (h : PL O d m j b f M fs w) (hc : Chg F w w') (hF : ∀ k, F k → pX j b f k) (hbox : w'.heap[j]? = some (.cells (pCells d b f') tLo (0, 0)))
    (hrow : w'.ownsRow 0 tFr 2 f' fs'.length (fs'.flatMap frV)) (hmap : ∃ c, c ≤ fs'.length ∧ MapI w' b c (lookL fs')) (hf : ∀ k, f'.ownBlock = some k → f.ownBlock = some k ∨ w.heap.size ≤ k)
    (hfew : fs'.length ≤ 20000) (hsm : ∀ x ∈ fs', x.1 < 4096) (hsu : ∀ x ∈ fs', x.2 < 18446744073709551616) : PL O d m j b f' M fs' w' ∧ Stays O w w' := by
  have hj := lt_of_block h.box
  obtain ⟨c, hc0, hm0⟩ := h.map
  have hb := hm0.lt
  have hz := hc.size
  have hlt : ∀ k, f'.ownBlock = some k → k < w'.heap.size := fun k hk => (hrow.lt k hk).2
  refine ⟨⟨(sees_beside h.disk hc (fun k hk _ => Or.inr (hF k hk))).fewer ?_, hbox, hrow, hmap, h.ne, fun e => ?_, fun e => ?_, ?_, hfew, hsm, hsu⟩, toDisk' (hc.mono fun k _ hk hO => h.out k (hF k hk) hO)⟩
  · rintro k (hk | rfl | rfl | hk)
    · exact Or.inl (Or.inl hk)
    · exact Or.inl (Or.inr (Or.inl rfl))
    · exact Or.inl (Or.inr (Or.inr (Or.inl rfl)))
    · rcases hf k hk with e | e
      · exact Or.inl (Or.inr (Or.inr (Or.inr e)))
      · exact Or.inr ⟨e, hlt k hk⟩
  · rcases hf j e with e | e
    · exact h.nj e
    · omega
  · rcases hf b e with e | e
    · exact h.nb e
    · omega
  · rintro k (rfl | rfl | hk) hO
    · exact h.out _ (Or.inl rfl) hO
    · exact h.out _ (Or.inr (Or.inl rfl)) hO
    · rcases hf k hk with e | e
      · exact h.out _ (Or.inr (Or.inr e)) hO
      · have := h.olt hO; omega
/-- Where the others' own blocks turn. -/
theorem PL.side {F : Nat → Prop} (h : PL O d m j b f M fs w) (hc : Chg F w w') (hF : ∀ k, F k → k < w.heap.size → O k) : PL (fun k => O k ∨ (w.heap.size ≤ k ∧ k < w'.heap.size)) d m j b f M fs w' := by
  obtain ⟨c, hcl, hm⟩ := h.map
  have hj := lt_of_block h.box
  have hb := hm.lt
  have hf : ∀ g, f.ownBlock = some g → g < w.heap.size := fun g hg => (h.row.lt g hg).2
  have hX : ∀ k, pX j b f k → k < w.heap.size := fun k hk => by
    rcases hk with rfl | rfl | hk
    · exact hj
    · exact hb
    · exact hf k hk
  have hno : ∀ k, pX j b f k → ¬ F k := fun k hk hFk => h.out k hk (hF k hFk (hX k hk))
  refine ⟨(sees_beside h.disk hc (fun k hk hl => Or.inl (hF k hk hl))).fewer ?_, hc.at h.box (hno j (Or.inl rfl)), row_kept h.row hc (fun g hg => hno g (Or.inr (Or.inr hg))), ⟨c, hcl, hm.apart hc (hno b (Or.inr (Or.inl rfl)))⟩, h.ne, h.nj, h.nb, ?_, h.few, h.small, h.sums⟩
  · rintro k ((hk | hk) | hk)
    · exact Or.inl (Or.inl hk)
    · exact Or.inr hk
    · exact Or.inl (Or.inr hk)
  · rintro k hk (hO | ⟨h1, _⟩)
    · exact h.out k hk hO
    · have := hX k hk; omega
theorem PL.c0 (h : PL O d m j b f M fs w) : w.cell? ⟨j, 0, none⟩ = some (ptr d) := blk_cell h.box 0
theorem PL.c1 (h : PL O d m j b f M fs w) : w.cell? ⟨j, 1, none⟩ = some f := blk_cell h.box 1
theorem PL.c2 (h : PL O d m j b f M fs w) : w.cell? ⟨j, 2, none⟩ = some (.map (some b)) := blk_cell h.box 2
theorem PL.shape (h : PL O d m j b f M fs w) : ∃ ao cap, f = .slice ao fs.length cap := by
  obtain ⟨ao, cap, e, _⟩ := row_shape h.row
  exact ⟨ao, cap, e⟩
theorem wf_small {n : Nat} (h : n ≤ 9223372036854775807) : Wf (n : Int) := wf_of (by omega) (by omega)
/-- The map's turn in take: the frame that comes has the place behind all others. -/
theorem PL.mark (h : PL O d m j b f M fs w) {n : Nat} (hn : n < 4096) :
    ∃ w1, (Instr.mapUpdate tMi (.map (some b)) (.int .i64 (n : Int)) (.int .i64 (fs.length : Nat))).run Tryz.prog w = .ok () w1 ∧ Chg (· = b) w w1 ∧ ∀ s, ∃ c, c ≤ (fs ++ [(n, s)]).length ∧ MapI w1 b c (lookL (fs ++ [(n, s)])) := by
  obtain ⟨c, hc, hm⟩ := h.map
  have := h.few
  obtain ⟨w1, hr, hm1, hc1⟩ := hm.put (wf_small (n := n) (by omega)) (wf_small (n := fs.length) (by omega)) (by omega)
  refine ⟨w1, hr, hc1, fun s => ⟨c + 1, by rw [List.length_append]; show c + 1 ≤ _ + 1; omega, ?_⟩⟩
  rw [lookL_snoc]
  exact hm1
/-- A new log: nothing in it. -/
theorem PL.new (h : Sees O d m M w) : PL O d m (w.heap.size + 1) w.heap.size (.slice none 0 0) M [] ((w.alloc (.map #[] 0)).alloc (.cells (pCells d w.heap.size (.slice none 0 0)) tLo)) ∧ Below w.heap.size w ((w.alloc (.map #[] 0)).alloc (.cells (pCells d w.heap.size (.slice none 0 0)) tLo)) := by
  have hb : Below w.heap.size w ((w.alloc (.map #[] 0)).alloc (.cells (pCells d w.heap.size (.slice none 0 0)) tLo)) := ((Below.refl _ _).alloc (Nat.le_refl _) _).alloc (by simp) _
  have e1 : (w.alloc (.map #[] 0)).heap.size = w.heap.size + 1 := by simp
  have hO : ∀ k, O k → k < w.heap.size := by obtain ⟨tag, L, D, hL, hN, hs⟩ := h; exact hs
  refine ⟨⟨(h.more hb).fewer ?_, ?_, ⟨rfl, Or.inl ⟨rfl, rfl⟩⟩, ⟨0, Nat.le_refl _, ?_⟩, by omega, fun e => (by cases e), fun e => (by cases e), ?_, Nat.zero_le _, fun x hx => (by cases hx), fun x hx => (by cases hx)⟩, hb⟩
  · rintro k (hk | rfl | rfl | hk)
    · exact Or.inl hk
    · exact Or.inr ⟨by omega, by simp⟩
    · exact Or.inr ⟨Nat.le_refl _, by simp; omega⟩
    · cases hk
  · have := blk_new (w.alloc (.map #[] 0)) (.cells (pCells d w.heap.size (.slice none 0 0)) tLo)
    rwa [e1] at this
  · exact (mapI_new w).apart (F := fun _ => False) ((Chg.refl _ _).alloc _) (fun x => x)
  · rintro k (rfl | rfl | hk) hO'
    · have := hO _ hO'; omega
    · have := hO _ hO'; omega
    · cases hk
end Lo
end Go.Proofs.YtgmbiiocjhkpdaaGreat

/-
  Contracts of the project's log: top, place, sealed, sum, take, Len, Sync.
-/
namespace Go.Proofs.YtgmbiiocjhkpdaaGreat
open Go.RowKit Go.Shelf
namespace Lo
open Num (hid)
open Jo (okB kK kN kS kD okB_iff)
open Disk (Mod Fil Sees Stays)
open Seal (zerosS zerosS_size zerosL sealS sealS_list sealS_size close_yes sumOf sum_any open_any open_says open_seal open_size openV openE saysV zeroV)
open Mem (Bs bs tI Chg ptr blk_cell blk_free blk_new blk_set blk_other blk_alloc row_kept row_shape row_type append_from step_append_run wpList_append_run)
variable {O O' : Nat → Prop} {d m j b : Nat} {f f' : Value} {M M' : Mod} {fs fs' : List Fr} {w w' : World}
abbrev tSl : TypeId := 55
theorem bs_of (s : ByteArray) : bs s.data.toList = s := by apply ByteArray.ext; simp [bs]
theorem bs_list (l : Bs) : (bs l).data.toList = l := rfl
theorem bs_len {l : Bs} {n : Nat} (h : l.length = n) : (bs l).size = n := by show l.toArray.size = n; simpa using h
theorem bs_take (l : Bs) (n : Nat) : (bs l).extract 0 n = bs (l.take n) := by
  apply ByteArray.ext
  simp [bs, ByteArray.data_extract]
theorem seal_bs (K N S : Nat) (l : Bs) : sealS K N S (bs l) = bs (Seal.sealL K N S l) := by
  rw [← bs_of (sealS K N S (bs l)), sealS_list, bs_list]
theorem extraL : Builder.Extra Tryz.prog Tryz.repeatH_ren where
  sizeBuilder := by kernel_rfl
  liesBuilder := by kernel_rfl
  t5 := Tryz.repeatH.t5
  a5 := Tryz.repeatH.a5
  z5 := Tryz.repeatH.z5
  v5 := Tryz.repeatH.v5
  infoByte := by kernel_rfl
  cellsByte := by kernel_rfl
  sizeByte := by kernel_rfl
  neB5 := by decide
theorem repeat_isL : Tryz.repeatH_ren.f 105 = 96 := by kernel_rfl
def z232 : Bs := List.replicate 232 0
theorem z232_len : z232.length = 232 := by unfold z232; rw [List.length_replicate]
theorem repeat_232 (w : World) :
    Calls Tryz.prog 96 #[.string ⟨#[0]⟩, .int .i64 232] w fun e w' => e = .returned (.string (bs z232)) ∧ Below w.heap.size w w' := by
  have h := Any.strings_Repeat Tryz.repeatH extraL ⟨#[0]⟩ 232 w (by omega) (by show 1 * 232 ≤ _; omega)
  rw [repeat_isL] at h
  have e : Lib.repeatL (⟨#[0]⟩ : ByteArray).data.toList 232 = z232 := by
    have := Lib.repeatL_replicate 0 1 232
    rw [Nat.mul_one] at this
    exact this
  rw [e] at h
  exact h
/-- A sealed sector ahead of its closing. -/
def slV (K N S : Nat) (l : Bs) : Value := .agg #[.int .i64 (K : Nat), .int .i64 (N : Nat), .int .u64 (S : Nat), .string (bs l)]
theorem close_bs (K N S : Nat) (hK : K < 4294967296) (hN : N < 4294967296) (hS : S < 18446744073709551616) (l : Bs) (hd : l.length = 232) (w : World) :
    Calls Tryz.prog 58 #[slV K N S l] w fun e w' => e = .returned (.tuple #[.string (bs (Seal.sealL K N S l)), .int .i64 0]) ∧ Below w.heap.size w w' := by
  have h := close_yes K N S hK hN hS (bs l) (bs_len hd) w
  rw [seal_bs] at h
  exact h
theorem top_bs (w : World) :
    Calls Tryz.prog 58 #[.agg #[.int .i64 4, .int .i64 1, .int .u64 0, .string (bs z232)]] w fun e w' => e = .returned (.tuple #[.string (bs topL), .int .i64 0]) ∧ Below w.heap.size w w' := close_bs 4 1 0 (by decide) (by decide) (by decide) z232 z232_len w
theorem topL_len : topL.length = 256 := by unfold topL; rw [Seal.seal_len, List.length_replicate]
theorem sum_bs {s : Bs} (h : s.length = 256) (w : World) : Calls Tryz.prog 63 #[.string (bs s)] w fun e w' => e = .returned (.int .u64 (sumL s : Nat)) ∧ w = w' := by
  have := sum_any (bs s) w
  rw [Seal.sumOf_yes (bs_len h)] at this
  exact this
theorem sumL_lt (s : Bs) : sumL s < 18446744073709551616 := Seal.numAt_lt s 248 8
theorem kD_len {l : Bs} (h : okB l = true) : (kD l).length = 232 := by
  have := (okB_iff.1 h).1
  unfold kD
  rw [List.length_take]; omega
theorem open_ok {l : Bs} (h : okB l = true) (w : World) : Calls Tryz.prog 68 #[.string (bs l)] w fun e w' => e = .returned (.tuple #[slV (kK l) (kN l) (kS l) (kD l), .int .i64 0]) ∧ Below w.heap.size w w' := by
  have ho := open_any (bs l) w
  obtain ⟨h1, h2⟩ := okB_iff.1 h
  have hs : (bs l).size = 256 := bs_len h1
  obtain ⟨e1, e2⟩ := open_says hs (show Seal.right (bs l).data.toList from h2)
  rw [e1, e2] at ho
  have e3 : saysV (bs l) = slV (kK l) (kN l) (kS l) (kD l) := by
    unfold saysV slV kD
    rw [bs_take]
    rfl
  rw [e3] at ho
  exact ho
theorem oErr_ne (l : Bs) : oErr l ≠ 0 := by unfold oErr; split <;> decide
theorem open_not {l : Bs} (h : okB l = false) (w : World) : Calls Tryz.prog 68 #[.string (bs l)] w fun e w' => e = .returned (.tuple #[slV 0 0 0 [], .int .i64 (oErr l)]) ∧ Below w.heap.size w w' := by
  have ho := open_any (bs l) w
  have hz : zeroV = slV 0 0 0 [] := rfl
  unfold oErr
  by_cases h1 : l.length = 256
  · have hs : (bs l).size = 256 := bs_len h1
    have hr : ¬ Seal.right (bs l).data.toList := fun e => by rw [okB_iff.2 ⟨h1, e⟩] at h; cases h
    obtain ⟨e1, e2⟩ := open_seal hs hr
    rw [e1, e2, hz] at ho
    rw [if_pos h1]
    exact ho
  · have hs : ¬ (bs l).size = 256 := fun e => h1 (by have : l.toArray.size = 256 := e; simpa using this)
    obtain ⟨e1, e2⟩ := open_size hs
    rw [e1, e2, hz] at ho
    rw [if_neg h1]
    exact ho

set_option maxRecDepth 100000 in
set_option maxHeartbeats 1000000 in
theorem top_any (w : World) : Calls Tryz.prog 57 #[] w fun e w' => e = .returned (.string (bs topL)) ∧ Below w.heap.size w w' := by
  have HC : Hid (∀ w, Calls Tryz.prog 58 #[.agg #[.int .i64 4, .int .i64 1, .int .u64 0, .string (bs z232)]] w fun e w' => e = .returned (.tuple #[.string (bs topL), .int .i64 0]) ∧ Below w.heap.size w w') := hid top_bs
  have HR : Hid (∀ w, Calls Tryz.prog 96 #[.string ⟨#[0]⟩, .int .i64 232] w fun e w' => e = .returned (.string (bs z232)) ∧ Below w.heap.size w w') := hid repeat_232
  generalize bs z232 = Z at *
  generalize bs topL = T at *
  go_enter Tryz.func57, Tryz.ntmps57
  go_wp2_with fail
  refine (HR.out _).mono ?_
  rintro e w1 ⟨rfl, hb1⟩
  have HB1 := hid hb1
  clear hb1
  go_wp2_with fail
  refine (HC.out _).mono ?_
  rintro e w2 ⟨rfl, hb2⟩
  have HB2 : Hid (Below w.heap.size w w2) := hid (HB1.out.trans (hb2.mono HB1.out.size))
  clear hb2
  go_wp2
  go_ret
  exact ⟨rfl, HB2.out⟩
set_option maxRecDepth 100000 in
theorem place_any (i : Nat) (hi : i ≤ 1000000) (w : World) : Calls Tryz.prog 61 #[.int .i64 (i : Nat)] w fun e w' => e = .returned (.int .i64 (i + 1 : Nat)) ∧ w = w' := by
  go_enter Tryz.func61, Tryz.ntmps61
  go_wp2
  go_ret
  exact ⟨rfl, rfl⟩
def kindOf (c : Bool) : Nat := if c then 6 else 5
theorem kindOf_lt (c : Bool) : kindOf c < 4294967296 := by cases c <;> decide
set_option maxRecDepth 100000 in
set_option maxHeartbeats 1000000 in
theorem sealed_any (n S : Nat) (l : Bs) (c : Bool) (w : World) : Calls Tryz.prog 59 #[.int .i64 (n : Nat), .string (bs l), .bool c, .int .u64 (S : Nat)] w fun e w' => e = .returned (slV (kindOf c) n S l) ∧ Below w.heap.size w w' := by
  unfold slV
  generalize bs l = D at *
  cases c
  · go_enter Tryz.func59, Tryz.ntmps59
    go_wp2
    exact bodyPost_ret (v := .agg #[.int .i64 (kindOf false : Nat), .int .i64 (n : Nat), .int .u64 (S : Nat), .string D]) (by simp [results, kindOf, go_sem]) rfl ⟨rfl, (Below.refl _ _).alloc (Nat.le_refl _) _⟩
  · go_enter Tryz.func59, Tryz.ntmps59
    go_wp2
    exact bodyPost_ret (v := .agg #[.int .i64 (kindOf true : Nat), .int .i64 (n : Nat), .int .u64 (S : Nat), .string D]) (by simp [results, kindOf, go_sem]) rfl ⟨rfl, (Below.refl _ _).alloc (Nat.le_refl _) _⟩
theorem below_dN {B : Nat} {a w : World} (h : Below B a w) (n : Nat) : Below B a (w.drewN n) := ⟨h.os, h.tape, h.output, h.size, h.block⟩
theorem sumP_last {fs : List Fr} (h : 0 < fs.length) : sumP fs = (fs[fs.length - 1]'(by omega)).2 := by
  rcases List.eq_nil_or_concat fs with rfl | ⟨r, x, rfl⟩
  · simp at h
  · simp only [List.concat_eq_append]
    rw [sumP_snoc]
    simp
set_option maxRecDepth 100000 in
set_option maxHeartbeats 1000000 in
theorem sum_any_ (h : PL O d m j b f M fs w) : Calls Tryz.prog 60 #[ptr j] w fun e w' => e = .returned (.int .u64 (sumP fs : Nat)) ∧ Below w.heap.size w w' := by
  obtain ⟨ao, cap, rfl⟩ := h.shape
  have c1 := h.c1
  have hfew := h.few
  by_cases h0 : fs.length = 0
  · have e : sumP fs = sumL topL := by rw [List.eq_nil_of_length_eq_zero h0]; rfl
    have HE := hid e
    have HS := hid (fun w => sum_bs topL_len w)
    have HT := hid top_any
    rw [h0] at c1
    generalize bs topL = T at *
    clear h e hfew h0
    go_enter Tryz.func60, Tryz.ntmps60
    go_wp2_with fail
    refine (HT.out _).mono ?_
    rintro e w1 ⟨rfl, hb1⟩
    have HB := hid hb1
    clear hb1
    go_wp2_with fail
    refine (HS.out _).mono ?_
    rintro e w2 ⟨rfl, rfl⟩
    go_wp2
    go_ret
    rw [HE.out]
    exact ⟨rfl, HB.out⟩
  · obtain ⟨k, hk⟩ : ∃ k, fs.length = k + 1 := ⟨fs.length - 1, by omega⟩
    obtain ⟨g, rfl, hg, hc, q0, q1⟩ := fr_at h.row k (by omega)
    have e : sumP fs = (fs[k]'(by omega)).2 := by
      rw [sumP_last (by omega)]
      congr 2
      omega
    rw [← e] at q1
    have hw1 : wrap64 (((k + 1 : Nat) : Int) - 1) = (k : Int) := by rw [Num.wrap_i]; omega
    have hne : (((k + 1 : Nat) : Int) == 0) = false := by simp; omega
    have hlt : (k : Int) < ((k + 1 : Nat) : Int) := by omega
    rw [hk] at c1 hfew
    generalize sumP fs = S at *
    clear h e q0 hk h0
    go_enter Tryz.func60, Tryz.ntmps60
    go_upto_region 3 with fail
    go_quiet (fail)
    go_wp2
    go_ret
    exact ⟨rfl, below_dN (Below.refl _ _) _⟩
end Lo
end Go.Proofs.YtgmbiiocjhkpdaaGreat

/-
  Contracts of the project's log: take (a frame more).
-/
namespace Go.Proofs.YtgmbiiocjhkpdaaGreat
open Go.RowKit Go.Shelf
namespace Lo
open Num (hid)
open Jo (okB kK kN kS kD okB_iff)
open Disk (Mod Fil Sees Stays)
open Mem (Bs bs tI Chg ptr blk_cell blk_free blk_new blk_set blk_other blk_alloc row_kept row_shape row_type append_from step_append_run wpList_append_run)
variable {O O' : Nat → Prop} {d m j b : Nat} {f f' : Value} {M M' : Mod} {fs fs' : List Fr} {w w' : World}
/-- Behind a call that may turn the log's row. -/
def Left' (O : Nat → Prop) (d m j b : Nat) (M : Mod) (fs : List Fr) (w w' : World) : Prop := ∃ f', PL O d m j b f' M fs w' ∧ Stays O w w'
theorem Left'.pre {w1 : World} (h : Left' O d m j b M fs w1 w') (hs : Stays O w w1) : Left' O d m j b M fs w w' := by
  obtain ⟨f', h1, h2⟩ := h
  exact ⟨f', h1, hs.trans h2⟩
/-- The last store of take. -/
theorem PL.more (h : PL O d m j b f M fs w) {n s : Nat} (hn : n < 4096) (hs : s < 18446744073709551616) (hl : fs.length < 20000) {w1 w2 : World} (hc1 : Chg (· = b) w w1) (hm : ∃ c, c ≤ (fs ++ [(n, s)]).length ∧ MapI w1 b c (lookL (fs ++ [(n, s)])))
    (ho : w2.ownsRow 0 tFr 2 f' (fs ++ [(n, s)]).length ((fs ++ [(n, s)]).flatMap frV)) (hc : Chg (fun k => f.ownBlock = some k) w1 w2) (hk : ∀ k, f'.ownBlock = some k → f.ownBlock = some k ∨ w1.heap.size ≤ k) :
    PL O d m j b f' M (fs ++ [(n, s)]) (w2.setCell ⟨j, 1, none⟩ f') ∧ Stays O w (w2.setCell ⟨j, 1, none⟩ f') := by
  have hz := hc1.size
  obtain ⟨c, hcl, hmi⟩ := hm
  have hbox1 := hc1.at h.box (fun e => h.ne e)
  have hbox2 := hc.at hbox1 h.nj
  have hset : Chg (· = j) w2 (w2.setCell ⟨j, 1, none⟩ f') := (Chg.refl (· = j) w2).root 1 _
  have hj := lt_of_block hbox1
  have hfj : ∀ g, f'.ownBlock = some g → g ≠ j := fun g hg e => by
    subst e
    rcases hk g hg with e | e
    · exact h.nj e
    · omega
  have hall : Chg (pX j b f) w (w2.setCell ⟨j, 1, none⟩ f') := (hc1.mono (fun k _ e => (Or.inr (Or.inl e) : pX j b f k))).trans ((hc.mono (fun k _ e => (Or.inr (Or.inr e) : pX j b f k))).trans (hset.mono (fun k _ e => (Or.inl e : pX j b f k))))
  refine h.turn hall (fun k hk => hk) ?_ (row_kept ho hset (fun g hg e => hfj g hg e)) ⟨c, hcl, (hmi.apart hc (fun e => h.nb e)).apart hset (fun e => h.ne e.symm)⟩ (fun k hk' => (hk k hk').imp_right fun e => Nat.le_trans hz e) (by rw [List.length_append]; show fs.length + 1 ≤ _; omega) ?_ ?_
  · have := blk_set hbox2 1 f'
    simpa [pCells] using this
  · intro x hx
    rcases List.mem_append.1 hx with hx | hx
    · exact h.small x hx
    · rw [List.mem_singleton] at hx
      subst hx
      exact hn
  · intro x hx
    rcases List.mem_append.1 hx with hx | hx
    · exact h.sums x hx
    · rw [List.mem_singleton] at hx
      subst hx
      exact hs
set_option maxRecDepth 100000 in
set_option maxHeartbeats 4000000 in
theorem take_any (h : PL O d m j b f M fs w) {n s : Nat} (hn : n < 4096) (hs : s < 18446744073709551616) (hl : fs.length < 20000) :
    Calls Tryz.prog 62 #[ptr j, .agg #[.int .i64 (n : Nat), .int .u64 (s : Nat)]] w fun e w' => e = .returned (.tuple #[]) ∧ Left' O d m j b M (fs ++ [(n, s)]) w w' := by
  obtain ⟨ao, cap, rfl⟩ := h.shape
  obtain ⟨w1, hw1⟩ : ∃ x, w.alloc (.cells #[.int .i64 (n : Nat), .int .u64 (s : Nat)] tFr) = x := ⟨_, rfl⟩
  have B1 : Below w.heap.size w w1 := by rw [← hw1]; exact (Below.refl _ _).alloc (Nat.le_refl _) _
  have hq : w1.heap[w.heap.size]? = some (.cells #[.int .i64 (n : Nat), .int .u64 (s : Nat)] tFr (0, 0)) := by rw [← hw1]; exact blk_new w _
  have h1 := h.on B1
  obtain ⟨w2, hr2, hc2, hm2⟩ := (h1.on (Below.refl _ w1).drew).mark hn
  have hm2 := hm2 s
  have hc2' : Chg (· = b) w1 w2 := Chg.trans ((Chg.refl _ _).drew) hc2
  obtain ⟨c0, hc0, hmi0⟩ := h.map
  have hqb : w.heap.size ≠ b := by have := hmi0.lt; omega
  have hqj : w.heap.size ≠ j := by have := lt_of_block h.box; omega
  have hqf : ¬ (Value.slice ao fs.length cap).ownBlock = some w.heap.size := fun e => by have := (h.row.lt _ e).2; omega
  have hq2 := hc2'.at hq hqb
  have hbox2 := hc2'.at h1.box h1.ne
  have hrow2 := row_kept h1.row hc2' (fun g hg e => h.nb (e ▸ hg))
  obtain ⟨f', w3, hr3, ho3, hc3, hk3⟩ := push_fr (w := w2.drew) hrow2 (n, s) (by omega)
  have hc3' : Chg (fun k => (Value.slice ao fs.length cap).ownBlock = some k) w2 w3 := Chg.trans ((Chg.refl _ _).drew) hc3
  obtain ⟨ao', cap', rfl⟩ : ∃ ao' cap', f' = .slice ao' (fs ++ [(n, s)]).length cap' := by obtain ⟨ao', cap', e, _⟩ := row_shape ho3; exact ⟨ao', cap', e⟩
  obtain ⟨hpl, hst⟩ := h1.more hn hs hl hc2' hm2 ho3 hc3' hk3
  have HPL := hid hpl
  have HST : Hid (Stays O w (w3.setCell ⟨j, 1, none⟩ (.slice ao' (fs ++ [(n, s)]).length cap'))) := hid ((stays_of B1).trans hst)
  have hbox3 := hc3'.at hbox2 h.nj
  have g3 : w3.frozen? ⟨j, 1, none⟩ = false := blk_free hbox3 1
  have k3 : w3.cell? ⟨j, 1, none⟩ = some (.slice ao fs.length cap) := blk_cell hbox3 1
  have a1 : w1.cell? ⟨j, 1, none⟩ = some (.slice ao fs.length cap) := blk_cell h1.box 1
  have a2 : w1.cell? ⟨j, 2, none⟩ = some (.map (some b)) := blk_cell h1.box 2
  have q0 : w1.cell? ⟨w.heap.size, 0, none⟩ = some (.int .i64 (n : Nat)) := blk_cell hq 0
  have b1 : w2.cell? ⟨j, 1, none⟩ = some (.slice ao fs.length cap) := blk_cell hbox2 1
  have p0 : w2.cell? ⟨w.heap.size, 0, none⟩ = some (.int .i64 (n : Nat)) := blk_cell hq2 0
  have p1 : w2.cell? ⟨w.heap.size, 1, none⟩ = some (.int .u64 (s : Nat)) := blk_cell hq2 1
  have lj := lt_of_block hbox2
  have lq := lt_of_block hq2
  obtain ⟨N, hN⟩ : ∃ N, (fs ++ [(n, s)]).length = N := ⟨_, rfl⟩
  have HR2 := hid hr2
  have HR3 := hid hr3
  have HW := hid hw1
  rw [hN] at HPL HST HR3
  clear hpl hst hr3 ho3 hc3 hk3 hc3' hm2 hc2 hc2' hrow2 hmi0 hc0 h1 h hq hq2 hbox2 hbox3 hqf hw1 B1 hl hs hr2
  generalize fs ++ [(n, s)] = gs at *
  clear hN
  go_enter Tryz.func62, Tryz.ntmps62
  go_upto_region 1 with fail
  rw [HW.out]
  have hr2 := HR2.out
  go_region
  clear hr2 a1 a2 q0
  go_upto_region 2 with fail
  go_region_law ((refine step_append_run (by rfl) (.tmp 19) (.tmp 21) tFrs tFrs (by rfl) _ _ (by simp [Act.eval]) (by simp [Act.eval]) HR3.out ?_))
  all_goals
    go_wp2
    go_end0
    exact ⟨rfl, _, HPL.out, HST.out⟩
end Lo
end Go.Proofs.YtgmbiiocjhkpdaaGreat
