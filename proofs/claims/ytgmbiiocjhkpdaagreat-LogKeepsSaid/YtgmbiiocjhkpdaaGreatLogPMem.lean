/-
  The project's log in memory: its box, its row of frames, the map of last frames, the disk beside them; whoever the others are, they stay.
-/
import Derived.Test.YtgmbiiocjhkpdaaGreatLogKeys
import Derived.Test.YtgmbiiocjhkpdaaGreatGrpJDke
namespace Go.Proofs.YtgmbiiocjhkpdaaGreat
open Go.RowKit
namespace Lo
open Num (hid)
open Disk (Mod Fil Sees Stays)
open Mem (Bs bs tI Chg ptr blk_cell blk_free blk_new blk_set blk_other blk_alloc row_kept row_shape row_type append_from)
abbrev tLo : TypeId := 81
abbrev tFr : TypeId := 98
abbrev tFrs : TypeId := 79
theorem toMem' {F : Nat → Prop} {w w' : World} (h : Disk.Chg F w w') : Chg F w w' := ⟨h.os, h.tape, h.output, h.size, h.block⟩
theorem toDisk' {F : Nat → Prop} {w w' : World} (h : Chg F w w') : Disk.Chg F w w' := ⟨h.os, h.tape, h.output, h.size, h.block⟩
def frV (x : Fr) : List Value := [.int .i64 (x.1 : Nat), .int .u64 (x.2 : Nat)]
theorem frV_len (x : Fr) : (frV x).length = 2 := rfl
set_option maxRecDepth 100000 in
theorem frInfo : ∃ i, Tryz.prog.info? tFr = some i ∧ i.zero = some (.agg #[.int .i64 0, .int .u64 0]) ∧ i.size = 2 ∧ i.bytes = 16 := by
  refine ⟨_, rfl, ?_⟩
  refine ⟨?_, ?_, ?_⟩ <;> rfl
theorem frV_one (x : Fr) : ∀ u ∈ frV x, u.oneCell' = true := by
  intro u hu
  simp only [frV, List.mem_cons, List.not_mem_nil, or_false] at hu
  rcases hu with rfl | rfl <;> rfl
/-- One frame more. -/
theorem push_fr {w : World} {v : Value} {l : List Fr} (h : w.ownsRow 0 tFr 2 v l.length (l.flatMap frV)) (x : Fr) (hn : l.length ≤ 100000) :
    ∃ v' w', (Builtin.append_ #[tFrs, tFrs] tFrs #[v, .slice (some ⟨w.heap.size, 0, none⟩) 1 1]).run Tryz.prog (w.alloc (.cells #[.int .i64 (x.1 : Nat), .int .u64 (x.2 : Nat)] tFr)) = .ok v' w' ∧ w'.ownsRow 0 tFr 2 v' (l ++ [x]).length ((l ++ [x]).flatMap frV) ∧ Chg (fun k => v.ownBlock = some k) w w' ∧ (∀ k, v'.ownBlock = some k → v.ownBlock = some k ∨ w.heap.size ≤ k) := by
  obtain ⟨i, hi, h0, h1, h2⟩ := frInfo
  obtain ⟨v', w', hr, ho, hc, hw⟩ := append_from tFrs tFr i _ 2 16 Tryz.underlying79 hi h0 h1 h2 rfl (by decide) (by decide) (h.alloc (.cells #[.int .i64 (x.1 : Nat), .int .u64 (x.2 : Nat)] tFr)) (b := w.heap.size) (o := 0) (m := 1) (c := 1) (ys := frV x) rfl (by
    intro j hj
    rw [Nat.zero_add, blk_cell (blk_new w _) j, List.getElem?_toArray]
    exact List.getElem?_eq_getElem hj) (frV_one x) (by omega)
  have hk : ∀ k, v'.ownBlock = some k → v.ownBlock = some k ∨ w.heap.size ≤ k := fun k hk => by
    rcases hw k hk with h | h
    · exact Or.inl h
    · right; simp at h; omega
  refine ⟨v', w', hr, ?_, ((Chg.refl _ w).alloc _).trans hc, hk⟩
  rw [List.flatMap_append, List.length_append]
  simpa using ho
/-- The first frames of a row. -/
theorem fr_cut {w : World} {l : List Fr} {n cap : Nat} {ao : Option Addr} (h : w.ownsRow 0 tFr 2 (.slice ao n cap) l.length (l.flatMap frV)) {c : Nat} (hc : c ≤ l.length) :
    n = l.length ∧ c ≤ cap ∧ w.ownsRow 0 tFr 2 (.slice ao c cap) (l.take c).length ((l.take c).flatMap frV) := by
  have hl : (l.take c).length = c := by rw [List.length_take]; omega
  have hf : (l.flatMap frV).take (c * 2) = (l.take c).flatMap frV := by
    rw [← List.take_append_drop c l, List.flatMap_append, List.take_append_drop]
    rw [List.take_left' (by rw [Mem.flat_len frV_len, hl])]
  rw [hl]
  obtain ⟨h1, h2⟩ := h
  refine ⟨?_, ?_, by rw [Mem.flat_len frV_len, hl], ?_⟩
  · rcases h2 with ⟨h2, h3⟩ | ⟨g, cap', cur, h2, _⟩
    · cases h2; omega
    · cases h2; rfl
  · rcases h2 with ⟨h2, h3⟩ | ⟨g, cap', cur, h2, h3, h4, h5, _⟩
    · cases h2; omega
    · cases h2; omega
  · rcases h2 with ⟨h2, h3⟩ | ⟨g, cap', cur, h2, h3, h4, h5, h6, h7, h8⟩
    · cases h2
      exact Or.inl ⟨by have : c = 0 := by omega
                       subst this; rfl, by omega⟩
    · cases h2
      refine Or.inr ⟨g, cap, cur, rfl, h3, h4, by omega, h6, h7, ?_⟩
      have e := congrArg (List.take (c * 2)) h8
      rw [List.take_take, hf] at e
      have e2 : min (c * 2) (l.length * 2) = c * 2 := by omega
      rw [e2] at e
      exact e
/-- The cells of a frame of a row. -/
theorem fr_at {w : World} {l : List Fr} {n cap : Nat} {ao : Option Addr} (h : w.ownsRow 0 tFr 2 (.slice ao n cap) l.length (l.flatMap frV)) (j : Nat) (hj : j < l.length) :
    ∃ g, ao = some ⟨g, 0, none⟩ ∧ g < w.heap.size ∧ (j : Int) < (cap : Int) ∧ w.cell? ⟨g, j * 2, none⟩ = some (.int .i64 (l[j].1 : Nat)) ∧ w.cell? ⟨g, j * 2 + 1, none⟩ = some (.int .u64 (l[j].2 : Nat)) := by
  obtain ⟨h1, h2⟩ := h
  rcases h2 with ⟨h2, h3⟩ | ⟨g, cap', cur, h2, h3, h4, h5, h6, h7, h8⟩
  · omega
  · cases h2
    have hx : ∀ i, i < 2 → cur[j * 2 + i]? = (frV l[j])[i]? := fun i hi => by
      have e : (cur.toList.take (l.length * 2))[j * 2 + i]? = (l.flatMap frV)[j * 2 + i]? := by rw [h8]
      rw [List.getElem?_take_of_lt (by omega), Mem.flat_at frV_len l j hj i hi] at e
      simpa using e
    refine ⟨g, rfl, lt_of_block h4, by omega, ?_, ?_⟩
    · rw [blk_cell h4]; exact hx 0 (by decide)
    · rw [blk_cell h4]; exact hx 1 (by decide)

/-- The blocks of a log. -/
def pX (j b : Nat) (f : Value) : Nat → Prop := fun k => k = j ∨ k = b ∨ f.ownBlock = some k
def pCells (d b : Nat) (f : Value) : Array Value := #[ptr d, f, .map (some b)]
/-- A log at j, its frames in the row f, its map at b, the disk at d: none of them the others'. -/
structure PL (O : Nat → Prop) (d m j b : Nat) (f : Value) (M : Mod) (fs : List Fr) (w : World) : Prop where
  disk : Sees (fun k => O k ∨ pX j b f k) d m M w
  box : w.heap[j]? = some (.cells (pCells d b f) tLo (0, 0))
  row : w.ownsRow 0 tFr 2 f fs.length (fs.flatMap frV)
  map : ∃ c, c ≤ fs.length ∧ MapI w b c (lookL fs)
  ne : j ≠ b
  nj : f.ownBlock ≠ some j
  nb : f.ownBlock ≠ some b
  out : ∀ k, pX j b f k → ¬ O k
  few : fs.length ≤ 20000
  small : ∀ x ∈ fs, x.1 < 4096
  sums : ∀ x ∈ fs, x.2 < 18446744073709551616
variable {O O' : Nat → Prop} {d m j b : Nat} {f f' : Value} {M M' : Mod} {fs fs' : List Fr} {w w' : World}
theorem fewer {O O' : Nat → Prop} {w w' : World} (h : Stays O w w') (hO : ∀ k, O' k → O k) : Stays O' w w' := Disk.Chg.mono h (fun _ _ hn ho => hn (hO _ ho))
theorem stays_of {O : Nat → Prop} {w w' : World} (h : Below w.heap.size w w') : Stays O w w' := Disk.Chg.of_below h
theorem PL.olt (h : PL O d m j b f M fs w) {k : Nat} (hk : O k) : k < w.heap.size := by
  obtain ⟨tag, L, D, hL, hN, hs⟩ := h.disk
  exact hs k (Or.inl hk)
theorem PL.on (h : PL O d m j b f M fs w) (hb : Below w.heap.size w w') : PL O d m j b f M fs w' := by
  obtain ⟨c, hc, hm⟩ := h.map
  exact ⟨h.disk.kept hb, (hb.block _ (lt_of_block h.box)).trans h.box, row_kept h.row (F := fun _ => False) (Chg.of_below hb) (fun _ _ x => x), ⟨c, hc, hm.apart (F := fun _ => False) (Chg.of_below hb) (fun x => x)⟩, h.ne, h.nj, h.nb, h.out, h.few, h.small, h.sums⟩
/-- Behind a call of the disk alone. -/
theorem PL.over (h : PL O d m j b f M fs w) (hd : Sees (fun k => O k ∨ pX j b f k) d m M' w') (hs : Stays (fun k => O k ∨ pX j b f k) w w') : PL O d m j b f M' fs w' := by
  obtain ⟨c, hc, hm⟩ := h.map
  exact ⟨hd, hs.at h.box (Or.inr (Or.inl rfl)), row_kept h.row (toMem' hs) (fun g hg x => x (Or.inr (Or.inr (Or.inr hg)))), ⟨c, hc, hm.apart (toMem' hs) (fun x => x (Or.inr (Or.inr (Or.inl rfl))))⟩, h.ne, h.nj, h.nb, h.out, h.few, h.small, h.sums⟩
theorem PL.stays (hs : Stays (fun k => O k ∨ pX j b f k) w w') : Stays O w w' := fewer hs (fun _ hk => Or.inl hk)
/-- What was made since is none of the log's. -/
theorem PL.also (h : PL O d m j b f M fs w) (hb : Below w.heap.size w w') : PL (fun k => O k ∨ (w.heap.size ≤ k ∧ k < w'.heap.size)) d m j b f M fs w' := by
  have h2 := h.on hb
  obtain ⟨c, hc, hm⟩ := h.map
  refine ⟨(h.disk.more hb).fewer ?_, h2.box, h2.row, h2.map, h.ne, h.nj, h.nb, ?_, h.few, h.small, h.sums⟩
  · rintro k ((hk | hk) | hk)
    · exact Or.inl (Or.inl hk)
    · exact Or.inr hk
    · exact Or.inl (Or.inr hk)
  · rintro k hk (hO | ⟨h1, h2⟩)
    · exact h.out k hk hO
    · rcases hk with rfl | rfl | hk
      · have := lt_of_block h.box; omega
      · have := hm.lt; omega
      · have := (h.row.lt k hk).2; omega
theorem PL.fewerO (h : PL O d m j b f M fs w) (hO : ∀ k, O' k → O k) : PL O' d m j b f M fs w :=
  ⟨h.disk.fewer (fun k hk => hk.imp_left (hO k)), h.box, h.row, h.map, h.ne, h.nj, h.nb, fun k hk h' => h.out k hk (hO k h'), h.few, h.small, h.sums⟩
/-- Where the others' own blocks turn, and new ones come. -/
theorem sees_beside {O F : Nat → Prop} {d m : Nat} {M : Mod} {w w' : World} (h : Sees O d m M w) (hc : Chg F w w') (hF : ∀ k, F k → k < w.heap.size → O k) : Sees (fun k => O k ∨ (w.heap.size ≤ k ∧ k < w'.heap.size)) d m M w' := by
  obtain ⟨tag, L, D, hL, hN, hs⟩ := h
  have hc2 : Disk.Chg (fun k => F k ∧ k < w.heap.size) w w' := (toDisk' hc).mono (fun k hk e => ⟨e, hk⟩)
  have D3 : Disk.DiskAt (Disk.norm tag w.heap.size) w' d m M.c L := D.kept (F := fun k => F k ∧ k < w.heap.size) hc2 (fun k hk => Disk.norm_lt tag hk) (fun k hk => hN k (hF k hk.1 hk.2))
  refine ⟨Disk.norm tag w.heap.size, L, D3, hL, ?_, ?_⟩
  · rintro k (hk | ⟨hk, _⟩)
    · rw [Disk.norm_lt tag (hs k hk)]; exact hN k hk
    · exact Disk.norm_ge tag hk
  · rintro k (hk | ⟨_, hk⟩)
    · exact Nat.lt_of_lt_of_le (hs k hk) hc.size
    · exact hk
/-- Where the log's own blocks turn. -/
theorem PL.turn {F : Nat → Prop} (h : PL O d m j b f M fs w) (hc : Chg F w w') (hF : ∀ k, F k → pX j b f k) (hbox : w'.heap[j]? = some (.cells (pCells d b f') tLo (0, 0)))
    (hrow : w'.ownsRow 0 tFr 2 f' fs'.length (fs'.flatMap frV)) (hmap : ∃ c, c ≤ fs'.length ∧ MapI w' b c (lookL fs')) (hf : ∀ k, f'.ownBlock = some k → f.ownBlock = some k ∨ w.heap.size ≤ k)
    (hfew : fs'.length ≤ 20000) (hsm : ∀ x ∈ fs', x.1 < 4096) (hsu : ∀ x ∈ fs', x.2 < 18446744073709551616) : PL O d m j b f' M fs' w' ∧ Stays O w w' := by
  have hj := lt_of_block h.box
  obtain ⟨c, hc0, hm0⟩ := h.map
  have hb := hm0.lt
  have hz := hc.size
  have hlt : ∀ k, f'.ownBlock = some k → k < w'.heap.size := fun k hk => (hrow.lt k hk).2
  refine ⟨⟨(sees_beside h.disk hc (fun k hk _ => Or.inr (hF k hk))).fewer ?_, hbox, hrow, hmap, h.ne, fun e => ?_, fun e => ?_, ?_, hfew, hsm, hsu⟩, toDisk' (hc.mono fun k _ hk hO => h.out k (hF k hk) hO)⟩
  · rintro k (hk | rfl | rfl | hk)
    · exact Or.inl (Or.inl hk)
    · exact Or.inl (Or.inr (Or.inl rfl))
    · exact Or.inl (Or.inr (Or.inr (Or.inl rfl)))
    · rcases hf k hk with e | e
      · exact Or.inl (Or.inr (Or.inr (Or.inr e)))
      · exact Or.inr ⟨e, hlt k hk⟩
  · rcases hf j e with e | e
    · exact h.nj e
    · omega
  · rcases hf b e with e | e
    · exact h.nb e
    · omega
  · rintro k (rfl | rfl | hk) hO
    · exact h.out _ (Or.inl rfl) hO
    · exact h.out _ (Or.inr (Or.inl rfl)) hO
    · rcases hf k hk with e | e
      · exact h.out _ (Or.inr (Or.inr e)) hO
      · have := h.olt hO; omega
/-- Where the others' own blocks turn. -/
theorem PL.side {F : Nat → Prop} (h : PL O d m j b f M fs w) (hc : Chg F w w') (hF : ∀ k, F k → k < w.heap.size → O k) : PL (fun k => O k ∨ (w.heap.size ≤ k ∧ k < w'.heap.size)) d m j b f M fs w' := by
  obtain ⟨c, hcl, hm⟩ := h.map
  have hj := lt_of_block h.box
  have hb := hm.lt
  have hf : ∀ g, f.ownBlock = some g → g < w.heap.size := fun g hg => (h.row.lt g hg).2
  have hX : ∀ k, pX j b f k → k < w.heap.size := fun k hk => by
    rcases hk with rfl | rfl | hk
    · exact hj
    · exact hb
    · exact hf k hk
  have hno : ∀ k, pX j b f k → ¬ F k := fun k hk hFk => h.out k hk (hF k hFk (hX k hk))
  refine ⟨(sees_beside h.disk hc (fun k hk hl => Or.inl (hF k hk hl))).fewer ?_, hc.at h.box (hno j (Or.inl rfl)), row_kept h.row hc (fun g hg => hno g (Or.inr (Or.inr hg))), ⟨c, hcl, hm.apart hc (hno b (Or.inr (Or.inl rfl)))⟩, h.ne, h.nj, h.nb, ?_, h.few, h.small, h.sums⟩
  · rintro k ((hk | hk) | hk)
    · exact Or.inl (Or.inl hk)
    · exact Or.inr hk
    · exact Or.inl (Or.inr hk)
  · rintro k hk (hO | ⟨h1, _⟩)
    · exact h.out k hk hO
    · have := hX k hk; omega
theorem PL.c0 (h : PL O d m j b f M fs w) : w.cell? ⟨j, 0, none⟩ = some (ptr d) := blk_cell h.box 0
theorem PL.c1 (h : PL O d m j b f M fs w) : w.cell? ⟨j, 1, none⟩ = some f := blk_cell h.box 1
theorem PL.c2 (h : PL O d m j b f M fs w) : w.cell? ⟨j, 2, none⟩ = some (.map (some b)) := blk_cell h.box 2
theorem PL.shape (h : PL O d m j b f M fs w) : ∃ ao cap, f = .slice ao fs.length cap := by
  obtain ⟨ao, cap, e, _⟩ := row_shape h.row
  exact ⟨ao, cap, e⟩
theorem wf_small {n : Nat} (h : n ≤ 9223372036854775807) : Wf (n : Int) := wf_of (by omega) (by omega)
/-- The map's turn in take: the frame that comes has the place behind all others. -/
theorem PL.mark (h : PL O d m j b f M fs w) {n : Nat} (hn : n < 4096) :
    ∃ w1, (Instr.mapUpdate tMi (.map (some b)) (.int .i64 (n : Int)) (.int .i64 (fs.length : Nat))).run Tryz.prog w = .ok () w1 ∧ Chg (· = b) w w1 ∧ ∀ s, ∃ c, c ≤ (fs ++ [(n, s)]).length ∧ MapI w1 b c (lookL (fs ++ [(n, s)])) := by
  obtain ⟨c, hc, hm⟩ := h.map
  have := h.few
  obtain ⟨w1, hr, hm1, hc1⟩ := hm.put (wf_small (n := n) (by omega)) (wf_small (n := fs.length) (by omega)) (by omega)
  refine ⟨w1, hr, hc1, fun s => ⟨c + 1, by rw [List.length_append]; show c + 1 ≤ _ + 1; omega, ?_⟩⟩
  rw [lookL_snoc]
  exact hm1
/-- A new log: nothing in it. -/
theorem PL.new (h : Sees O d m M w) : PL O d m (w.heap.size + 1) w.heap.size (.slice none 0 0) M [] ((w.alloc (.map #[] 0)).alloc (.cells (pCells d w.heap.size (.slice none 0 0)) tLo)) ∧ Below w.heap.size w ((w.alloc (.map #[] 0)).alloc (.cells (pCells d w.heap.size (.slice none 0 0)) tLo)) := by
  have hb : Below w.heap.size w ((w.alloc (.map #[] 0)).alloc (.cells (pCells d w.heap.size (.slice none 0 0)) tLo)) := ((Below.refl _ _).alloc (Nat.le_refl _) _).alloc (by simp) _
  have e1 : (w.alloc (.map #[] 0)).heap.size = w.heap.size + 1 := by simp
  have hO : ∀ k, O k → k < w.heap.size := by obtain ⟨tag, L, D, hL, hN, hs⟩ := h; exact hs
  refine ⟨⟨(h.more hb).fewer ?_, ?_, ⟨rfl, Or.inl ⟨rfl, rfl⟩⟩, ⟨0, Nat.le_refl _, ?_⟩, by omega, fun e => (by cases e), fun e => (by cases e), ?_, Nat.zero_le _, fun x hx => (by cases hx), fun x hx => (by cases hx)⟩, hb⟩
  · rintro k (hk | rfl | rfl | hk)
    · exact Or.inl hk
    · exact Or.inr ⟨by omega, by simp⟩
    · exact Or.inr ⟨Nat.le_refl _, by simp; omega⟩
    · cases hk
  · have := blk_new (w.alloc (.map #[] 0)) (.cells (pCells d w.heap.size (.slice none 0 0)) tLo)
    rwa [e1] at this
  · exact (mapI_new w).apart (F := fun _ => False) ((Chg.refl _ _).alloc _) (fun x => x)
  · rintro k (rfl | rfl | hk) hO'
    · have := hO _ hO'; omega
    · have := hO _ hO'; omega
    · cases hk
end Lo
end Go.Proofs.YtgmbiiocjhkpdaaGreat
