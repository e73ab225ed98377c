/-
  What LogBack carries: the log beside what came in, and beside a row of frames of its own.
-/
import Derived.Test.YtgmbiiocjhkpdaaGreatLogAwake
namespace Go.Proofs.YtgmbiiocjhkpdaaGreat
open Go.RowKit Go.Shelf
namespace Lo
open Num (hid)
open Disk (Mod Fil Sees Stays off_sees on_sees)
open Mem (Bs bs LAt iV tI Chg ptr blk_cell blk_free blk_new blk_set blk_other blk_alloc row_kept row_shape row_type append_from run_append_who)
variable {O O' : Nat → Prop} {d m j b : Nat} {f f' : Value} {M M' : Mod} {w w' : World} {l : List Fm} {A : Nat} {r : Int}
abbrev tFI : TypeId := 64
abbrev tFIs : TypeId := 61
theorem AW.fewer (h : AW O d m j b r l A w) (hO : ∀ k, O' k → O k) : AW O' d m j b r l A w := by
  obtain ⟨f, M, L, h1, h2⟩ := h.ex
  exact ⟨f, M, L, h1.fewerO hO, h2⟩
theorem AW.side {F : Nat → Prop} (h : AW O d m j b r l A w) (hc : Chg F w w') (hF : ∀ k, F k → k < w.heap.size → O k) : AW (fun k => O k ∨ (w.heap.size ≤ k ∧ k < w'.heap.size)) d m j b r l A w' := by
  obtain ⟨f, M, L, h1, h2⟩ := h.ex
  exact ⟨f, M, L, h1.side hc hF, h2⟩
theorem AW.olt (h : AW O d m j b r l A w) {k : Nat} (hk : O k) : k < w.heap.size := by
  obtain ⟨f, M, L, h1, h2⟩ := h.ex
  exact h1.olt hk
set_option maxRecDepth 100000 in
theorem fiInfo : ∃ i, Tryz.prog.info? tFI = some i ∧ i.zero = some (.agg #[.int .i64 0, .int .u8 0, .bool false, .bool false]) ∧ i.size = 4 ∧ i.bytes = 16 := by
  refine ⟨_, rfl, ?_⟩
  refine ⟨?_, ?_, ?_⟩ <;> rfl
theorem fiV_one (x : FI) : ∀ u ∈ fiV x, u.oneCell' = true := by
  intro u hu
  simp only [fiV, List.mem_cons, List.not_mem_nil, or_false] at hu
  rcases hu with rfl | rfl | rfl | rfl <;> rfl
theorem flat_one (l : List FI) : ∀ u ∈ l.flatMap fiV, u.oneCell' = true := by
  intro u hu
  obtain ⟨x, _, hx⟩ := List.mem_flatMap.1 hu
  exact fiV_one x u hx
/-- One frame more. -/
theorem push_fi {w : World} {v : Value} {l : List FI} (h : w.ownsRow 0 tFI 4 v l.length (l.flatMap fiV)) (x : FI) (hn : l.length ≤ 100000) :
    ∃ v' w', (Builtin.append_ #[tFIs, tFIs] tFIs #[v, .slice (some ⟨w.heap.size, 0, none⟩) 1 1]).run Tryz.prog (w.alloc (.cells #[.int .i64 x.n, .int .u8 (x.fill.toNat : Int), .bool x.commit, .bool x.sync] tFI)) = .ok v' w' ∧ w'.ownsRow 0 tFI 4 v' (l ++ [x]).length ((l ++ [x]).flatMap fiV) ∧ Chg (fun k => v.ownBlock = some k) w w' ∧ (∀ k, v'.ownBlock = some k → v.ownBlock = some k ∨ w.heap.size ≤ k) := by
  obtain ⟨i, hi, h0, h1, h2⟩ := fiInfo
  obtain ⟨v', w', hr, ho, hc, hw⟩ := append_from tFIs tFI i _ 4 16 Tryz.underlying61 hi h0 h1 h2 rfl (by decide) (by decide) (h.alloc (.cells #[.int .i64 x.n, .int .u8 (x.fill.toNat : Int), .bool x.commit, .bool x.sync] tFI)) (b := w.heap.size) (o := 0) (m := 1) (c := 1) (ys := fiV x) rfl (by
    intro j hj
    rw [Nat.zero_add, blk_cell (blk_new w _) j, List.getElem?_toArray]
    exact List.getElem?_eq_getElem hj) (fiV_one x) (by omega)
  have hk : ∀ k, v'.ownBlock = some k → v.ownBlock = some k ∨ w.heap.size ≤ k := fun k hk => by
    rcases hw k hk with h | h
    · exact Or.inl h
    · right; simp at h; omega
  refine ⟨v', w', hr, ?_, ((Chg.refl _ w).alloc _).trans hc, hk⟩
  rw [List.flatMap_append, List.length_append]
  simpa using ho
/-- A slice that came in: with an address, or nil. -/
def Shp (x : Value) : Prop := (∃ a n c, x = .slice (some a) n c) ∨ x = .slice none 0 0
theorem shp_take {ao : Option Addr} {n cap k : Nat} (h : Shp (.slice ao n cap)) (hk : k ≤ n) : Shp (.slice ao k cap) := by
  rcases h with ⟨a, n', c, e⟩ | e
  · injection e with e1 e2 e3
    exact Or.inl ⟨a, k, cap, by rw [e1]⟩
  · injection e with e1 e2 e3
    have : k = 0 := by omega
    exact Or.inr (by rw [e1, e3, this])
set_option maxRecDepth 100000 in
/-- append([]Frame{}, v...). -/
theorem copy_in {w : World} {v : Value} {l : List FI} (hs : Shp v) (h : LAt 4 fiV w v l) (hn : l.length ≤ 100000) :
    ∃ v' w', (Builtin.append_ #[tFIs, tFIs] tFIs #[.slice (some ⟨w.heap.size, 0, none⟩) 0 0, v]).run Tryz.prog (w.alloc (.cells #[] tFI)) = .ok v' w' ∧ w'.ownsRow 0 tFI 4 v' l.length (l.flatMap fiV) ∧ Below w.heap.size w w' ∧ ∀ q, v'.ownBlock = some q → w.heap.size ≤ q := by
  obtain ⟨i, hi, h0, h1, h2⟩ := fiInfo
  have hz : (w.alloc (.cells #[] tFI)).ownsRow 0 tFI 4 (.slice (some ⟨w.heap.size, 0, none⟩) 0 0) 0 [] := ⟨rfl, Or.inr ⟨w.heap.size, 0, #[], rfl, Nat.zero_le _, blk_new w _, Nat.le_refl _, Nat.zero_le _, rfl, rfl⟩⟩
  have hzb : ∀ q, (Value.slice (some ⟨w.heap.size, 0, none⟩) 0 0).ownBlock = some q → w.heap.size ≤ q := fun q hq => by
    have e : w.heap.size = q := by injection hq
    omega
  have hal := (Below.refl w.heap.size w).alloc (Nat.le_refl _) (.cells #[] tFI)
  obtain ⟨ao, cap, e, hle, _, hc⟩ := (h.on hal).ways
  rcases hs with ⟨a, n, c, rfl⟩ | rfl
  · injection e with e1 e2 e3
    subst e2
    obtain ⟨v', w', hr, ho, hg, hw⟩ := run_append_who (P := Tryz.prog) tFIs tFIs tFI i _ 4 16 Tryz.underlying61 hi h0 h1 h2 rfl (by decide) _ 0 [] hz a l.length c (l.flatMap fiV) (Mem.flat_len fiV_len l) (by
      intro q u hq
      have hql := (List.getElem?_eq_some_iff.1 hq).1
      rw [Mem.flat_len fiV_len] at hql
      have hk : q / 4 < l.length := by omega
      obtain ⟨g, o, ea, _, hcell⟩ := hc (q / 4) hk
      rw [← e1] at ea
      injection ea with ea
      subst ea
      have h3 := hcell (q % 4) (Nat.mod_lt _ (by decide))
      have h4 := Mem.flat_at fiV_len l (q / 4) hk (q % 4) (Nat.mod_lt _ (by decide))
      have e5 : q / 4 * 4 + q % 4 = q := by omega
      rw [e5] at h4
      rw [show o + q / 4 * 4 + q % 4 = o + q by omega] at h3
      rw [show (⟨g, o, none⟩ : Addr).add q = ⟨g, o + q, none⟩ from by simp [Addr.add], h3, ← h4, hq]) (flat_one l) (by unfold maxLen; omega) (by omega)
    refine ⟨v', w', hr, by rw [Nat.zero_add, List.nil_append] at ho; exact ho, ?_, fun q hq => ?_⟩
    · refine hal.trans ((Mem.Chg.below ((Mem.Chg.refl (fun k => (Value.slice (some ⟨w.heap.size, 0, none⟩) 0 0).ownBlock = some k) _).grown hg (fun k hk => Or.inr hk)) hal.size (fun k hk hx => ?_)))
      have := hzb k hx
      omega
    · rcases hw q hq with h | h
      · exact hzb q h
      · have := hal.size; omega
  · injection e with e1 e2 e3
    have hl0 : l = [] := List.eq_nil_of_length_eq_zero e2.symm
    subst hl0
    exact ⟨_, _, run_append_owned_none (P := Tryz.prog) (w := w.alloc (.cells #[] tFI)) 0 tFIs tFIs tFI i 4 Tryz.underlying61 hi _ 0 [] hz, hz, hal, hzb⟩
/-- The log while the first frames are laid and taken back. -/
structure B1 (w0 : World) (d m j b : Nat) (l : List Fm) (A : Nat) (wr : World) : Prop where
  aw : AW (Bl w0.heap.size) d m j b 200 l A wr
  below : Below w0.heap.size w0 wr
theorem B1.to {w wr w2 : World} {l' : List Fm} {A' : Nat} (h : B1 w d m j b l A wr) (h1 : AW (Bl w.heap.size) d m j b 200 l' A' w2) (h2 : Stays (Bl w.heap.size) wr w2) : B1 w d m j b l' A' w2 := ⟨h1, h.below.trans (bl_below h2 h.below.size)⟩
theorem B1.on {w wr w2 : World} (h : B1 w d m j b l A wr) (hb : Below wr.heap.size wr w2) : B1 w d m j b l A w2 := ⟨h.aw.on hb, h.below.trans (hb.mono h.below.size)⟩
theorem B1.rowIn {w wr : World} {v : Value} {q : List FI} (h : B1 w d m j b l A wr) (hq : LAt 4 fiV w v q) : RowIn (Bl w.heap.size) wr v q := fun _ hx => hq.on (h.below.trans (bl_below hx h.below.size))
/-- The log beside a row of frames of the call's own. -/
structure B2 (w0 : World) (d m j b : Nat) (q : List FI) (p : List FI) (A : Nat) (v : Value) (wr : World) : Prop where
  aw : ∃ O', (∀ k, k < w0.heap.size → O' k) ∧ AW O' d m j b 200 (fms q) A wr ∧ ∀ g, v.ownBlock = some g → O' g
  row : wr.ownsRow 0 tFI 4 v p.length (p.flatMap fiV)
  below : Below w0.heap.size w0 wr
  new : ∀ g, v.ownBlock = some g → w0.heap.size ≤ g
theorem stays_below {w0 wr w2 : World} (hO : ∀ k, k < w0.heap.size → O k) (h : Stays O wr w2) (hb : Below w0.heap.size w0 wr) : Below w0.heap.size w0 w2 := hb.trans (Disk.Chg.below h hb.size (fun k hk hx => hx (hO k hk)))
theorem B2.start {w0 wr w2 : World} {q : List FI} {v : Value} (h : B1 w0 d m j b (fms q) A wr) (hb : Below wr.heap.size wr w2) (hr : w2.ownsRow 0 tFI 4 v q.length (q.flatMap fiV)) (hv : ∀ g, v.ownBlock = some g → wr.heap.size ≤ g) : B2 w0 d m j b q q A v w2 := by
  refine ⟨⟨_, ?_, h.aw.side (F := fun _ => False) (Chg.of_below hb) (fun _ x => x.elim), fun g hg => Or.inr ⟨hv g hg, (hr.lt g hg).2⟩⟩, hr, h.below.trans (hb.mono h.below.size), fun g hg => Nat.le_trans h.below.size (hv g hg)⟩
  intro k hk
  exact Or.inl hk
theorem B2.on {w0 wr w2 : World} {q p : List FI} {v : Value} (h : B2 w0 d m j b q p A v wr) (hb : Below wr.heap.size wr w2) : B2 w0 d m j b q p A v w2 := by
  obtain ⟨O', h1, h2, h3⟩ := h.aw
  exact ⟨⟨O', h1, h2.on hb, h3⟩, row_kept h.row (F := fun _ => False) (Chg.of_below hb) (fun _ _ x => x), h.below.trans (hb.mono h.below.size), h.new⟩
theorem fms_snoc (q : List FI) (x : FI) : fms (q ++ [x]) = fms q ++ [fm x] := List.map_append ..
theorem fms_len (q : List FI) : (fms q).length = q.length := List.length_map ..
/-- Add of the next frame. -/
theorem b2_add {w0 wr : World} {q p : List FI} {v : Value} (h : B2 w0 d m j b q p A v wr) (x : FI) (hl : q.length < 190) :
    Calls Tryz.prog 12 #[ptr j, .int .i64 (numOf x.n : Nat), .string (bs (pgL x.fill)), .bool x.commit] wr fun e w' => e = .returned (.int .i64 0) ∧ B2 w0 d m j b (q ++ [x]) p A v w' := by
  obtain ⟨O', h1, h2, h3⟩ := h.aw
  have hx := numOf_lt x.n
  refine (aw_add h2 (fm x) (by show numOf x.n < 4096; omega) (by rw [fms_len]; omega) (by rw [fms_len]; omega)).mono ?_
  rintro e w' ⟨rfl, ha, hs⟩
  rw [← fms_snoc] at ha
  exact ⟨rfl, ⟨O', h1, ha, h3⟩, row_kept h.row (toMem' hs) (fun g hg hx => hx (h3 g hg)), stays_below h1 hs h.below, h.new⟩
/-- .. beside a block that was made since. -/
theorem b2_add_keep {w0 wr w2 w4 : World} {q p : List FI} {v : Value} (h : B2 w0 d m j b q p A v wr) (hb2 : Below wr.heap.size wr w2) (hb4 : Below w2.heap.size w2 w4) (x : FI) (hl : q.length < 190) {k : Nat} {o : Obj} (hk : wr.heap.size ≤ k) (ho : w2.heap[k]? = some o) :
    Calls Tryz.prog 12 #[ptr j, .int .i64 (numOf x.n : Nat), .string (bs (pgL x.fill)), .bool x.commit] w4 fun e w' => e = .returned (.int .i64 0) ∧ B2 w0 d m j b (q ++ [x]) p A v w' ∧ w'.heap[k]? = some o := by
  have h4 := (h.on hb2).on hb4
  obtain ⟨O', h1, h2, h3⟩ := h.aw
  have hx := numOf_lt x.n
  have ha4 : AW (fun k => O' k ∨ (wr.heap.size ≤ k ∧ k < w2.heap.size)) d m j b 200 (fms q) A w4 := (h2.side (F := fun _ => False) (Chg.of_below hb2) (fun _ x => x.elim)).on hb4
  refine (aw_add ha4 (fm x) (by show numOf x.n < 4096; omega) (by rw [fms_len]; omega) (by rw [fms_len]; omega)).mono ?_
  rintro e w' ⟨rfl, ha, hs⟩
  rw [← fms_snoc] at ha
  have hs' : Stays O' w4 w' := fewer hs (fun _ hk => Or.inl hk)
  have hlt := lt_of_block ho
  exact ⟨rfl, ⟨⟨O', h1, ha.fewer (fun _ hk => Or.inl hk), h3⟩, row_kept h4.row (toMem' hs') (fun g hg hx => hx (h3 g hg)), stays_below h1 hs' h4.below, h4.new⟩, hs.at ((hb4.block k hlt).trans ho) (Or.inr ⟨hk, hlt⟩)⟩
/-- .. which the row takes up. -/
theorem B2.push {w0 wr : World} {q p : List FI} {v : Value} (h : B2 w0 d m j b q p A v wr) (x : FI) (hl : p.length ≤ 1000) :
    ∃ ao cap w', (Builtin.append_ #[tFIs, tFIs] tFIs #[v, .slice (some ⟨wr.heap.size, 0, none⟩) 1 1]).run Tryz.prog (wr.alloc (.cells #[.int .i64 x.n, .int .u8 (x.fill.toNat : Int), .bool x.commit, .bool x.sync] tFI)) = .ok (.slice ao (p.length + 1) cap) w' ∧ B2 w0 d m j b q (p ++ [x]) A (.slice ao (p.length + 1) cap) w' := by
  obtain ⟨O', h1, h2, h3⟩ := h.aw
  obtain ⟨v', w', hr, ho, hc, hk⟩ := push_fi h.row x (by omega)
  obtain ⟨ao, cap, hv, -⟩ := row_shape ho
  rw [List.length_append] at hv
  have hv2 : v' = .slice ao (p.length + 1) cap := hv
  subst hv2
  refine ⟨ao, cap, w', hr, ⟨_, fun k hk => Or.inl (h1 k hk), h2.side hc (fun k hk _ => h3 k hk), fun g hg => ?_⟩, ho, ?_, fun g hg => ?_⟩
  · rcases hk g hg with e | e
    · exact Or.inl (h3 g e)
    · exact Or.inr ⟨e, (ho.lt g hg).2⟩
  · refine h.below.trans (Mem.Chg.below hc h.below.size (fun k hk hx => ?_))
    have := h.new k hx
    omega
  · rcases hk g hg with e | e
    · exact h.new g e
    · exact Nat.le_trans h.below.size e
theorem b2_holds {w0 wr : World} {q : List FI} {v : Value} (h : B2 w0 d m j b q q A v wr) (hl : q.length ≤ 1000) :
    Calls Tryz.prog 46 #[ptr j, v] wr fun e w' => e = .returned (.bool true) ∧ B2 w0 d m j b q q A v w' := by
  obtain ⟨O', h1, h2, h3⟩ := h.aw
  have hrow : RowIn O' wr v q := fun _ hx => Mem.OwnL.row fiV_len (row_kept h.row (toMem' hx) (fun g hg hn => hn (h3 g hg))) (by unfold maxLen; omega)
  refine (aw_holds h2 (by omega) hrow).mono ?_
  rintro e w' ⟨rfl, ha, hs⟩
  exact ⟨rfl, ⟨O', h1, ha, h3⟩, row_kept h.row (toMem' hs) (fun g hg hx => hx (h3 g hg)), stays_below h1 hs h.below, h.new⟩
theorem b2_sync {w0 wr : World} {q p : List FI} {v : Value} (h : B2 w0 d m j b q p A v wr) :
    Calls Tryz.prog 15 #[ptr j] wr fun e w' => e = .returned (.int .i64 0) ∧ ∃ A', B2 w0 d m j b q p A' v w' ∧ (q ≠ [] → A' = q.length + 1) := by
  obtain ⟨O', h1, h2, h3⟩ := h.aw
  refine (aw_sync h2).mono ?_
  rintro e w' ⟨rfl, ⟨A', ha, hA⟩, hs⟩
  refine ⟨rfl, A', ⟨⟨O', h1, ha, h3⟩, row_kept h.row (toMem' hs) (fun g hg hx => hx (h3 g hg)), stays_below h1 hs h.below, h.new⟩, fun hq => ?_⟩
  rw [hA (fun e => hq (List.map_eq_nil_iff.1 e)), fms_len]
/-- The disk beside the row, while the power is off, and on again. -/
structure D2 (w0 : World) (d m : Nat) (M : Mod) (p : List FI) (v : Value) (O : Nat → Prop) (wr : World) : Prop where
  sees : Sees O d m M wr
  old : ∀ k, k < w0.heap.size → O k
  own : ∀ g, v.ownBlock = some g → O g
  row : wr.ownsRow 0 tFI 4 v p.length (p.flatMap fiV)
  below : Below w0.heap.size w0 wr
theorem D2.to {w0 wr w2 : World} {p : List FI} {v : Value} (h : D2 w0 d m M p v O wr) (h1 : Sees O d m M' w2) (hs : Stays O wr w2) : D2 w0 d m M' p v O w2 :=
  ⟨h1, h.old, h.own, row_kept h.row (toMem' hs) (fun g hg hx => hx (h.own g hg)), stays_below h.old hs h.below⟩
theorem b2_off {w0 wr : World} {q p : List FI} {v : Value} (h : B2 w0 d m j b q p A v wr) :
    Calls Tryz.prog 25 #[ptr d] wr fun e w' => e = .returned (.tuple #[]) ∧ ∃ (M : Mod) (L : Option Fil) (O' : Nat → Prop), D2 w0 d m M.off p v O' w' ∧ M.fs = dir1 L ∧ Stands (fms q) A L := by
  obtain ⟨O', h1, ⟨f, M, L, hp, hf, hS, _, _⟩, h3⟩ := h.aw
  refine (off_sees hp.seen).mono ?_
  rintro e w' ⟨rfl, ha, hs⟩
  exact ⟨rfl, M, L, O', (D2.mk (M := M) hp.seen h1 h3 h.row h.below).to ha hs, hf, hS⟩
theorem d2_on {w0 wr : World} {p : List FI} {v : Value} (h : D2 w0 d m M p v O wr) :
    Calls Tryz.prog 27 #[ptr d, .slice none 0 0] wr fun e w' => e = .returned (.tuple #[]) ∧ D2 w0 d m (M.on []) p v O w' := by
  refine (on_sees h.sees (.slice none 0 0) [] (Or.inl ⟨none, 0, rfl, rfl⟩) (Nat.zero_le _) (fun b o n cap e => by cases e)).mono ?_
  rintro e w' ⟨rfl, ha, hs⟩
  exact ⟨rfl, h.to ha hs⟩
theorem d2_open {w0 wr : World} {p : List FI} {v : Value} {l : List Fm} {L : Option Fil} {fates : List Int} (h : D2 w0 d m (M.off.on fates) p v O wr) (hf : M.fs = dir1 L) (hS : Stands l A L) (hl : ∀ x ∈ l, x.1 < 4096) :
    Calls Tryz.prog 10 #[ptr d] wr fun e w' => ∃ j b f n M', e = .returned (.tuple #[ptr j, .int .i64 0]) ∧ PL O d m j b f M' (frs (l.take n)) w' ∧ Found l A n M' ∧ D2 w0 d m M' p v O w' := by
  obtain ⟨o1, o2, o3⟩ := off_on M fates hf
  obtain ⟨n, M', e, hF⟩ := open_found hl hS fates o3 o1
  have ho := open_any_ h.sees
  rw [e] at ho
  refine ho.mono ?_
  rintro e w' ⟨_, j, b, f, rfl, hp, hs⟩
  exact ⟨j, b, f, n, M', rfl, hp, hF, h.to hp.seen hs⟩
theorem lastC_all (q : List FI) (x : FI) (hx : x.commit = true) : lastC (fms (q ++ [x])) = (q ++ [x]).length := by
  rw [fms_snoc, lastC_snoc, if_pos (show (fm x).2.2 = true from hx), fms_len, List.length_append]
  rfl
end Lo
end Go.Proofs.YtgmbiiocjhkpdaaGreat
