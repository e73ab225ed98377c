/-
  What was read of a journal, in memory: its box and its row of pages; takeRecord, pagesOf.
-/
import Derived.Test.YtpdpjgeoclilhaaGreatGrpJB
import Derived.Test.YtpdpjgeoclilhaaGreatMem
import Derived.Deep.Cut
import Derived.Deep.RegionLaw
namespace Go.Proofs.YtpdpjgeoclilhaaGreat
open Go.RowKit Go.Shelf
namespace Jo
open Num (hid)
open Mem (Bs bs tS Chg ptr blk_cell blk_free blk_new blk_set blk_other blk_alloc row_kept row_shape row_type append_from step_append_run wpList_append_run)

abbrev tPg : TypeId := 63
abbrev tPgs : TypeId := 36
abbrev tFo : TypeId := 88
abbrev tSe : TypeId := 26
def pV (x : Rec) : List Value := [.int .i64 (x.1 : Nat), .string (bs x.2)]
set_option maxRecDepth 100000 in
theorem pgInfo : ∃ i, Tryz.prog.info? tPg = some i ∧ i.zero = some (.agg #[.int .i64 0, .string ⟨#[]⟩]) ∧ i.size = 2 ∧ i.bytes = 24 := by
  refine ⟨_, rfl, ?_⟩
  refine ⟨?_, ?_, ?_⟩ <;> rfl
theorem pV_one (x : Rec) : ∀ u ∈ pV x, u.oneCell' = true := by
  intro u hu
  simp only [pV, List.mem_cons, List.not_mem_nil, or_false] at hu
  rcases hu with rfl | rfl <;> rfl
/-- One page more. -/
theorem push_pg {w : World} {v : Value} {l : List Rec} (h : w.ownsRow 0 tPg 2 v l.length (l.flatMap pV)) (x : Rec) (hn : l.length ≤ 100000) :
    ∃ v' w', (Builtin.append_ #[tPgs, tPgs] tPgs #[v, .slice (some ⟨w.heap.size, 0, none⟩) 1 1]).run Tryz.prog (w.alloc (.cells #[.int .i64 (x.1 : Nat), .string (bs x.2)] tPg)) = .ok v' w' ∧ w'.ownsRow 0 tPg 2 v' (l ++ [x]).length ((l ++ [x]).flatMap pV) ∧ Chg (fun k => v.ownBlock = some k) w w' ∧ (∀ k, v'.ownBlock = some k → v.ownBlock = some k ∨ w.heap.size ≤ k) := by
  obtain ⟨i, hi, h0, h1, h2⟩ := pgInfo
  obtain ⟨v', w', hr, ho, hc, hw⟩ := append_from tPgs tPg i _ 2 24 Tryz.underlying36 hi h0 h1 h2 rfl (by decide) (by decide) (h.alloc (.cells #[.int .i64 (x.1 : Nat), .string (bs x.2)] tPg)) (b := w.heap.size) (o := 0) (m := 1) (c := 1) (ys := pV x) rfl (by
    intro j hj
    rw [Nat.zero_add, blk_cell (blk_new w _) j, List.getElem?_toArray]
    exact List.getElem?_eq_getElem hj) (pV_one x) (by omega)
  have hk : ∀ k, v'.ownBlock = some k → v.ownBlock = some k ∨ w.heap.size ≤ k := fun k hk => by
    rcases hw k hk with h | h
    · exact Or.inl h
    · right; simp at h; omega
  refine ⟨v', w', hr, ?_, ((Chg.refl _ w).alloc _).trans hc, hk⟩
  rw [List.flatMap_append, List.length_append]
  simpa using ho
def fCells (f : Fnd) (v : Value) : Array Value := #[.bool f.begun, .int .u64 (f.salt : Nat), v, .int .i64 (f.above : Nat), .int .i64 (f.feet : Nat), .int .i64 (f.pages : Nat), .int .i64 (f.counted : Nat)]
structure FB (p : Nat) (v : Value) (f : Fnd) (w : World) : Prop where
  box : w.heap[p]? = some (.cells (fCells f v) tFo (0, 0))
  row : w.ownsRow 0 tPg 2 v f.recs.length (f.recs.flatMap pV)
  ne : ∀ g, v.ownBlock = some g → g ≠ p
variable {p : Nat} {v : Value} {f : Fnd} {w w' : World}
theorem FB.kept {F : Nat → Prop} (h : FB p v f w) (hc : Chg F w w') (hp : ¬ F p) (hv : ∀ g, v.ownBlock = some g → ¬ F g) : FB p v f w' := ⟨hc.at h.box hp, row_kept h.row hc hv, h.ne⟩
theorem FB.on (h : FB p v f w) (hb : Below w.heap.size w w') : FB p v f w' := h.kept (F := fun _ => False) (Chg.of_below hb) (fun x => x) (fun _ _ x => x)
/-- What take and its like may turn. -/
def fT (p : Nat) (v : Value) : Nat → Prop := fun k => k = p ∨ v.ownBlock = some k
/-- Behind a call that takes a sector: the row, what was turned. -/
def Took (p : Nat) (v : Value) (w : World) (g : Fnd) (w' : World) : Prop := ∃ v', FB p v' g w' ∧ Chg (fT p v) w w' ∧ ∀ k, v'.ownBlock = some k → v.ownBlock = some k ∨ w.heap.size ≤ k
theorem Took.stay (h : FB p v f w) (hb : Below w.heap.size w w') : Took p v w f w' := ⟨v, h.on hb, Chg.of_below hb, fun _ hk => Or.inl hk⟩

set_option maxRecDepth 100000 in
set_option maxHeartbeats 2000000 in
theorem takeRec_no (K N S : Nat) (d : Bs) (hN : 4096 ≤ N) (w : World) :
    Calls Tryz.prog 79 #[ptr p, sV K N S (bs d)] w fun e w' => e = .returned (.bool false) ∧ Below w.heap.size w w' := by
  have hN1 : (4096 : Int) ≤ (N : Int) := by omega
  clear hN
  unfold sV
  go_enter Tryz.func79, Tryz.ntmps79
  go_wp2
  go_ret
  exact ⟨rfl, (Below.refl _ _).alloc (Nat.le_refl _) _⟩
theorem max_nat (a b : Nat) : max (a : Int) ((b : Int) + 1) = ((max a (b + 1) : Nat) : Int) := by omega
/-- The stores of takeRecord. -/
theorem FB.more (h : FB p v f w) {x : Rec} {v' : Value} {w2 : World} (ho : w2.ownsRow 0 tPg 2 v' (f.recs ++ [x]).length ((f.recs ++ [x]).flatMap pV)) (hc : Chg (fun k => v.ownBlock = some k) w w2) (hk : ∀ k, v'.ownBlock = some k → v.ownBlock = some k ∨ w.heap.size ≤ k) :
    FB p v' ⟨f.begun, f.salt, f.recs ++ [x], f.above, f.feet, f.pages, f.counted⟩ (w2.setCell ⟨p, 2, none⟩ v') ∧ Chg (fT p v) w (w2.setCell ⟨p, 2, none⟩ v') := by
  have hpv : ¬ v.ownBlock = some p := fun e => h.ne p e rfl
  have hbox2 := hc.at h.box hpv
  have hne : ∀ g, v'.ownBlock = some g → g ≠ p := fun g hg e => by
    subst e
    rcases hk g hg with h1 | h1
    · exact hpv h1
    · have := lt_of_block h.box; omega
  have hs : Chg (· = p) w2 (w2.setCell ⟨p, 2, none⟩ v') := (Chg.refl (· = p) w2).root 2 _
  refine ⟨⟨?_, row_kept ho hs (fun g hg e => hne g hg e), hne⟩, (hc.mono (fun _ _ e => Or.inr e)).trans (hs.mono (fun _ _ e => Or.inl e))⟩
  have := blk_set hbox2 2 v'
  simpa [fCells] using this
theorem FB.rise (h : FB p v f w) (a : Nat) : FB p v ⟨f.begun, f.salt, f.recs, a, f.feet, f.pages, f.counted⟩ (w.setCell ⟨p, 3, none⟩ (.int .i64 (a : Nat))) ∧ Chg (· = p) w (w.setCell ⟨p, 3, none⟩ (.int .i64 (a : Nat))) := by
  have hs : Chg (· = p) w (w.setCell ⟨p, 3, none⟩ (.int .i64 (a : Nat))) := (Chg.refl (· = p) w).root 3 _
  refine ⟨⟨?_, row_kept h.row hs (fun g hg e => h.ne g hg e), h.ne⟩, hs⟩
  have := blk_set h.box 3 (.int .i64 (a : Nat))
  simpa [fCells] using this
set_option maxRecDepth 100000 in
set_option maxHeartbeats 4000000 in
theorem takeRec_yes (h : FB p v f w) (hl : f.recs.length ≤ 100000) (K N S : Nat) (d : Bs) (hN : N < 4096) :
    Calls Tryz.prog 79 #[ptr p, sV K N S (bs d)] w fun e w' => e = .returned (.bool true) ∧ Took p v w ⟨f.begun, f.salt, f.recs ++ [(N, d)], max f.above (N + 1), f.feet, f.pages, f.counted⟩ w' := by
  have hN1 : ¬ (4096 : Int) ≤ (N : Int) := by omega
  have hw1 : wrap64 ((N : Int) + 1) = (N : Int) + 1 := by rw [Num.wrap_i]; omega
  have hmx := max_nat f.above N
  obtain ⟨w1, hw1e⟩ : ∃ x, w.alloc (.cells #[.int .i64 (K : Nat), .int .i64 (N : Nat), .int .u64 (S : Nat), .string (bs d)] tSe) = x := ⟨_, rfl⟩
  have B0 : Below w.heap.size w w1 := by rw [← hw1e]; exact (Below.refl _ _).alloc (Nat.le_refl _) _
  have hq : w1.heap[w.heap.size]? = some (.cells #[.int .i64 (K : Nat), .int .i64 (N : Nat), .int .u64 (S : Nat), .string (bs d)] tSe (0, 0)) := by rw [← hw1e]; exact blk_new w _
  have hF1 := h.on B0
  obtain ⟨v', w2, hr, ho, hc, hk⟩ := push_pg (w := w1.drew) hF1.row (N, d) hl
  have HM := hid (hF1.more ho (Chg.trans ((Chg.refl _ _).drew) hc) (fun k e => hk k e))
  have hpv : ¬ v.ownBlock = some p := fun e => h.ne p e rfl
  have hsv : ¬ v.ownBlock = some w.heap.size := fun e => by have := (h.row.lt _ e).2; omega
  have hbox2 : w2.heap[p]? = _ := hc.at (show w1.drew.heap[p]? = _ from hF1.box) hpv
  have hq2 : w2.heap[w.heap.size]? = _ := hc.at (show w1.drew.heap[w.heap.size]? = _ from hq) hsv
  have k2 : w2.cell? ⟨p, 2, none⟩ = some v := blk_cell hbox2 2
  have g2 : w2.frozen? ⟨p, 2, none⟩ = false := blk_free hbox2 2
  have q1 : w2.cell? ⟨w.heap.size, 1, none⟩ = some (.int .i64 (N : Nat)) := blk_cell hq2 1
  have q3 : w2.cell? ⟨w.heap.size, 3, none⟩ = some (.string (bs d)) := blk_cell hq2 3
  have p2 : w1.cell? ⟨p, 2, none⟩ = some v := blk_cell hF1.box 2
  have s1 : w1.cell? ⟨w.heap.size, 1, none⟩ = some (.int .i64 (N : Nat)) := blk_cell hq 1
  have s3 : w1.cell? ⟨w.heap.size, 3, none⟩ = some (.string (bs d)) := blk_cell hq 3
  have hne : w.heap.size ≠ p := by have := lt_of_block h.box; omega
  have hlp := lt_of_block hF1.box
  have hls := lt_of_block hq
  obtain ⟨n2, hn2⟩ : ∃ x, (f.recs ++ [(N, d)]).length = x := ⟨_, rfl⟩
  rw [hn2] at ho
  obtain ⟨ao, cap, hv', -⟩ := row_shape ho
  subst hv'
  have HR := hid hr
  have HK := hid hk
  have HB := hid B0
  have HE := hid hw1e
  clear hr ho hc hk hpv hsv hF1 h hl hN B0 hbox2 hq hq2 hn2 hw1e
  unfold sV
  go_enter Tryz.func79, Tryz.ntmps79
  go_upto_region 3 with fail
  rw [HE.out]
  have x1 : (w2.setCell ⟨p, 2, none⟩ (.slice ao n2 cap)).cell? ⟨w.heap.size, 1, none⟩ = some (.int .i64 (N : Nat)) := (Mem.set_cell_other hne _).trans q1
  go_cut [] (fun wx => wx = w2.setCell ⟨p, 2, none⟩ (.slice ao n2 cap))
  case first =>
    go_region_law ((refine step_append_run (by rfl) (.tmp 12) (.tmp 18) tPgs tPgs (by rfl) _ _ (by simp [Act.eval]) (by simp [Act.eval]) HR.out ?_))
    all_goals
      go_wp2_with fail
      go_meet
      rfl
  case rest =>
  subst hcut
  obtain ⟨HM1, HM2⟩ := HM.out
  have hm3 := lt_of_block HM1.box
  have hls4 : w.heap.size < (w2.setCell ⟨p, 2, none⟩ (.slice ao n2 cap)).heap.size := by
    rcases Nat.lt_or_ge w.heap.size (w2.setCell ⟨p, 2, none⟩ (.slice ao n2 cap)).heap.size with hh | hh
    · exact hh
    · rw [show (w2.setCell ⟨p, 2, none⟩ (.slice ao n2 cap)).cell? ⟨w.heap.size, 1, none⟩ = none from by simp [World.cell?, Array.getElem?_eq_none hh]] at x1; cases x1
  generalize w2.setCell ⟨p, 2, none⟩ (.slice ao n2 cap) = w4 at *
  have C3 : ∀ wx, Below w4.heap.size w4 wx → wx.cell? ⟨p, 3, none⟩ = some (.int .i64 (f.above : Nat)) := fun wx hx => blk_cell (HM1.on hx).box 3
  have C1 : ∀ wx, Below w4.heap.size w4 wx → wx.cell? ⟨w.heap.size, 1, none⟩ = some (.int .i64 (N : Nat)) := fun wx hx => (hx.cell (p := ⟨w.heap.size, 1, none⟩) hls4).trans x1
  have D3 := hid C3
  have D1 := hid C1
  have HF := hid HM1
  have HC := hid HM2
  clear C3 C1 HM1 HM2 HM HR x1 q1 q3 k2 g2 p2 s1 s3
  go_wp2_with fail
  refine Tail.wp_region_quiet_tail 11 (fun wx => Below w4.heap.size w4 wx) (by kernel_rfl) (by kernel_rfl) (by first | exact (Below.refl _ w4).drew | exact (Below.refl _ w4).drew.drew) ?_
  simp only [List.take_succ_cons, List.take_zero, List.drop_succ_cons, List.drop_zero]
  go_big_quiet_want
  go_big_quiet_op
  go_big_quiet_on
  go_big_quiet_want
  go_big_quiet_op
  go_big_quiet_on
  go_big_quiet_want
  go_big_quiet_op
  apply Exists.intro
  refine ⟨fun _ _ => ?_, ?_⟩
  · with_reducible exact Eq.refl _
  go_big_quiet_on
  go_big_quiet_want
  go_big_quiet_op
  apply Exists.intro
  refine ⟨fun _ _ => ?_, ?_⟩
  · with_reducible exact Eq.refl _
  go_big_quiet_on
  go_big_quiet_want
  go_big_quiet_op
  refine ⟨.int .i64 (f.above : Nat), fun wx hx => ?_, ?_⟩
  · have c := D3.out wx hx
    simp [go_sem, c]
  go_big_quiet_on
  go_big_quiet_want
  go_big_quiet_op
  apply Exists.intro
  refine ⟨fun _ _ => ?_, ?_⟩
  · with_reducible exact Eq.refl _
  go_big_quiet_on
  go_big_quiet_want
  go_big_quiet_op
  refine ⟨.int .i64 (N : Nat), fun wx hx => ?_, ?_⟩
  · have c := D1.out wx hx
    simp [go_sem, c]
  go_big_quiet_on
  go_big_quiet_want
  go_big_quiet_op
  refine ⟨.int .i64 ((N : Int) + 1), fun wx hx => ?_, ?_⟩
  · simp [go_sem]
  go_big_quiet_on
  go_big_quiet_want
  go_big_quiet_op
  refine ⟨.int .i64 ((max f.above (N + 1) : Nat) : Int), fun wx hx => ?_, ?_⟩
  · simp [go_sem]
  go_big_quiet_on
  go_big_quiet_want
  go_big_quiet_op
  apply Exists.intro
  refine ⟨fun _ _ => ?_, ?_⟩
  · with_reducible exact Eq.refl _
  go_big_quiet_on
  go_big_quiet_want
  go_big_quiet_op
  apply Exists.intro
  refine ⟨fun _ _ => ?_, ?_⟩
  · with_reducible exact Eq.refl _
  go_big_quiet_on
  refine wpQuiet_nil ?_
  intro wq hq
  have HQ := hid (HF.out.on hq)
  have k3 : wq.cell? ⟨p, 3, none⟩ = some (.int .i64 (f.above : Nat)) := blk_cell HQ.out.box 3
  have g3 : wq.frozen? ⟨p, 3, none⟩ = false := blk_free HQ.out.box 3
  obtain ⟨r1, r2⟩ := HQ.out.rise (max f.above (N + 1))
  have HZ := hid r1
  have HT := hid (((Chg.of_below HB.out).trans HC.out).trans ((Chg.of_below hq).trans (r2.mono (fun k _ e => (Or.inl e : fT p v k)))))
  clear hq r1 r2
  go_wp2
  go_ret
  exact ⟨rfl, _, HZ.out, HT.out, fun k hk => by
    rcases HK.out k hk with e | e
    · exact Or.inl e
    · exact Or.inr (Nat.le_trans HB.out.size e)⟩

/-- The pages that a foot tells. -/
theorem head_lt (d : Bs) : Seal.numAt d 0 4 < 4294967296 := Seal.numAt_lt d 0 4
theorem head_is (d : Bs) (hd : d.length = 232) : Num.unfixL ((bs d).extract 0 4).data.toList = (Seal.numAt d 0 4, 0) := by
  have h := Seal.part_is (bs d) 0 4 (by decide) (by decide) (by show 4 ≤ d.toArray.size; simp; omega)
  rw [h]
  rfl
set_option maxRecDepth 100000 in
theorem pagesOf_any (K N S : Nat) (d : Bs) (hd : d.length = 232) (w : World) :
    Calls Tryz.prog 106 #[sV K N S (bs d)] w fun e w' => e = .returned (.int .i64 (Seal.numAt d 0 4 : Nat)) ∧ Below w.heap.size w w' := by
  have hu := Num.unfixed_any ((bs d).extract 0 4)
  rw [head_is d hd] at hu
  have h4 : (4 : Int) ≤ ((bs d).size : Int) := by show (4 : Int) ≤ (d.toArray.size : Int); simp; omega
  have hlt := head_lt d
  have hw : wrap64 ((Seal.numAt d 0 4 : Nat) : Int) = ((Seal.numAt d 0 4 : Nat) : Int) := by rw [Num.wrap_i]; omega
  generalize Seal.numAt d 0 4 = q at *
  generalize bs d = dd at *
  have HU := hid hu
  clear hu hd hlt
  unfold sV
  go_enter Tryz.func106, Tryz.ntmps106
  go_wp2_with fail
  refine (HU.out _).mono ?_
  rintro e w1 ⟨rfl, rfl⟩
  go_wp2
  go_ret
  exact ⟨congrArg (fun x => Ending.returned (.int .i64 x)) hw, (Below.refl _ _).alloc (Nat.le_refl _) _⟩

end Jo
end Go.Proofs.YtpdpjgeoclilhaaGreat
