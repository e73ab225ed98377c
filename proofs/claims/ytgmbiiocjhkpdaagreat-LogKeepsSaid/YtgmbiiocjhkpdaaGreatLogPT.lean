/-
  Contracts of the project's log: take (a frame more).
-/
import Derived.Test.YtgmbiiocjhkpdaaGreatLogPC
namespace Go.Proofs.YtgmbiiocjhkpdaaGreat
open Go.RowKit Go.Shelf
namespace Lo
open Num (hid)
open Jo (okB kK kN kS kD okB_iff)
open Disk (Mod Fil Sees Stays)
open Mem (Bs bs tI Chg ptr blk_cell blk_free blk_new blk_set blk_other blk_alloc row_kept row_shape row_type append_from step_append_run wpList_append_run)
variable {O O' : Nat → Prop} {d m j b : Nat} {f f' : Value} {M M' : Mod} {fs fs' : List Fr} {w w' : World}
/-- Behind a call that may turn the log's row. -/
def Left' (O : Nat → Prop) (d m j b : Nat) (M : Mod) (fs : List Fr) (w w' : World) : Prop := ∃ f', PL O d m j b f' M fs w' ∧ Stays O w w'
theorem Left'.pre {w1 : World} (h : Left' O d m j b M fs w1 w') (hs : Stays O w w1) : Left' O d m j b M fs w w' := by
  obtain ⟨f', h1, h2⟩ := h
  exact ⟨f', h1, hs.trans h2⟩
/-- The last store of take. -/
theorem PL.more (h : PL O d m j b f M fs w) {n s : Nat} (hn : n < 4096) (hs : s < 18446744073709551616) (hl : fs.length < 20000) {w1 w2 : World} (hc1 : Chg (· = b) w w1) (hm : ∃ c, c ≤ (fs ++ [(n, s)]).length ∧ MapI w1 b c (lookL (fs ++ [(n, s)])))
    (ho : w2.ownsRow 0 tFr 2 f' (fs ++ [(n, s)]).length ((fs ++ [(n, s)]).flatMap frV)) (hc : Chg (fun k => f.ownBlock = some k) w1 w2) (hk : ∀ k, f'.ownBlock = some k → f.ownBlock = some k ∨ w1.heap.size ≤ k) :
    PL O d m j b f' M (fs ++ [(n, s)]) (w2.setCell ⟨j, 1, none⟩ f') ∧ Stays O w (w2.setCell ⟨j, 1, none⟩ f') := by
  have hz := hc1.size
  obtain ⟨c, hcl, hmi⟩ := hm
  have hbox1 := hc1.at h.box (fun e => h.ne e)
  have hbox2 := hc.at hbox1 h.nj
  have hset : Chg (· = j) w2 (w2.setCell ⟨j, 1, none⟩ f') := (Chg.refl (· = j) w2).root 1 _
  have hj := lt_of_block hbox1
  have hfj : ∀ g, f'.ownBlock = some g → g ≠ j := fun g hg e => by
    subst e
    rcases hk g hg with e | e
    · exact h.nj e
    · omega
  have hall : Chg (pX j b f) w (w2.setCell ⟨j, 1, none⟩ f') := (hc1.mono (fun k _ e => (Or.inr (Or.inl e) : pX j b f k))).trans ((hc.mono (fun k _ e => (Or.inr (Or.inr e) : pX j b f k))).trans (hset.mono (fun k _ e => (Or.inl e : pX j b f k))))
  refine h.turn hall (fun k hk => hk) ?_ (row_kept ho hset (fun g hg e => hfj g hg e)) ⟨c, hcl, (hmi.apart hc (fun e => h.nb e)).apart hset (fun e => h.ne e.symm)⟩ (fun k hk' => (hk k hk').imp_right fun e => Nat.le_trans hz e) (by rw [List.length_append]; show fs.length + 1 ≤ _; omega) ?_ ?_
  · have := blk_set hbox2 1 f'
    simpa [pCells] using this
  · intro x hx
    rcases List.mem_append.1 hx with hx | hx
    · exact h.small x hx
    · rw [List.mem_singleton] at hx
      subst hx
      exact hn
  · intro x hx
    rcases List.mem_append.1 hx with hx | hx
    · exact h.sums x hx
    · rw [List.mem_singleton] at hx
      subst hx
      exact hs
set_option maxRecDepth 100000 in
set_option maxHeartbeats 4000000 in
theorem take_any (h : PL O d m j b f M fs w) {n s : Nat} (hn : n < 4096) (hs : s < 18446744073709551616) (hl : fs.length < 20000) :
    Calls Tryz.prog 62 #[ptr j, .agg #[.int .i64 (n : Nat), .int .u64 (s : Nat)]] w fun e w' => e = .returned (.tuple #[]) ∧ Left' O d m j b M (fs ++ [(n, s)]) w w' := by
  obtain ⟨ao, cap, rfl⟩ := h.shape
  obtain ⟨w1, hw1⟩ : ∃ x, w.alloc (.cells #[.int .i64 (n : Nat), .int .u64 (s : Nat)] tFr) = x := ⟨_, rfl⟩
  have B1 : Below w.heap.size w w1 := by rw [← hw1]; exact (Below.refl _ _).alloc (Nat.le_refl _) _
  have hq : w1.heap[w.heap.size]? = some (.cells #[.int .i64 (n : Nat), .int .u64 (s : Nat)] tFr (0, 0)) := by rw [← hw1]; exact blk_new w _
  have h1 := h.on B1
  obtain ⟨w2, hr2, hc2, hm2⟩ := (h1.on (Below.refl _ w1).drew).mark hn
  have hm2 := hm2 s
  have hc2' : Chg (· = b) w1 w2 := Chg.trans ((Chg.refl _ _).drew) hc2
  obtain ⟨c0, hc0, hmi0⟩ := h.map
  have hqb : w.heap.size ≠ b := by have := hmi0.lt; omega
  have hqj : w.heap.size ≠ j := by have := lt_of_block h.box; omega
  have hqf : ¬ (Value.slice ao fs.length cap).ownBlock = some w.heap.size := fun e => by have := (h.row.lt _ e).2; omega
  have hq2 := hc2'.at hq hqb
  have hbox2 := hc2'.at h1.box h1.ne
  have hrow2 := row_kept h1.row hc2' (fun g hg e => h.nb (e ▸ hg))
  obtain ⟨f', w3, hr3, ho3, hc3, hk3⟩ := push_fr (w := w2.drew) hrow2 (n, s) (by omega)
  have hc3' : Chg (fun k => (Value.slice ao fs.length cap).ownBlock = some k) w2 w3 := Chg.trans ((Chg.refl _ _).drew) hc3
  obtain ⟨ao', cap', rfl⟩ : ∃ ao' cap', f' = .slice ao' (fs ++ [(n, s)]).length cap' := by obtain ⟨ao', cap', e, _⟩ := row_shape ho3; exact ⟨ao', cap', e⟩
  obtain ⟨hpl, hst⟩ := h1.more hn hs hl hc2' hm2 ho3 hc3' hk3
  have HPL := hid hpl
  have HST : Hid (Stays O w (w3.setCell ⟨j, 1, none⟩ (.slice ao' (fs ++ [(n, s)]).length cap'))) := hid ((stays_of B1).trans hst)
  have hbox3 := hc3'.at hbox2 h.nj
  have g3 : w3.frozen? ⟨j, 1, none⟩ = false := blk_free hbox3 1
  have k3 : w3.cell? ⟨j, 1, none⟩ = some (.slice ao fs.length cap) := blk_cell hbox3 1
  have a1 : w1.cell? ⟨j, 1, none⟩ = some (.slice ao fs.length cap) := blk_cell h1.box 1
  have a2 : w1.cell? ⟨j, 2, none⟩ = some (.map (some b)) := blk_cell h1.box 2
  have q0 : w1.cell? ⟨w.heap.size, 0, none⟩ = some (.int .i64 (n : Nat)) := blk_cell hq 0
  have b1 : w2.cell? ⟨j, 1, none⟩ = some (.slice ao fs.length cap) := blk_cell hbox2 1
  have p0 : w2.cell? ⟨w.heap.size, 0, none⟩ = some (.int .i64 (n : Nat)) := blk_cell hq2 0
  have p1 : w2.cell? ⟨w.heap.size, 1, none⟩ = some (.int .u64 (s : Nat)) := blk_cell hq2 1
  have lj := lt_of_block hbox2
  have lq := lt_of_block hq2
  obtain ⟨N, hN⟩ : ∃ N, (fs ++ [(n, s)]).length = N := ⟨_, rfl⟩
  have HR2 := hid hr2
  have HR3 := hid hr3
  have HW := hid hw1
  rw [hN] at HPL HST HR3
  clear hpl hst hr3 ho3 hc3 hk3 hc3' hm2 hc2 hc2' hrow2 hmi0 hc0 h1 h hq hq2 hbox2 hbox3 hqf hw1 B1 hl hs hr2
  generalize fs ++ [(n, s)] = gs at *
  clear hN
  go_enter Tryz.func62, Tryz.ntmps62
  go_upto_region 1 with fail
  rw [HW.out]
  have hr2 := HR2.out
  go_region
  clear hr2 a1 a2 q0
  go_upto_region 2 with fail
  go_region_law ((refine step_append_run (by rfl) (.tmp 19) (.tmp 21) tFrs tFrs (by rfl) _ _ (by simp [Act.eval]) (by simp [Act.eval]) HR3.out ?_))
  all_goals
    go_wp2
    go_end0
    exact ⟨rfl, _, HPL.out, HST.out⟩
end Lo
end Go.Proofs.YtgmbiiocjhkpdaaGreat
