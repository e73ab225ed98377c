/-
  Contracts of the project's log: keep (the first frames alone), Len, Sync, End, Back.
-/
import Derived.Test.YtgmbiiocjhkpdaaGreatLogPR
namespace Go.Proofs.YtgmbiiocjhkpdaaGreat
open Go.RowKit Go.Shelf
namespace Lo
open Num (hid)
open Disk (Mod Fil Sees Stays)
open Mem (Bs bs tI Chg ptr blk_cell blk_free blk_new blk_set blk_other blk_alloc row_kept row_shape row_type append_from step_append_run wpList_append_run)
variable {O O' : Nat → Prop} {d m j b : Nat} {f f' : Value} {M M' : Mod} {fs fs' : List Fr} {w w' : World}
/-- The map is marked anew, up to k frames of gs. -/
structure KP (b : Nat) (gs : List Fr) (w1 : World) (k : Nat) (wr : World) : Prop where
  chg : Chg (· = b) w1 wr
  map : ∃ c, c ≤ k ∧ MapI wr b c (lookL (gs.take k))
theorem KP.mark {gs : List Fr} {w1 wr : World} {k : Nat} (h : KP b gs w1 k wr) (hk : k < gs.length) (hg : gs.length ≤ 20000) (hn : gs[k].1 < 4096) :
    ∃ w2, (Instr.mapUpdate tMi (.map (some b)) (.int .i64 (gs[k].1 : Nat)) (.int .i64 (k : Nat))).run Tryz.prog wr = .ok () w2 ∧ KP b gs w1 (k + 1) w2 := by
  obtain ⟨c, hc, hm⟩ := h.map
  obtain ⟨w2, hr, hm2, hc2⟩ := hm.put (wf_small (n := gs[k].1) (by omega)) (wf_small (n := k) (by omega)) (by omega)
  refine ⟨w2, hr, h.chg.trans hc2, c + 1, by omega, ?_⟩
  have e : gs.take (k + 1) = gs.take k ++ [gs[k]] := by rw [List.take_add_one, List.getElem?_eq_getElem hk]; rfl
  rw [e, lookL_snoc, List.length_take, Nat.min_eq_left (by omega)]
  exact hm2
theorem KP.alloc {gs : List Fr} {w1 wr : World} {k : Nat} (h : KP b gs w1 k wr) (o : Obj) : KP b gs w1 k (wr.alloc o) := by
  obtain ⟨c, hc, hm⟩ := h.map
  exact ⟨h.chg.alloc o, c, hc, hm.apart (F := fun _ => False) ((Chg.refl _ _).alloc o) (fun x => x)⟩
theorem KP.drew {gs : List Fr} {w1 wr : World} {k : Nat} (h : KP b gs w1 k wr) : KP b gs w1 k wr.drew := by
  obtain ⟨c, hc, hm⟩ := h.map
  exact ⟨h.chg.drew, c, hc, hm.apart (F := fun _ => False) ((Chg.refl _ _).drew) (fun x => x)⟩
theorem PL.kept_ {ao : Option Addr} {cap n : Nat} (h : PL O d m j b (.slice ao fs.length cap) M fs w) (hn : n ≤ fs.length) {wr : World} (hk : KP b (fs.take n) (w.setCell ⟨j, 1, none⟩ (.slice ao n cap)) n wr) : Left' O d m j b M (fs.take n) w wr := by
  obtain ⟨-, hcap, hrow⟩ := fr_cut h.row hn
  have hset : Chg (· = j) w (w.setCell ⟨j, 1, none⟩ (.slice ao n cap)) := (Chg.refl (· = j) w).root 1 _
  have hl : (fs.take n).length = n := by rw [List.length_take]; omega
  have eb : (Value.slice ao n cap).ownBlock = (Value.slice ao fs.length cap).ownBlock := by cases ao <;> rfl
  have hbox := blk_set h.box 1 (.slice ao n cap)
  obtain ⟨c, hc, hm⟩ := hk.map
  refine ⟨.slice ao n cap, h.turn (F := pX j b (.slice ao fs.length cap)) ((hset.mono (fun k _ e => Or.inl e)).trans (hk.chg.mono (fun k _ e => Or.inr (Or.inl e)))) (fun k e => e) (hk.chg.at ?_ h.ne) (row_kept (row_kept hrow hset (fun g hg e => h.nj (by rw [← eb, ← e]; exact hg))) hk.chg (fun g hg e => h.nb (by rw [← eb, ← e]; exact hg))) ⟨c, by rw [hl]; exact hc, ?_⟩ (fun k e => Or.inl (by rw [← eb]; exact e)) (by rw [hl]; have := h.few; omega) (fun x hx => h.small x (List.mem_of_mem_take hx)) (fun x hx => h.sums x (List.mem_of_mem_take hx))⟩
  · simpa [pCells] using hbox
  · have e : (fs.take n).take n = fs.take n := by rw [List.take_take, Nat.min_self]
    rw [e] at hm
    exact hm
theorem meas_lt {n k : Nat} (h : k < n) (hw : wrap64 ((k : Int) + 1) = (k : Int) + 1) : n - (intOf (.int .i64 (wrap64 ((k : Int) + 1)))).toNat < n - (intOf (.int .i64 (k : Int))).toNat := by rw [hw]; simp [intOf]; omega
set_option maxRecDepth 100000 in
set_option maxHeartbeats 4000000 in
theorem keep_any (h : PL O d m j b f M fs w) (n : Nat) (hn : n ≤ fs.length) : Calls Tryz.prog 70 #[ptr j, .int .i64 (n : Nat)] w fun e w' => e = .returned (.tuple #[]) ∧ Left' O d m j b M (fs.take n) w w' := by
  obtain ⟨ao, cap, rfl⟩ := h.shape
  obtain ⟨-, hcap, hrow⟩ := fr_cut h.row hn
  have hfew := h.few
  have c1 := h.c1
  have g1 : w.frozen? ⟨j, 1, none⟩ = false := blk_free h.box 1
  have lj := lt_of_block h.box
  obtain ⟨w1, hw1⟩ : ∃ x, w.setCell ⟨j, 1, none⟩ (.slice ao n cap) = x := ⟨_, rfl⟩
  have hset : Chg (· = j) w w1 := by rw [← hw1]; exact (Chg.refl (· = j) w).root 1 _
  have eb : (Value.slice ao n cap).ownBlock = (Value.slice ao fs.length cap).ownBlock := by cases ao <;> rfl
  have hbox1 : w1.heap[j]? = some (.cells (pCells d b (.slice ao n cap)) tLo (0, 0)) := by
    have := blk_set h.box 1 (.slice ao n cap)
    rw [← hw1]
    simpa [pCells] using this
  obtain ⟨c0, hc0, hm0⟩ := h.map
  obtain ⟨w2, hr2, hm2, hc2⟩ := (hm0.apart hset (fun e => h.ne e.symm)).clear 0
  have hrow1 := row_kept hrow hset (fun g hg e => h.nj (by rw [← eb, ← e]; exact hg))
  have hfb : ∀ g, (Value.slice ao n cap).ownBlock = some g → g ≠ b := fun g hg e => h.nb (by rw [← eb, ← e]; exact hg)
  have hl : (fs.take n).length = n := by rw [List.length_take]; omega
  obtain ⟨gs, hgs⟩ : ∃ gs, fs.take n = gs := ⟨_, rfl⟩
  have HEND : Hid (∀ wr, KP b gs w1 n wr → Left' O d m j b M gs w wr) := hid (fun wr hk => by subst hgs; subst hw1; exact h.kept_ hn hk)
  have HSM : Hid (∀ x ∈ gs, x.1 < 4096) := hid (fun x hx => h.small x (List.mem_of_mem_take (by rw [hgs]; exact hx)))
  rw [hgs] at hl hrow1 ⊢
  have HROW : Hid (∀ wr, Chg (· = b) w1 wr → wr.ownsRow 0 tFr 2 (.slice ao n cap) gs.length (gs.flatMap frV)) := hid (fun wr hc => row_kept hrow1 hc (fun g hg e => hfb g hg e))
  have hjb : ¬ j = b := h.ne
  have HB2 : Hid (∀ wr, Chg (· = b) w1 wr → wr.heap[j]? = some (.cells (pCells d b (.slice ao n cap)) tLo (0, 0))) := hid (fun wr hc => hc.at hbox1 hjb)
  have HK0 : Hid (KP b gs w1 0 w2) := hid ⟨hc2, 0, Nat.le_refl _, hm2⟩
  have HW := hid hw1
  have HL := hid hl
  have HFEW := hid hfew
  have HN := hid hn
  have k1 : w1.cell? ⟨j, 1, none⟩ = some (.slice ao n cap) := blk_cell hbox1 1
  have k2 : w1.cell? ⟨j, 2, none⟩ = some (.map (some b)) := blk_cell hbox1 2
  have hncap : (n : Int) ≤ (cap : Int) := by omega
  have HR2 := hid hr2
  clear h hrow hrow1 hset hm0 hc0 hm2 hc2 hw1 hgs hfb hbox1 hcap eb hl hfew hn hr2
  go_enter Tryz.func70, Tryz.ntmps70
  go_upto_region 1 with fail
  rw [HW.out]
  have hr2 := HR2.out
  go_upto_region 2 with fail
  have m1 : w2.cell? ⟨j, 1, none⟩ = some (.slice ao n cap) := blk_cell (HB2.out w2 HK0.out.chg) 1
  clear hr2 c1 g1 k1 k2
  go_wp2_with fail
  go_loopw [24] (fun iv wr => ∃ k : Nat, k ≤ n ∧ iv = .int .i64 k ∧ Hid (KP b gs w1 k wr)) (fun iv _ => n - (intOf iv).toNat)
  case atStart => exact ⟨0, Nat.zero_le _, rfl, HK0⟩
  case round =>
    obtain ⟨k, hk, rfl, HK⟩ := hrel
    by_cases hlt : (k : Int) < (n : Int)
    · have HLT : Hid (k < n) := hid (by omega)
      have hkl : k < gs.length := by have := HL.out; omega
      obtain ⟨g, rfl, hg, hc, q0, q1⟩ := fr_at (HROW.out wr HK.out.chg) k hkl
      have hsm := HSM.out gs[k] (List.getElem_mem hkl)
      obtain ⟨w3, hw3⟩ : ∃ x, wr.alloc (.cells #[.int .i64 (gs[k].1 : Nat), .int .u64 (gs[k].2 : Nat)] tFr) = x := ⟨_, rfl⟩
      have hK3 : KP b gs w1 k w3 := by rw [← hw3]; exact HK.out.alloc _
      have hq3 : w3.heap[wr.heap.size]? = some (.cells #[.int .i64 (gs[k].1 : Nat), .int .u64 (gs[k].2 : Nat)] tFr (0, 0)) := by rw [← hw3]; exact blk_new wr _
      obtain ⟨w4, hr4, hK4⟩ := hK3.drew.mark hkl (by have := HL.out; have := HN.out; have := HFEW.out; omega) hsm
      have t0 : w3.cell? ⟨wr.heap.size, 0, none⟩ = some (.int .i64 (gs[k].1 : Nat)) := blk_cell hq3 0
      have t2 : w3.cell? ⟨j, 2, none⟩ = some (.map (some b)) := blk_cell (HB2.out w3 hK3.chg) 2
      have HK4 := hid hK4
      have HR4 := hid hr4
      have HW3 := hid hw3
      have hwk : wrap64 ((k : Int) + 1) = (k : Int) + 1 := by rw [Num.wrap_i]; have := HN.out; have := HFEW.out; omega
      clear hK3 hq3 hK4 hr4 hsm hw3
      generalize gs[k] = x at *
      obtain ⟨x1, x2⟩ := x
      go_upto_region 5 with fail
      rw [HW3.out]
      have hr4 := HR4.out
      go_region
      go_wp2
      all_goals
        go_roundw
        case rel => exact ⟨k + 1, HLT.out, by go_num, HK4⟩
        case measure => exact meas_lt HLT.out hwk
    · obtain rfl : k = n := by omega
      go_wp2
      go_end0
      exact ⟨rfl, HEND.out wr HK.out⟩
end Lo
end Go.Proofs.YtgmbiiocjhkpdaaGreat
