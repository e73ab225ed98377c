/-
  Book.Put: a page's bytes are turned, or a page more.
-/
import Derived.Test.YtkoglikaaehhjaaSpareBook
namespace Go.Proofs.Ytkoglikaaehhjaa
open Go.RowKit
namespace Sp
open Num (hid)
open Mem (Bs bs tI tS tIs tSs Chg Row ptr blk_cell blk_free blk_new blk_set blk_other blk_alloc row_kept row_shape row_type wpList_append_run)
/-- The struct and its rows, whatever they hold. -/
structure BookH (R : Nat → Prop) (w : World) (b : Nat) (nv dv : Value) (n m : Nat) (ks ds : List Value) : Prop where
  blk : w.heap[b]? = some (.cells #[nv, dv] tBk (0, 0))
  own : R b
  keys : Row R w tI 1 nv n ks
  datas : Row R w tS 1 dv m ds
variable {R : Nat → Prop} {w : World} {b : Nat} {nv dv : Value} {n m : Nat} {ks ds : List Value}
theorem row_ne {t : TypeId} {k : Nat} {v : Value} {xs : List Value} (hv : w.ownsRow 0 t k v n xs) {cs : Array Value} (hb : w.heap[b]? = some (.cells cs tBk (0, 0))) (ht : t ≠ tBk) : ∀ g, v.ownBlock = some g → ¬ g = b := by
  rintro g hg rfl
  obtain ⟨cur, hh⟩ := row_type hv hg
  rw [hb] at hh
  simp only [Option.some.injEq, Obj.cells.injEq] at hh
  exact ht hh.2.1.symm
theorem row_two {t t' : TypeId} {v v' : Value} {n' : Nat} {xs xs' : List Value} (hv : w.ownsRow 0 t 1 v n xs) (hv' : w.ownsRow 0 t' 1 v' n' xs') (ht : t ≠ t') : ∀ g, v.ownBlock = some g → ¬ v'.ownBlock = some g := by
  intro g hg hg'
  obtain ⟨cur, hh⟩ := row_type hv hg
  obtain ⟨cur', hh'⟩ := row_type hv' hg'
  rw [hh] at hh'
  simp only [Option.some.injEq, Obj.cells.injEq] at hh'
  exact ht hh'.2.1
theorem BookH.pushN (h : BookH R w b nv dv n m ks ds) (hR : ∀ k, w.heap.size ≤ k → R k) (x : Int) (hn : n ≤ 200000) :
    ∃ ao cap W1, (Builtin.append_ #[tIs, tIs] tIs #[nv, .slice (some ⟨w.heap.size, 0, none⟩) 1 1]).run Try.prog (w.alloc (.cells #[.int .i64 x] tI)) = .ok (.slice ao (n + 1) cap) W1 ∧
      W1.frozen? ⟨b, 0, none⟩ = false ∧ W1.cell? ⟨b, 0, none⟩ = some nv ∧ b < W1.heap.size ∧ BookH R (W1.setCell ⟨b, 0, none⟩ (.slice ao (n + 1) cap)) b (.slice ao (n + 1) cap) dv (n + 1) m (ks ++ [.int .i64 x]) ds ∧ Chg R w (W1.setCell ⟨b, 0, none⟩ (.slice ao (n + 1) cap)) := by
  obtain ⟨v', W1, hr, ho, hc, hw⟩ := Mem.push_int h.keys.1 x (by omega)
  obtain ⟨ao, cap, rfl, -⟩ := row_shape ho
  have hb1 : W1.heap[b]? = some (.cells #[nv, dv] tBk (0, 0)) := hc.at h.blk (fun e => row_ne h.keys.1 h.blk (by decide) _ e rfl)
  have hd1 : Row R W1 tS 1 dv m ds := h.datas.kept hc (fun g hg e => row_two h.datas.1 h.keys.1 (by decide) g hg e)
  have hk1 : Row R W1 tI 1 (.slice ao (n + 1) cap) (n + 1) (ks ++ [.int .i64 x]) := ⟨ho, fun g hg => by
    rcases hw g hg with h1 | h1
    · exact h.keys.2 g h1
    · exact hR g h1⟩
  have hs : Chg (· = b) W1 (W1.setCell ⟨b, 0, none⟩ (.slice ao (n + 1) cap)) := (Chg.refl _ W1).root 0 _
  refine ⟨ao, cap, W1, hr, blk_free hb1 0, blk_cell hb1 0, lt_of_block hb1, ⟨blk_set hb1 0 _, h.own, hk1.kept hs (row_ne hk1.1 hb1 (by decide)), hd1.kept hs (row_ne hd1.1 hb1 (by decide))⟩, ?_⟩
  exact (hc.mono (fun k _ e => h.keys.2 k e)).trans (hs.mono (fun k _ e => by rw [e]; exact h.own))
theorem BookH.pushD (h : BookH R w b nv dv n m ks ds) (hR : ∀ k, w.heap.size ≤ k → R k) (x : ByteArray) (hn : m ≤ 200000) :
    ∃ ao cap W1, (Builtin.append_ #[tSs, tSs] tSs #[dv, .slice (some ⟨w.heap.size, 0, none⟩) 1 1]).run Try.prog (w.alloc (.cells #[.string x] tS)) = .ok (.slice ao (m + 1) cap) W1 ∧
      W1.frozen? ⟨b, 1, none⟩ = false ∧ W1.cell? ⟨b, 1, none⟩ = some dv ∧ b < W1.heap.size ∧ BookH R (W1.setCell ⟨b, 1, none⟩ (.slice ao (m + 1) cap)) b nv (.slice ao (m + 1) cap) n (m + 1) ks (ds ++ [.string x]) ∧ Chg R w (W1.setCell ⟨b, 1, none⟩ (.slice ao (m + 1) cap)) := by
  obtain ⟨v', W1, hr, ho, hc, hw⟩ := Mem.push_str h.datas.1 x (by omega)
  obtain ⟨ao, cap, rfl, -⟩ := row_shape ho
  have hb1 : W1.heap[b]? = some (.cells #[nv, dv] tBk (0, 0)) := hc.at h.blk (fun e => row_ne h.datas.1 h.blk (by decide) _ e rfl)
  have hd1 : Row R W1 tI 1 nv n ks := h.keys.kept hc (fun g hg e => row_two h.keys.1 h.datas.1 (by decide) g hg e)
  have hk1 : Row R W1 tS 1 (.slice ao (m + 1) cap) (m + 1) (ds ++ [.string x]) := ⟨ho, fun g hg => by
    rcases hw g hg with h1 | h1
    · exact h.datas.2 g h1
    · exact hR g h1⟩
  have hs : Chg (· = b) W1 (W1.setCell ⟨b, 1, none⟩ (.slice ao (m + 1) cap)) := (Chg.refl _ W1).root 1 _
  refine ⟨ao, cap, W1, hr, blk_free hb1 1, blk_cell hb1 1, lt_of_block hb1, ⟨blk_set hb1 1 _, h.own, hd1.kept hs (row_ne hd1.1 hb1 (by decide)), hk1.kept hs (row_ne hk1.1 hb1 (by decide))⟩, ?_⟩
  exact (hc.mono (fun k _ e => h.datas.2 k e)).trans (hs.mono (fun k _ e => by rw [e]; exact h.own))
theorem BookAt.set {B : Book} {g cap : Nat} (h : BookAt R w b nv (.slice (some ⟨g, 0, none⟩) B.length cap) B) {k : Nat} (hk : k < B.length) (key : Int) (hkey : B[k].1 = key) (d : Bs) :
    BookAt R (w.setCell ⟨g, k, none⟩ (.string (bs d))) b nv (.slice (some ⟨g, 0, none⟩) B.length cap) (B.set k (key, d)) ∧ Chg R w (w.setCell ⟨g, k, none⟩ (.string (bs d))) := by
  have hs : Chg (· = g) w (w.setCell ⟨g, k, none⟩ (.string (bs d))) := (Chg.refl _ w).root k _
  have hrg : R g := h.datas.2 g rfl
  have hne := row_ne h.datas.1 h.blk (by decide) g rfl
  have e1 : keysV (B.set k (key, d)) = keysV B := by
    unfold keysV
    rw [List.map_set]
    apply List.ext_getElem
    · simp
    · intro i h1 h2
      rw [List.getElem_set]
      split
      · rename_i e; subst e; simp [hkey]
      · rfl
  have e2 : datasV (B.set k (key, d)) = (datasV B).set k (.string (bs d)) := by unfold datasV; rw [List.map_set]
  refine ⟨⟨hs.at h.blk (fun e => hne e.symm), h.own, ?_, ?_⟩, hs.mono (fun k _ e => by rw [e]; exact hrg)⟩
  · rw [e1, List.length_set]
    exact h.keys.kept hs (fun g' hg' e => by subst e; exact row_two h.keys.1 h.datas.1 (by decide) g' hg' rfl)
  · rw [e2, List.length_set]
    exact ⟨(h.datas.1.stored k (.string (bs d))).1, h.datas.2⟩
set_option maxRecDepth 100000 in
set_option maxHeartbeats 1000000 in
theorem bput_any {B : Book} (h : BookR R w b B) (hR : ∀ k, w.heap.size ≤ k → R k) (key : Int) (d : Bs) (hB : B.length ≤ 100000) :
    Calls Try.prog 16 #[ptr b, .int .i64 key, .string (bs d)] w fun e w' => e = .returned (.tuple #[]) ∧ BookR R w' b (putB B key d) ∧ Chg R w w' := by
  have HP := hid (place_any h key hB)
  obtain ⟨nv, dv, h⟩ := h
  obtain ⟨ao, cap, ao2, cap2, rfl, rfl, -, hk2⟩ := h.shape
  have c0 := blk_cell h.blk 0
  have c1 := blk_cell h.blk 1
  have hlt := lt_of_block h.blk
  simp only [List.getElem?_toArray, List.getElem?_cons_succ, List.getElem?_cons_zero] at c0 c1
  rcases place_ways B key with ⟨k0, hk0, e1, e2, -, e4, -⟩ | ⟨e1, -, e3, -⟩
  · rw [e1] at HP
    rw [e4]
    obtain ⟨g, rfl, hg, x0, f0⟩ := hk2 k0 hk0
    have hS := h.set hk0 key e2 d
    have HS : Hid (BookR R (w.setCell ⟨g, k0, none⟩ (.string (bs d))) b (B.set k0 (key, d)) ∧ Chg R w (w.setCell ⟨g, k0, none⟩ (.string (bs d)))) := hid ⟨⟨_, _, hS.1⟩, hS.2⟩
    have hk0' : (k0 : Int) < (B.length : Int) := by omega
    generalize B[k0].2 = y at *
    obtain ⟨nl, hnl⟩ : ∃ x, B.length = x := ⟨_, rfl⟩
    rw [hnl] at c1 hk0 hk0'
    generalize B.set k0 (key, d) = B' at *
    clear h hS e1 e2 e4 hk2 hB hnl hR c0
    go_enter Try.func16, Try.ntmps16
    go_wp2_with fail
    refine HP.out.mono ?_
    rintro e w3 ⟨rfl, rfl⟩
    go_wp2
    go_end0
    exact ⟨rfl, HS.out.1, HS.out.2⟩
  · rw [e1] at HP
    rw [e3]
    have hH : BookH R w b (.slice ao B.length cap) (.slice ao2 B.length cap2) B.length B.length (keysV B) (datasV B) := ⟨h.blk, h.own, h.keys, h.datas⟩
    obtain ⟨ao3, cap3, W1, hr1, f1, d1, l1, H1, C1⟩ := hH.pushN hR key (by omega)
    obtain ⟨ao4, cap4, W2, hr2, f2, d2, l2, H2, C2⟩ := H1.pushD (fun k hk => hR k (Nat.le_trans C1.size hk)) (bs d) (by omega)
    have g0 := blk_cell H1.blk 0
    have g1 := blk_cell H1.blk 1
    simp only [List.getElem?_toArray, List.getElem?_cons_succ, List.getElem?_cons_zero] at g0 g1
    have gl := lt_of_block H1.blk
    have HF : Hid (BookR R (W2.setCell ⟨b, 1, none⟩ (.slice ao4 (B.length + 1) cap4)) b (B ++ [(key, d)]) ∧ Chg R w (W2.setCell ⟨b, 1, none⟩ (.slice ao4 (B.length + 1) cap4))) := by
      refine hid ⟨⟨_, _, H2.blk, H2.own, ?_, ?_⟩, C1.trans C2⟩
      · have := H2.keys
        rw [List.length_append]
        unfold keysV at this ⊢
        rw [List.map_append]
        exact this
      · have := H2.datas
        rw [List.length_append]
        unfold datasV at this ⊢
        rw [List.map_append]
        exact this
    have HR1 := hid hr1
    have HR2 := hid hr2
    generalize B ++ [(key, d)] = B' at *
    clear h hH H1 H2 C1 C2 e1 e3 hk2 hB hR hr1 hr2
    generalize B.length = nl at *
    go_enter Try.func16, Try.ntmps16
    go_wp2_with fail
    refine HP.out.mono ?_
    rintro e w3 ⟨rfl, rfl⟩
    go_wp2_with (at_builtin; first | refine wpList_append_run rfl (.tmp 16) (.tmp 18) tIs tIs rfl _ _ (by simp [Act.eval]) (by simp [Act.eval]) HR1.out ?_ | refine wpList_append_run rfl (.tmp 26) (.tmp 28) tSs tSs rfl _ _ (by simp [Act.eval]) (by simp [Act.eval]) HR2.out ?_)
    refine bodyPost_ret (results_none rfl _ _ _) rfl ?_
    exact ⟨rfl, HF.out.1, HF.out.2⟩
end Sp
end Go.Proofs.Ytkoglikaaehhjaa
