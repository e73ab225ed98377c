/-
  The reference's Forget and Get.
-/
import Derived.Test.YthciofgkdfideaaCacheRefWo
namespace Go.Proofs.Ythciofgkdfideaa
open Go.RowKit
namespace Ca
open Num (hid)
open Mem (Bs bs tI tS Chg Row ptr blk_cell blk_free blk_new blk_set blk_other blk_alloc row_kept row_shape row_type append_from wpList_append_run)
variable {R : Nat → Prop} {w w1 : World} {u size : Nat} {l : Row} {n : Int} {v : Value}
theorem OR.all {Q : Nat → Prop} {m : Row} (h : OR Q w v m) (hR : ∀ k, Q k → R k) : OR R w v m := ⟨h.1, fun g hg => hR g (h.2 g hg)⟩
theorem OR.on {Q : Nat → Prop} {m : Row} (h : OR Q w v m) (hb : Below w.heap.size w w1) : OR Q w1 v m := h.kept (F := fun _ => False) (Chg.of_below hb) (fun _ _ h => h.elim)
theorem RU.cells (h : RU R w u size l) : ∃ v, w.cell? ⟨u, 0, none⟩ = some (.int .i64 (size : Int)) ∧ w.cell? ⟨u, 1, none⟩ = some v ∧ w.frozen? ⟨u, 1, none⟩ = false ∧ u < w.heap.size := by
  obtain ⟨v, h1, -⟩ := h.box
  exact ⟨v, blk_cell h1 0, blk_cell h1 1, blk_free h1 1, lt_of_block h1⟩
theorem chg_box {F : Nat → Prop} {a b c : World} (hb : Below a.heap.size a b) (hc : Chg F b c) (hF : ∀ k, k < b.heap.size → F k → a.heap.size ≤ k ∨ k = u) : Chg (· = u) a c :=
  (Chg.of_below hb : Chg (· = u) a b).then hc hF
set_option maxRecDepth 100000 in
set_option maxHeartbeats 2000000 in
theorem rforget_any (h : RU R w u size l) (hn : (nos l).Nodup) (hl : l.length ≤ 1000) (hR : ∀ k, w.heap.size ≤ k → R k) (n : Int) :
    Calls Try.prog 17 #[ptr u, .int .i64 n] w fun e w' => e = .returned (.tuple #[]) ∧ RU R w' u size (wo n l) ∧ Chg (· = u) w w' := by
  have hw := rwo_any h hn hl n
  obtain ⟨⟨⟨y0, y1, y2⟩, y3⟩, hF⟩ : ∃ x, foundM n l = x := ⟨_, rfl⟩
  rw [hF] at hw
  dsimp only at hw
  have HW := hid hw
  have HU := hid h
  have HR := hid hR
  clear hw hF h hR
  go_enter Try.func17, Try.ntmps17
  go_wp2_with fail
  refine HW.out.mono ?_
  rintro e w1 ⟨v, rfl, ho, hb⟩
  obtain ⟨ao, cap, rfl, -⟩ := row_shape ho.1
  have ba : Below w1.heap.size w1 (w1.alloc (oObj ⟨y0, y1, y2⟩)) := (Below.refl _ w1).alloc (Nat.le_refl _) _
  have hu := (HU.out.on hb).on ba
  obtain ⟨v0, c0, c1, c2, c3⟩ := hu.cells
  have ht := hu.turn ((ho.on ba).all HR.out).read
  have HT := hid (And.intro ht.1 (chg_box (u := u) (hb.trans (ba.mono hb.size)) ht.2 (fun k _ e => Or.inr e)))
  clear ho hb ba hu ht
  dsimp only [oObj] at c0 c1 c2 c3 HT
  go_wp2
  go_end0
  exact ⟨rfl, HT.out⟩
theorem found_of_none (h : get? n l = none) : foundM n l = (zeroO, false) := by unfold foundM; rw [h]
theorem found_of_some {y : One} (h : get? n l = some y) : foundM n l = (y, true) := by unfold foundM; rw [h]
theorem obj_kept {F : Nat → Prop} {b : Nat} {x : One} (h : w.heap[b]? = some (oObj x)) (hc : Chg F w w1) (hF : ¬ F b) : w1.heap[b]? = some (oObj x) := hc.at h hF
set_option maxRecDepth 100000 in
set_option maxHeartbeats 2000000 in
theorem rget_any (h : RU R w u size l) (hn : (nos l).Nodup) (hl : l.length ≤ 1000) (hR : ∀ k, w.heap.size ≤ k → R k) (n : Int) :
    Calls Try.prog 10 #[ptr u, .int .i64 n] w fun e w' => e = .returned (.tuple #[.string (bs (foundM n l).1.d), .bool (foundM n l).2]) ∧ RU R w' u size (getM n l) ∧ Chg (· = u) w w' := by
  have hw := rwo_any h hn hl n
  have HU := hid h
  have HR := hid hR
  have HL := hid hl
  cases hg : get? n l with
  | none =>
    rw [found_of_none hg] at hw ⊢
    rw [getM_no hg]
    have HW := hid hw
    clear hw h hR hg hl
    dsimp only [zeroO] at HW ⊢
    have e0 : bs [] = ⟨#[]⟩ := rfl
    rw [e0] at HW ⊢
    clear e0
    go_enter Try.func10, Try.ntmps10
    go_wp2_with fail
    refine HW.out.mono ?_
    rintro e w1 ⟨v, rfl, ho, hb⟩
    have HB := hid hb
    clear hb ho
    go_wp2
    go_ret2
    have hb2 := HB.out.trans (((Below.refl _ w1).alloc (Nat.le_refl _) (.cells #[.int .i64 0, .string ⟨#[]⟩, .bool false] tO)).mono HB.out.size)
    exact ⟨rfl, HU.out.on hb2, Chg.of_below hb2⟩
  | some y =>
    obtain ⟨y0, y1, y2⟩ := y
    rw [found_of_some hg] at hw ⊢
    rw [getM_yes hg]
    dsimp only at hw ⊢
    have HW := hid hw
    clear hw h hR hg hl
    go_enter Try.func10, Try.ntmps10
    go_wp2_with fail
    refine HW.out.mono ?_
    rintro e w1 ⟨v, rfl, ho, hb⟩
    have ba : Below w1.heap.size w1 (w1.alloc (oObj ⟨y0, y1, y2⟩)) := (Below.refl _ w1).alloc (Nat.le_refl _) _
    have hlow : ∀ g, v.ownBlock = some g → w.heap.size ≤ g ∧ g < w1.heap.size := fun g hg => ⟨ho.2 g hg, (ho.1.lt g hg).2⟩
    have hwl := wo_len n l
    obtain ⟨v', w2, hr, ho2, hc, hk⟩ := push_o ((ho.on ba).all HR.out) (fun k hk => HR.out k (by have := hb.size; simp at hk; omega)) ⟨y0, y1, y2⟩ (by have := HL.out; omega)
    have hu := ((HU.out.on hb).on ba)
    obtain ⟨ao2, cap2, hv, -⟩ := row_shape ho2.1
    rw [List.length_append, List.length_singleton] at hv
    subst hv
    have hs : w.heap.size ≤ (w1.alloc (oObj ⟨y0, y1, y2⟩)).heap.size := Nat.le_trans hb.size ba.size
    have hb2 : Below w.heap.size w w2 := (hb.trans (ba.mono hb.size)).trans (hc.below hs (fun k hk e => by have := (hlow k e).1; omega))
    have hu := HU.out.on hb2
    obtain ⟨v0, c0, c1, c2, c3⟩ := hu.cells
    have ht := hu.turn ho2.read
    have hlu := HU.out.lt
    have hx := blk_other (hc.at (blk_new w1 (oObj ⟨y0, y1, y2⟩)) (fun e => by have := (hlow _ e).2; omega)) (p := ⟨u, 1, none⟩) (by have := hb.size; show w1.heap.size ≠ u; omega) (.slice ao2 ((wo n l).length + 1) cap2)
    obtain ⟨x0, x1, x2, x3, -, -, -⟩ := obj_cells hx
    obtain ⟨b0, b1, b2, b3, -, -, -⟩ := obj_cells (blk_new w1 (oObj ⟨y0, y1, y2⟩))
    have HT := hid (And.intro ht.1 ((Chg.of_below hb2).trans ht.2))
    have HR1 := hid hr
    clear ho hb ba hu ht hx hr ho2 hc hk hlow hwl hs hb2 hlu
    dsimp only [oObj] at b0 b1 b2 b3 HR1
    go_wp2_with (at_builtin; refine wpList_append_run rfl (.tmp 18) (.tmp 20) tOs tOs rfl _ _ (by simp [Act.eval]) (by simp [Act.eval]) HR1.out ?_)
    go_ret2
    exact ⟨rfl, HT.out⟩
end Ca
end Go.Proofs.Ythciofgkdfideaa
