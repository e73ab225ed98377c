/-
  What the statements' walks carry: a desk, the box of a head, the old memory; Take and Give as they go on.
-/
import Derived.Test.YtkoglikaaehhjaaSpareAwake
namespace Go.Proofs.Ytkoglikaaehhjaa
open Go.RowKit
namespace Sp
open Num (hid)
open Mem (Bs bs IAt tI tS tIs tSs Chg Row ptr blk_cell blk_free blk_new blk_set blk_other blk_alloc row_kept row_shape row_type)
structure Lab (O : Nat → Prop) (N B d b cnt : Nat) (h : Hd) (S : St) (w0 w : World) : Prop where
  seen : Seen O d b S w
  hb : Hb B h w
  ob : O B
  on : ∀ k, k < N → O k
  nb : N ≤ B
  be : Below N w0 w
  sm : Small cnt S
variable {O : Nat → Prop} {N B d b cnt : Nat} {h : Hd} {S : St} {w0 w w' : World}
theorem Lab.size (k : Lab O N B d b cnt h S w0 w) : N ≤ w.heap.size := Nat.le_trans k.nb (Nat.le_of_lt k.hb.lt)
theorem Lab.kept (k : Lab O N B d b cnt h S w0 w) (hb : Below w.heap.size w w') : Lab O N B d b cnt h S w0 w' := ⟨k.seen.kept hb, k.hb.on hb, k.ob, k.on, k.nb, k.be.trans (hb.mono k.size), k.sm⟩
theorem Lab.put (k : Lab O N B d b cnt h S w0 w) (g : Hd) : Lab O N B d b cnt g S w0 (put6 w B g) :=
  ⟨(((((k.seen.set k.ob _).set k.ob _).set k.ob _).set k.ob _).set k.ob _).set k.ob _, k.hb.put g, k.ob, k.on, k.nb, bel_put6 k.be k.nb g, k.sm⟩
theorem Lab.beside {F : Nat → Prop} (k : Lab O N B d b cnt h S w0 w) (hc : Chg F w w') (hF : ∀ k, F k → k < w.heap.size → O k) (hFB : ¬ F B) (hFN : ∀ k, k < N → ¬ F k) : Lab (fun k => O k ∨ (w.heap.size ≤ k ∧ k < w'.heap.size)) N B d b cnt h S w0 w' :=
  ⟨k.seen.beside hc hF, k.hb.at hc hFB, Or.inl k.ob, fun j hj => Or.inl (k.on j hj), k.nb, k.be.trans (hc.below k.size hFN), k.sm⟩
theorem Lab.turned (k : Lab O N B d b cnt h S w0 w) {S' : St} {cnt' : Nat} (hs : Seen O d b S' w') (hst : Stays O w w') (hm : Small cnt' S') : Lab O N B d b cnt' h S' w0 w' :=
  ⟨hs, hst.hb k.hb k.ob, k.ob, k.on, k.nb, k.be.trans (hst.below k.size k.on), hm⟩
/-- A head's cells as numbers. -/
abbrev putL (w : World) (B : Nat) (g : Hd) : World := put6 w B g
theorem Lab.give {U F : List Int} (k : Lab O N B d b cnt h S w0 w) (hl : S.left < 0) (hc : cnt ≤ 20000) (inv : Inv h S.B U F) (hp : h.pages ≤ 4096) {i : Nat} (hi : i < U.length) :
    Calls Try.prog 19 #[hV h, dkV d, .int .i64 U[i]] w fun e w' => ∃ (h' : Hd) (S' : St), e = .returned (.tuple #[hV h', .int .i64 0]) ∧ Lab O N B d b (cnt + 2) h S' w0 w' ∧ S'.left < 0 ∧ Inv h' S'.B (U.take i ++ U.drop (i + 1)) (U[i] :: F) ∧ h'.mode = h.mode ∧ h'.change = h.change ∧ h'.pages = h.pages ∧ h'.spare = h.spare + 1 ∧ Stays O w w' := by
  obtain ⟨h', B', l', hg, h1, h2, h3, h4, h5, h6, h7, h8⟩ := inv_give (l := S.left) inv hp (Or.inl hl) hi
  refine (give_seen k.seen k.sm (by omega) h (inv.fit hp) U[i]).mono ?_
  rintro e w' ⟨rfl, hs, hst⟩
  have hm := small_giveM k.sm h U[i]
  have hS : (⟨S.B, S.left⟩ : St) = S := rfl
  rw [hS] at hg
  rw [hg] at hs hm ⊢
  exact ⟨h', ⟨B', l'⟩, rfl, k.turned hs hst hm, by show l' < 0; omega, h4, h5, h6, h7, h8, hst⟩
theorem Lab.take {U F : List Int} (k : Lab O N B d b cnt h S w0 w) (hl : S.left < 0) (hc : cnt ≤ 20000) (inv : Inv h S.B U F) (hp : h.pages ≤ 4096) (hp2 : F.length = 0 → h.pages ≤ 4095) :
    Calls Try.prog 17 #[hV h, dkV d] w fun e w' => ∃ (n : Int) (h' : Hd) (S' : St) (F' : List Int), e = .returned (.tuple #[.int .i64 n, hV h', .int .i64 0]) ∧ Lab O N B d b (cnt + 2) h S' w0 w' ∧ S'.left < 0 ∧ n ∉ U ∧ 1 ≤ n ∧ n < h'.pages ∧ Inv h' S'.B (U ++ [n]) F' ∧ h'.mode = h.mode ∧ h'.change = h.change ∧ F'.length = F.length - 1 ∧
      h'.spare = (F.length : Int) - 1 + (if F.length = 0 then 1 else 0) ∧ h'.pages = h.pages + (if F.length = 0 then 1 else 0) ∧ Stays O w w' := by
  obtain ⟨n, h', B', l', F', hg, h1, h2, h3, h4, h5, h6, h7, h8, h9, h10, h11, h12, -⟩ := inv_take (l := S.left) inv hp hp2 (Or.inl hl)
  refine (take_seen k.seen k.sm (by omega) h (inv.fit hp)).mono ?_
  rintro e w' ⟨rfl, hs, hst⟩
  have hm := small_takeM k.sm h
  have hS : (⟨S.B, S.left⟩ : St) = S := rfl
  rw [hS] at hg
  rw [hg] at hs hm ⊢
  exact ⟨n, h', ⟨B', l'⟩, F', rfl, k.turned hs hst hm, by show l' < 0; omega, h4, h5, h6, h7, h8, h9, h10, h11, h12, hst⟩
/-- The desk's count is set. -/
theorem Lab.count (k : Lab O N B d b cnt h S w0 w) (hdN : N ≤ d) (n : Int) (hn : 0 ≤ n) (hn2 : n ≤ 1000) :
    (w.cell? ⟨d, 1, none⟩ = some (.int .i64 S.left) ∧ w.frozen? ⟨d, 1, none⟩ = false ∧ d < w.heap.size) ∧ Lab O N B d b cnt h ⟨S.B, n⟩ w0 (w.setCell ⟨d, 1, none⟩ (.int .i64 n)) := by
  obtain ⟨R, D, h1, h2⟩ := k.seen
  obtain ⟨-, c1, c2, c3⟩ := D.cells
  obtain ⟨D2, C2⟩ := D.count n
  have hBd : B ≠ d := fun e => h1 B k.ob (e ▸ D.own)
  refine ⟨⟨c1, c2, c3⟩, ⟨R, D2, h1, fun j hj => by simpa [World.setCell] using h2 j hj⟩, k.hb.other hBd _, k.ob, k.on, k.nb, bput k.be hdN 1 _, ?_⟩
  have := k.sm
  unfold Small at *
  exact ⟨by show -(cnt : Int) ≤ n; omega, by show n ≤ 1000000; omega, this.2.2⟩
/-- The pages from 1 to n. -/
def upN (n : Nat) : List Int := (List.range n).map fun (j : Nat) => (j : Int) + 1
theorem upN_len (n : Nat) : (upN n).length = n := by unfold upN; rw [List.length_map, List.length_range]
theorem upN_at (n j : Nat) (hj : j < (upN n).length) : (upN n)[j] = (j : Int) + 1 := by simp [upN]
theorem upN_nodup (n : Nat) : (upN n).Nodup := by
  unfold upN List.Nodup
  rw [List.pairwise_map]
  exact List.Pairwise.imp (fun {a b} hab => by omega) (List.nodup_range (n := n))
theorem upN_rg (n : Nat) : ∀ x ∈ upN n, 1 ≤ x ∧ x < (n : Int) + 1 := by
  intro x hx
  obtain ⟨j, hj, rfl⟩ := List.mem_map.1 hx
  have := List.mem_range.1 hj
  omega
theorem inv_new (m : Int) (n : Nat) (hm : m = 1 ∨ m = 2) : Inv ⟨m, (n : Int) + 1, 0, 0, 0, 0⟩ [] (upN n) [] := by
  refine ⟨Free.none, rfl, ?_, ?_, fun x hx => ?_, hm, rfl⟩
  · rw [upN_len]; simp; omega
  · rw [List.append_nil]; exact upN_nodup n
  · rw [List.append_nil] at hx; exact upN_rg n x hx
/-- The desk and the box at the start. -/
theorem lab_new {w wa w1 : World} (hb0 : Below w.heap.size w wa) (hs : Seen (fun k => k < wa.heap.size) d b St0 w1) (hb : Below wa.heap.size wa w1) (g : Hd) :
    Lab (fun k => k < wa.heap.size ∨ (w1.heap.size ≤ k ∧ k < (w1.alloc (hObj g)).heap.size)) w.heap.size w1.heap.size d b 1 g St0 w (w1.alloc (hObj g)) := by
  have hb2 : Below w1.heap.size w1 (w1.alloc (hObj g)) := (Below.refl _ _).alloc (Nat.le_refl _) _
  refine ⟨hs.more hb2, Hb.new g w1, Or.inr ⟨Nat.le_refl _, (Hb.new g w1).lt⟩, fun k hk => Or.inl (Nat.lt_of_lt_of_le hk hb0.size), Nat.le_trans hb0.size hb.size, ?_, small_0⟩
  exact (hb0.trans (hb.mono hb0.size)).trans (hb2.mono (Nat.le_trans hb0.size hb.size))
end Sp
end Go.Proofs.Ytkoglikaaehhjaa
