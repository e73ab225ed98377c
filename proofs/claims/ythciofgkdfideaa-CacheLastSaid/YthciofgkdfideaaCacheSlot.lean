/-
  Slots of pages in memory: their ring, the map of numbers; what the ring's two turns leave.
-/
import Derived.Test.YthciofgkdfideaaCacheRing
import Derived.Test.YthciofgkdfideaaCacheMem
import Derived.Test.YthciofgkdfideaaQuietTail
import Derived.BigRegion
import Derived.Maps.OwnSet
import Derived.Maps.Views
namespace Go.Proofs.Ythciofgkdfideaa
open Go.RowKit
namespace Ca
open Num (hid)
open Mem (Bs bs tI tS Chg Row ptr blk_cell blk_free blk_new blk_set blk_other blk_alloc)
abbrev tC : TypeId := 54
abbrev tSl : TypeId := 58
abbrev tMp : TypeId := 50
def sObj (x : One) (p q : Nat) : Obj := .cells #[.int .i64 x.n, .string (bs x.d), .bool x.w, ptr p, ptr q] tSl
/-- A slot at k. -/
def Sl (w : World) (f : Nat → One) (nx pv : Fn) (k : Nat) : Prop := w.heap[k]? = some (sObj (f k) (pv k) (nx k))
variable {w w' : World} {f : Nat → One} {nx pv : Fn} {k s z : Nat}
theorem sObj_cells {x : One} {p q : Nat} (h : w.heap[k]? = some (sObj x p q)) : w.cell? ⟨k, 0, none⟩ = some (.int .i64 x.n) ∧ w.cell? ⟨k, 1, none⟩ = some (.string (bs x.d)) ∧ w.cell? ⟨k, 2, none⟩ = some (.bool x.w) ∧ w.cell? ⟨k, 3, none⟩ = some (ptr p) ∧ w.cell? ⟨k, 4, none⟩ = some (ptr q) ∧ k < w.heap.size :=
  ⟨blk_cell h 0, blk_cell h 1, blk_cell h 2, blk_cell h 3, blk_cell h 4, lt_of_block h⟩
theorem sObj_free {x : One} {p q : Nat} (h : w.heap[k]? = some (sObj x p q)) : w.frozen? ⟨k, 0, none⟩ = false ∧ w.frozen? ⟨k, 1, none⟩ = false ∧ w.frozen? ⟨k, 2, none⟩ = false ∧ w.frozen? ⟨k, 3, none⟩ = false ∧ w.frozen? ⟨k, 4, none⟩ = false :=
  ⟨blk_free h 0, blk_free h 1, blk_free h 2, blk_free h 3, blk_free h 4⟩
theorem Sl.nx_set (h : Sl w f nx pv k) (p q : Nat) : Sl (w.setCell ⟨p, 4, none⟩ (ptr q)) f (upd nx p q) pv k := by
  unfold Sl at h ⊢
  by_cases e : k = p
  · subst e
    rw [upd_same]
    exact blk_set h 4 _
  · rw [upd_other e]
    exact blk_other h e _
theorem Sl.pv_set (h : Sl w f nx pv k) (p q : Nat) : Sl (w.setCell ⟨p, 3, none⟩ (ptr q)) f nx (upd pv p q) k := by
  unfold Sl at h ⊢
  by_cases e : k = p
  · subst e
    rw [upd_same]
    exact blk_set h 3 _
  · rw [upd_other e]
    exact blk_other h e _
theorem Sl.at {F : Nat → Prop} (h : Sl w f nx pv k) (hc : Chg F w w') (hF : ¬ F k) : Sl w' f nx pv k := hc.at h hF
set_option maxRecDepth 100000 in
set_option maxHeartbeats 2000000 in
theorem leave_any (h : Sl w f nx pv s) (hp : Sl w f nx pv (pv s)) (hq : Sl w f nx pv (nx s)) :
    Calls Try.prog 33 #[ptr s] w fun e w' => e = .returned (.tuple #[]) ∧ (∀ k, Sl w f nx pv k → Sl w' f (upd nx (pv s) (nx s)) (upd pv (nx s) (pv s)) k) ∧ Chg (fun k => k = pv s ∨ k = nx s) w w' := by
  obtain ⟨-, -, -, c3, c4, l0⟩ := sObj_cells h
  obtain ⟨-, -, -, -, p5, l1⟩ := sObj_cells hp
  obtain ⟨-, -, -, -, -, l2⟩ := sObj_cells hq
  obtain ⟨-, -, -, -, p4⟩ := sObj_free hp
  obtain ⟨-, -, -, g3, -, g0⟩ := sObj_cells (show _ from hq.nx_set (pv s) (nx s))
  obtain ⟨-, -, -, q3, -⟩ := sObj_free (show _ from hq.nx_set (pv s) (nx s))
  have HF := hid (fun k (hk : Sl w f nx pv k) => (hk.nx_set (pv s) (nx s)).pv_set (nx s) (pv s))
  have HC := hid ((((Chg.refl (fun k => k = pv s ∨ k = nx s) w).setCell (p := ⟨pv s, 4, none⟩) (Or.inr (Or.inl rfl)) (ptr (nx s))).setCell (p := ⟨nx s, 3, none⟩) (Or.inr (Or.inr rfl)) (ptr (pv s))))
  generalize nx (pv s) = x1 at *
  generalize pv (nx s) = x2 at *
  generalize pv s = p at *
  generalize nx s = q at *
  clear h hp hq g0
  go_enter Try.func33, Try.ntmps33
  go_wp2
  go_region
  go_end0
  exact ⟨rfl, fun k hk => HF.out k hk, HC.out.drew⟩
/-- What use leaves of the pointers. -/
def nx1 (nx pv : Fn) (s : Nat) : Fn := upd nx (pv s) (nx s)
def pv1 (nx pv : Fn) (s : Nat) : Fn := upd pv (nx s) (pv s)
def nxU (nx pv : Fn) (s z : Nat) : Fn := upd (upd (nx1 nx pv s) s z) (pv1 nx pv s z) s
def pvU (nx pv : Fn) (s z : Nat) : Fn := upd (upd (pv1 nx pv s) s (pv1 nx pv s z)) z s
set_option maxRecDepth 100000 in
set_option maxHeartbeats 2000000 in
theorem use_any (h : Sl w f nx pv s) (hp : Sl w f nx pv (pv s)) (hq : Sl w f nx pv (nx s)) (hz : Sl w f nx pv z) (hy : Sl w f nx pv (pv1 nx pv s z)) (hsz : s ≠ z) (hys : pv1 nx pv s z ≠ s) :
    Calls Try.prog 25 #[ptr s, ptr z] w fun e w' => e = .returned (.tuple #[]) ∧ (∀ k, Sl w f nx pv k → Sl w' f (nxU nx pv s z) (pvU nx pv s z) k) ∧ Chg (fun k => (k = pv s ∨ k = nx s) ∨ k = s ∨ k = z ∨ k = pv1 nx pv s z) w w' := by
  have HL := hid (leave_any h hp hq)
  have H := hid h
  have HZ := hid hz
  have HY := hid hy
  have e1 : upd nx (pv s) (nx s) = nx1 nx pv s := rfl
  have e2 : upd pv (nx s) (pv s) = pv1 nx pv s := rfl
  rw [e1, e2] at HL
  unfold nxU pvU
  generalize nx1 nx pv s = n1 at *
  generalize pv1 nx pv s = p1 at *
  generalize pv s = p at *
  generalize nx s = q at *
  clear h hz hy e1 e2 hp hq
  go_enter Try.func25, Try.ntmps25
  go_wp2_with fail
  refine HL.out.mono ?_
  rintro e w1 ⟨rfl, hs, hc⟩
  obtain ⟨-, -, -, z3, -, lz⟩ := sObj_cells (show _ from hs z HZ.out)
  obtain ⟨-, -, -, fz, -⟩ := sObj_free (show _ from hs z HZ.out)
  obtain ⟨-, -, -, s3, s4, ls⟩ := sObj_cells (show _ from hs s H.out)
  obtain ⟨-, -, -, fs3, fs4⟩ := sObj_free (show _ from hs s H.out)
  obtain ⟨-, -, -, -, y4, ly⟩ := sObj_cells (show _ from hs _ HY.out)
  obtain ⟨-, -, -, -, fy⟩ := sObj_free (show _ from hs _ HY.out)
  have HF := hid (fun k (hk : Sl w f nx pv k) => (((((hs k hk).pv_set s (p1 z)).nx_set s z).nx_set (p1 z) s).pv_set z s))
  have HC := hid (((((hc.mono (fun k _ e => (Or.inl e : (k = p ∨ k = q) ∨ k = s ∨ k = z ∨ k = p1 z))).setCell (p := ⟨s, 3, none⟩) (Or.inr (Or.inr (Or.inl rfl))) (ptr (p1 z))).setCell (p := ⟨s, 4, none⟩) (Or.inr (Or.inr (Or.inl rfl))) (ptr z)).setCell (p := ⟨p1 z, 4, none⟩) (Or.inr (Or.inr (Or.inr (Or.inr rfl)))) (ptr s)).setCell (p := ⟨z, 3, none⟩) (Or.inr (Or.inr (Or.inr (Or.inl rfl)))) (ptr s))
  generalize n1 (p1 z) = x1 at *
  generalize n1 s = x2 at *
  generalize p1 s = x3 at *
  generalize hye : p1 z = y at *
  have HE := hid hye
  clear hs hc hye
  go_wp2
  go_end0
  rw [HE.out]
  exact ⟨rfl, fun k hk => HF.out k hk, HC.out⟩
end Ca
end Go.Proofs.Ythciofgkdfideaa
