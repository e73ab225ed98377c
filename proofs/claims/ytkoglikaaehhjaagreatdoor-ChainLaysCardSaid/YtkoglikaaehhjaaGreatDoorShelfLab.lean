/-
  What the statements' walks carry: a shelf of the call's own, rows of the call's own, the old memory; its calls as they go on.
-/
import Derived.Test.YtkoglikaaehhjaaGreatDoorShelfFull
namespace Go.Proofs.YtkoglikaaehhjaaGreatDoor
open Go.RowKit
namespace Sh
open Sp
open Num (hid)
open Mem (Bs bs IAt tI tS tIs tSs Chg Row ptr blk_cell blk_free blk_new blk_set blk_other blk_alloc row_kept row_shape row_type)
structure ShL (s d N cnt : Nat) (lim : Int) (h : Hd) (arm : Int) (S : St) (w0 w : World) : Prop where
  at' : ShAt s d lim h arm S w
  ns : N ≤ s
  nd : N ≤ d
  be : Below N w0 w
  sm : Small cnt S
variable {s d N cnt : Nat} {lim : Int} {h : Hd} {arm : Int} {S : St} {w0 w w' : World}
theorem ShL.size (k : ShL s d N cnt lim h arm S w0 w) : N ≤ w.heap.size := Nat.le_trans k.ns (Nat.le_of_lt k.at'.lt.1)
theorem ShL.kept (k : ShL s d N cnt lim h arm S w0 w) (hb : Below w.heap.size w w') : ShL s d N cnt lim h arm S w0 w' := ⟨k.at'.on hb, k.ns, k.nd, k.be.trans (hb.mono k.size), k.sm⟩
theorem ShL.turned {cnt' : Nat} {h' : Hd} {arm' : Int} {S' : St} (k : ShL s d N cnt lim h arm S w0 w) (A : ShAt s d lim h' arm' S' w') (hc : Chg (Two s d) w w') (hm : Small cnt' S') : ShL s d N cnt' lim h' arm' S' w0 w' :=
  ⟨A, k.ns, k.nd, k.be.trans (hc.below k.size (fun j hj e => by have := k.ns; have := k.nd; rcases e with e | e <;> omega)), hm⟩
/-- Something of the call's own, beside the shelf, has turned. -/
theorem ShL.beside {F : Nat → Prop} (k : ShL s d N cnt lim h arm S w0 w) (hc : Chg F w w') (hF : ∀ g, F g → N ≤ g ∧ g ≠ s ∧ g ≠ d) : ShL s d N cnt lim h arm S w0 w' :=
  ⟨k.at'.apart hc (fun e => (hF s e).2.1 rfl) (fun e => (hF d e).2.2 rfl), k.ns, k.nd, k.be.trans (hc.below k.size (fun j hj e => by have := (hF j e).1; omega)), k.sm⟩
theorem ShL.more (k : ShL s d N cnt lim h arm S w0 w) {cnt' : Nat} (hc : cnt ≤ cnt') : ShL s d N cnt' lim h arm S w0 w := ⟨k.at', k.ns, k.nd, k.be, k.sm.more hc⟩
/-- A row of the call's own, beside the shelf. -/
structure Own (s d N : Nat) (t : TypeId) (w : World) (v : Value) (n : Nat) (xs : List Value) : Prop where
  row : w.ownsRow 0 t 1 v n xs
  own : ∀ g, v.ownBlock = some g → N ≤ g ∧ g ≠ s ∧ g ≠ d
variable {t : TypeId} {v : Value} {n : Nat} {xs : List Value}
theorem Own.on (h : Own s d N t w v n xs) (hb : Below w.heap.size w w') : Own s d N t w' v n xs := ⟨row_kept h.row (Chg.of_below (F := fun _ => False) hb) (fun _ _ h => h), h.own⟩
theorem Own.turned (h : Own s d N t w v n xs) (hc : Chg (Two s d) w w') : Own s d N t w' v n xs := ⟨row_kept h.row hc (fun g hg e => by have := h.own g hg; rcases e with e | e <;> omega), h.own⟩
theorem Own.apart {F : Nat → Prop} (h : Own s d N t w v n xs) (hc : Chg F w w') (hF : ∀ g, v.ownBlock = some g → ¬ F g) : Own s d N t w' v n xs := ⟨row_kept h.row hc hF, h.own⟩
/-- A row that was made or grown beside the shelf. -/
theorem Own.made {v' : Value} {n' : Nat} {xs' : List Value} (k : ShL s d N cnt lim h arm S w0 w) (hr : w'.ownsRow 0 t 1 v' n' xs') (hg : ∀ g, v'.ownBlock = some g → w.heap.size ≤ g) : Own s d N t w' v' n' xs' := ⟨hr, fun g e => by
  have h1 := hg g e
  have h2 := k.at'.lt
  have h3 := k.size
  omega⟩
theorem Own.grown {v' : Value} {n' : Nat} {xs' : List Value} (o : Own s d N t w v n xs) (k : ShL s d N cnt lim h arm S w0 w) (hr : w'.ownsRow 0 t 1 v' n' xs') (hg : ∀ g, v'.ownBlock = some g → v.ownBlock = some g ∨ w.heap.size ≤ g) : Own s d N t w' v' n' xs' := ⟨hr, fun g e => by
  rcases hg g e with h1 | h1
  · exact o.own g h1
  · have h2 := k.at'.lt
    have h3 := k.size
    omega⟩
/-! ### fields of a head -/
theorem fld1 (a b c x e f : Int) (w : World) : (Instr.field tH (.agg #[.int .i64 a, .int .i64 b, .int .i64 c, .int .i64 x, .int .i64 e, .int .u64 f]) 1).run Tryz.prog w = .ok (.int .i64 b) w := by kernel_rfl
theorem fld3 (a b c x e f : Int) (w : World) : (Instr.field tH (.agg #[.int .i64 a, .int .i64 b, .int .i64 c, .int .i64 x, .int .i64 e, .int .u64 f]) 3).run Tryz.prog w = .ok (.int .i64 x) w := by kernel_rfl
/-! ### calls -/
variable {U F : List Int}
theorem ShL.take (k : ShL s d N cnt lim h arm S w0 w) (ha : arm < 1) (hc : cnt ≤ 20000) (inv : Inv h S U F) (hl : lim ≤ 4096) (hp : h.pages ≤ lim) (hroom : ¬ (F.length = 0 ∧ lim ≤ h.pages)) :
    Calls Tryz.prog 25 #[ptr s] w fun e w' => ∃ (n : Int) (h' : Hd) (S' : St) (F' : List Int), e = .returned (.tuple #[.int .i64 n, .int .i64 0]) ∧ ShL s d N (cnt + 3) lim h' arm S' w0 w' ∧ Inv h' S' (U ++ [n]) F' ∧ h'.pages ≤ lim ∧ n ∉ U ∧ 1 ≤ n ∧ n < h'.pages ∧ F'.length = F.length - 1 ∧ (∀ x, x ∈ U → S'.f x = S.f x) ∧ S'.f n = some (zeros 232) ∧ Chg (Two s d) w w' := by
  obtain ⟨n, h', S', F', hg, h1, h2, h3, h4, h5, h6, h7, h8⟩ := inv_take inv (by have := inv.sp; omega) (zeros 232)
  have hspare : h.spare = F.length := inv.sp
  have hq : newM lim h S = ((n, 0), h', S'.set n (zeros 232)) := by
    unfold newM
    rw [if_neg (by omega), hg]
    exact if_neg (fun e => e rfl)
  refine (new_any k.at' ha (inv.fit (by omega)) k.sm (by omega)).mono ?_
  rintro e w' ⟨rfl, hA, hC⟩
  rw [hq] at hA ⊢
  have hm : Small (cnt + 3) (S'.set n (zeros 232)) := by
    have := k.sm
    unfold Small at *
    show S'.n + 1 ≤ _
    omega
  refine ⟨n, h', _, F', rfl, k.turned hA hC hm, h6, ?_, h3, h4, h5, h7, h2, set_same _ _ _, hC⟩
  rw [h8]
  split
  · rename_i h9
    have : ¬ lim ≤ h.pages := fun e => hroom ⟨h9, e⟩
    omega
  · omega
theorem ShL.full (k : ShL s d N cnt lim h arm S w0 w) (ha : arm < 1) (hc : cnt ≤ 20000) (inv : Inv h S U F) (hp4 : h.pages ≤ 4096) (hF : F.length = 0) (hp : lim ≤ h.pages) :
    Calls Tryz.prog 25 #[ptr s] w fun e w' => e = .returned (.tuple #[.int .i64 0, .int .i64 22]) ∧ ShL s d N cnt lim h arm S w0 w' ∧ Chg (Two s d) w w' := by
  have hspare : h.spare = F.length := inv.sp
  have hq : newM lim h S = ((0, 22), h, S) := if_pos ⟨by omega, hp⟩
  refine (new_any k.at' ha (inv.fit hp4) k.sm (by omega)).mono ?_
  rintro e w' ⟨rfl, hA, hC⟩
  rw [hq] at hA ⊢
  exact ⟨rfl, k.turned hA hC k.sm, hC⟩
theorem ShL.give (k : ShL s d N cnt lim h arm S w0 w) (ha : arm < 1) (hc : cnt ≤ 20000) (inv : Inv h S U F) (hp : h.pages ≤ 4096) {i : Nat} (hi : i < U.length) :
    Calls Tryz.prog 151 #[ptr s, .int .i64 U[i]] w fun e w' => ∃ (h' : Hd) (S' : St), e = .returned (.int .i64 0) ∧ ShL s d N (cnt + 3) lim h' arm S' w0 w' ∧ Inv h' S' (U.take i ++ U.drop (i + 1)) (U[i] :: F) ∧ h'.pages = h.pages ∧ (∀ x, x ∈ U.take i ++ U.drop (i + 1) → S'.f x = S.f x) ∧ Chg (Two s d) w w' := by
  have hr := inv.rg U[i] (List.mem_append_left F (List.getElem_mem hi))
  obtain ⟨x, hx⟩ := inv.dom.yes hr.1 hr.2
  obtain ⟨h', S', hg, h1, h2, h3, h4⟩ := inv_give inv hp hi
  have hq : freeM h S U[i] = (0, h', S') := by
    unfold freeM
    rw [if_neg (by rw [hx]; simp), hg]
    exact if_neg (fun e => e rfl)
  refine (free_any k.at' ha (inv.fit hp) k.sm (by omega) (wf_of (by omega) (by omega))).mono ?_
  rintro e w' ⟨rfl, hA, hC⟩
  rw [hq] at hA ⊢
  have hm : Small (cnt + 3) S' := by
    have := k.sm
    unfold Small at *
    omega
  exact ⟨h', S', rfl, k.turned hA hC hm, h3, h4, h2, hC⟩
theorem ShL.put (k : ShL s d N cnt lim h arm S w0 w) (ha : arm < 1) (hc : cnt ≤ 20000) (inv : Inv h S U F) (hp : h.pages ≤ 4096) {n : Int} (hn : n ∈ U) (x : Bs) (hx : x.length = 232) :
    Calls Tryz.prog 26 #[ptr s, .int .i64 n, .string (bs x)] w fun e w' => e = .returned (.int .i64 0) ∧ ShL s d N (cnt + 3) lim h arm (S.set n x) w0 w' ∧ Inv h (S.set n x) U F ∧ Chg (Two s d) w w' := by
  have hr := inv.rg n (List.mem_append_left F hn)
  obtain ⟨y, hy⟩ := inv.dom.yes hr.1 hr.2
  refine (put_ok k.at' ha k.sm (by omega) (wf_of (by omega) (by omega)) x).mono ?_
  rintro e w' ⟨rfl, hA, hC⟩
  rw [put_yes hy hx] at hA ⊢
  have hm : Small (cnt + 3) (S.set n x) := by
    have := k.sm
    unfold Small at *
    show S.n + 1 ≤ _
    omega
  exact ⟨rfl, k.turned hA hC hm, inv.put hn x, hC⟩
theorem ShL.get (k : ShL s d N cnt lim h arm S w0 w) (ha : arm < 1) {n : Int} (hn : Wf n) {x : Bs} (hx : S.f n = some x) :
    Calls Tryz.prog 20 #[ptr s, .int .i64 n] w fun e w' => e = .returned (.tuple #[.string (bs x), .int .i64 0]) ∧ Below w.heap.size w w' := by
  refine (get_ok k.at' ha hn).mono ?_
  rintro e w' ⟨rfl, hb⟩
  rw [get_yes hx]
  exact ⟨rfl, hb⟩
theorem ShL.new (lim : Int) (h1' : 1 ≤ lim) (h2' : lim ≤ 4096) {w0 w : World} (hb0 : Below w0.heap.size w0 w) :
    Calls Tryz.prog 14 #[.int .i64 lim] w fun e w' => ∃ s d, e = .returned (ptr s) ∧ ShL s d w0.heap.size 0 lim h1 0 S0 w0 w' := by
  refine (newS_any lim h1' h2' w).mono ?_
  rintro e w' ⟨s, d, rfl, hA, hb, hs, hd⟩
  have := hb0.size
  exact ⟨s, d, rfl, hA, by omega, by omega, hb0.trans (hb.mono hb0.size), small0⟩
end Sh
end Go.Proofs.YtkoglikaaehhjaaGreatDoor
