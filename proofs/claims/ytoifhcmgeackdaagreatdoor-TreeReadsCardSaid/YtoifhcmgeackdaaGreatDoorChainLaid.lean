/-
  The statements' own laid: the same pages on both shelves; and same.
-/
import Derived.Test.YtoifhcmgeackdaaGreatDoorGrpTrChD
import Derived.Test.YtoifhcmgeackdaaGreatDoorGrpTrChC
namespace Go.Proofs.YtoifhcmgeackdaaGreatDoor
open Go.RowKit
namespace Rf
open Sp (Hd hV Book getB putB zeros zeros_len)
open Num (hid)
open Mem (Bs bs tI tIs tS Chg ptr)
open Sh (ShL St Two Own Small newM h1 S0 Fit)
open Ch (Pf ints)
theorem pf_put {hr : Hd} {B : Book} {n : Int} {d : Bs} (hn : n = hr.pages) (h1 : 1 ≤ n) : ∀ k, pf (more1 hr) (putB B n d) k = if k = n then some d else pf hr B k := by
  intro k
  unfold pf
  show (if 1 ≤ k ∧ k < hr.pages + 1 then _ else _) = _
  by_cases e : k = n
  · subst e
    rw [if_pos rfl, if_pos ⟨h1, by omega⟩, Sp.get_same]
  · rw [if_neg e, Sp.get_other e]
    by_cases h2 : 1 ≤ k ∧ k < hr.pages
    · rw [if_pos h2, if_pos ⟨h2.1, by omega⟩]
    · rw [if_neg h2, if_neg (by omega)]
theorem pf_again {hr : Hd} {B : Book} {n : Int} {d : Bs} (hn : 1 ≤ n ∧ n < hr.pages) : ∀ k, pf hr (putB B n d) k = if k = n then some d else pf hr B k := by
  intro k
  unfold pf
  by_cases e : k = n
  · subst e
    rw [if_pos rfl, if_pos hn, Sp.get_same]
  · rw [if_neg e, Sp.get_other e]
/-- Both shelves, with the first i pages. -/
structure La (s d N Nu r b : Nat) (lim : Int) (w0 w : World) (i : Nat) (h : Hd) (S : St) (hr : Hd) (B : Book) : Prop where
  sh : ShL s d N (8 * i) lim h 0 S w0 w
  rf : RAt (fun k => Nu ≤ k) r b lim hr B w
  lo : s < Nu ∧ d < Nu ∧ N ≤ Nu
  eq : ∀ n, S.f n = pf hr B n
  hp : h.pages = 1 + i ∧ hr.pages = 1 + i ∧ h.spare = 0 ∧ hr.spare = 0 ∧ h.trunk = 0
  cn : B.length ≤ 2 * i
variable {s d N Nu r b : Nat} {lim : Int} {w0 w : World} {i : Nat} {h hr : Hd} {S : St} {B : Book}
theorem new_plain (hp : h.pages = 1 + (i : Int)) (hs : h.spare = 0) (hl : h.pages < lim) (hl2 : lim ≤ 4096) : newM lim h S = ((h.pages, 0), more1 h, S.set h.pages (zeros 232)) := by
  unfold Sh.newM Sh.takeM Sp.takeNew
  rw [if_neg (by omega), if_pos hs, if_neg (by omega)]
  exact if_neg (fun e => e rfl)
theorem La.fit (k : La s d N Nu r b lim w0 w i h S hr B) (hi : i ≤ 1000) : Fit h := by
  have := k.hp
  unfold Sh.Fit
  omega
/-- A page more on both. -/
def RNew (s d N Nu r b : Nat) (lim : Int) (w0 : World) (i : Nat) (h : Hd) (S : St) (hr : Hd) (B : Book) (w : World) : Prop :=
  ShL s d N (8 * i + 3) lim (more1 h) 0 (S.set h.pages (zeros 232)) w0 w ∧ RAt (fun k => Nu ≤ k) r b lim hr B w
theorem La.newP (k : La s d N Nu r b lim w0 w i h S hr B) (hi : i ≤ 900) (hl : (i : Int) + 1 < lim) (hl2 : lim ≤ 4096) :
    Calls Tryz.prog 12 #[ptr s] w fun e w' => e = .returned (.tuple #[.int .i64 h.pages, .int .i64 0]) ∧ RNew s d N Nu r b lim w0 i h S hr B w' := by
  have hp := k.hp
  refine (Sh.new_any k.sh.at' (by decide) (k.fit (by omega)) k.sh.sm (by omega)).mono ?_
  rintro e w' ⟨rfl, hA, hC⟩
  rw [new_plain hp.1 hp.2.2.1 (by omega) hl2] at hA ⊢
  have hm : Small (8 * i + 3) (S.set h.pages (zeros 232)) := by
    have := k.sh.sm
    unfold Sh.Small at *
    show S.n + 1 ≤ _
    omega
  exact ⟨rfl, k.sh.turned hA hC hm, k.rf.apart hC (fun j hj e => by have := k.lo; have e2 : Nu ≤ j := e; rcases hj with hj | hj <;> omega)⟩
theorem La.newR (k : La s d N Nu r b lim w0 w i h S hr B) {w1 : World} (q : RNew s d N Nu r b lim w0 i h S hr B w1) (hi : i ≤ 900) (hl : (i : Int) + 1 < lim) (hl2 : lim ≤ 4096) :
    Calls Tryz.prog 13 #[ptr r] w1 fun e w' => e = .returned (.tuple #[.int .i64 hr.pages, .int .i64 0]) ∧ ShL s d N (8 * i + 3) lim (more1 h) 0 (S.set h.pages (zeros 232)) w0 w' ∧ RAt (fun k => Nu ≤ k) r b lim (more1 hr) (putB B hr.pages (zeros 232)) w' := by
  have hp := k.hp
  refine (rnew_any q.2 (by have := k.cn; omega) hp.2.2.2.1 (by omega) (by omega) hl2).mono ?_
  rintro e w' ⟨rfl, hA, hC⟩
  exact ⟨rfl, q.1.beside hC (fun g hg => by have := k.lo; have h9 : Nu ≤ g := hg; exact ⟨by omega, by omega, by omega⟩), hA⟩
theorem La.putP (k : La s d N Nu r b lim w0 w i h S hr B) {w1 : World} (q : ShL s d N (8 * i + 3) lim (more1 h) 0 (S.set h.pages (zeros 232)) w0 w1) (q2 : RAt (fun k => Nu ≤ k) r b lim (more1 hr) (putB B hr.pages (zeros 232)) w1) (hi : i ≤ 900) (x : Bs) (hx : x.length = 232) :
    Calls Tryz.prog 14 #[ptr s, .int .i64 ((i : Int) + 1), .string (bs x)] w1 fun e w' => e = .returned (.int .i64 0) ∧ ShL s d N (8 * i + 6) lim (more1 h) 0 ((S.set h.pages (zeros 232)).set ((i : Int) + 1) x) w0 w' ∧ RAt (fun k => Nu ≤ k) r b lim (more1 hr) (putB B hr.pages (zeros 232)) w' := by
  have hp := k.hp
  have e1 : (i : Int) + 1 = h.pages := by omega
  refine (Sh.put_ok q.at' (by decide) q.sm (by omega) (Sh.wf_of (by omega) (by omega)) x).mono ?_
  rintro e w' ⟨rfl, hA, hC⟩
  have hf : (S.set h.pages (zeros 232)).f ((i : Int) + 1) = some (zeros 232) := by rw [e1]; exact Sh.set_same _ _ _
  rw [Sh.put_yes hf hx] at hA ⊢
  have hm : Small (8 * i + 6) ((S.set h.pages (zeros 232)).set ((i : Int) + 1) x) := by
    have := q.sm
    unfold Sh.Small at *
    show (S.set h.pages (zeros 232)).n + 1 ≤ _
    omega
  exact ⟨rfl, q.turned hA hC hm, q2.apart hC (fun j hj e => by have := k.lo; have e2 : Nu ≤ j := e; rcases hj with hj | hj <;> omega)⟩
theorem La.putR (k : La s d N Nu r b lim w0 w i h S hr B) {w1 : World} {x : Bs} (q : ShL s d N (8 * i + 6) lim (more1 h) 0 ((S.set h.pages (zeros 232)).set ((i : Int) + 1) x) w0 w1) (q2 : RAt (fun k => Nu ≤ k) r b lim (more1 hr) (putB B hr.pages (zeros 232)) w1) (hi : i ≤ 900) (hx : x.length = 232) :
    Calls Tryz.prog 16 #[ptr r, .int .i64 ((i : Int) + 1), .string (bs x)] w1 fun e w' => e = .returned (.int .i64 0) ∧ La s d N Nu r b lim w0 w' (i + 1) (more1 h) ((S.set h.pages (zeros 232)).set ((i : Int) + 1) x) (more1 hr) (putB (putB B hr.pages (zeros 232)) ((i : Int) + 1) x) := by
  have hp := k.hp
  have hc := k.cn
  have l1 := Sp.put_len hr.pages (zeros 232) B
  have l2 := Sp.put_len ((i : Int) + 1) x (putB B hr.pages (zeros 232))
  have e1 : (i : Int) + 1 = h.pages := by omega
  have e2 : (i : Int) + 1 = hr.pages := by omega
  have hm1 : (more1 hr).pages = hr.pages + 1 := rfl
  refine (rput_any q2 (by omega) ((i : Int) + 1) ⟨by omega, by omega⟩ x hx).mono ?_
  rintro e w' ⟨rfl, hA, hC⟩
  refine ⟨rfl, (q.beside hC (fun g hg => by have := k.lo; have h9 : Nu ≤ g := hg; exact ⟨by omega, by omega, by omega⟩)).more (by omega), hA, k.lo, fun n => ?_, ?_, by omega⟩
  · rw [pf_again (hr := more1 hr) ⟨by omega, by omega⟩ n, pf_put (d := zeros 232) rfl (by omega) n]
    by_cases e : n = (i : Int) + 1
    · rw [if_pos e, e]
      exact Sh.set_same _ _ _
    · rw [if_neg e, Sh.set_other e, if_neg (by omega), Sh.set_other (by omega), k.eq n]
  · refine ⟨?_, ?_, hp.2.2.1, hp.2.2.2.1, hp.2.2.2.2⟩
    · show h.pages + 1 = _
      omega
    · show hr.pages + 1 = _
      omega
end Rf
end Go.Proofs.YtoifhcmgeackdaaGreatDoor
