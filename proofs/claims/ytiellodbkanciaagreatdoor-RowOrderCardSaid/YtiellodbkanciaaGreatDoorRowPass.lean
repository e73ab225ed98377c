/-
  Contracts of the reader's methods over texts: passes, word, shown.
-/
import Derived.Test.YtiellodbkanciaaGreatDoorRowVal
import Derived.Test.YtiellodbkanciaaGreatDoorValParse
namespace Go.Proofs.YtiellodbkanciaaGreatDoor
open Go.RowKit
namespace Ro
open Va
open Num (hid)
theorem cut_b (S p : Bs) (w : World) : Calls Tryz.prog 131 #[.string (bs S), .string (bs p)] w fun e w' => e = .returned (.tuple #[.string (bs (if p.isPrefixOf S then S.drop p.length else S)), .bool (p.isPrefixOf S)]) ∧ w = w' := cut_any (bs S) (bs p) w
set_option maxRecDepth 100000 in
set_option maxHeartbeats 1000000 in
theorem passes_no (b : Nat) (S p : Bs) (q : Int) (h0 : q ≠ 0 ∨ p.isPrefixOf S = false) (w : World) (h : Rd b S q w) :
    Calls Tryz.prog 83 #[ptr b, .string (bs p)] w fun e w' => e = .returned (.bool false) ∧ w = w' := by
  obtain ⟨c0, c1⟩ := h.cells
  have hl := h.lt
  have HC := hid (cut_b S p)
  clear h
  generalize (if p.isPrefixOf S then S.drop p.length else S) = X at *
  generalize bs X = Y at *
  generalize p.isPrefixOf S = f at *
  by_cases hq : q = 0
  · subst hq
    have hf : f = false := by rcases h0 with h | h; exact absurd rfl h; exact h
    subst hf
    clear h0
    go_enter Tryz.func83, Tryz.ntmps83
    go_wp2_with fail
    refine (HC.out _).mono ?_
    rintro e w' ⟨rfl, rfl⟩
    go_wp2
    go_ret
    exact ⟨rfl, rfl⟩
  · have hne : (q == 0) = false := by simpa using hq
    clear h0
    go_enter Tryz.func83, Tryz.ntmps83
    go_wp2_with fail
    refine (HC.out _).mono ?_
    rintro e w' ⟨rfl, rfl⟩
    go_wp2
    go_ret
    exact ⟨rfl, rfl⟩
set_option maxRecDepth 100000 in
set_option maxHeartbeats 1000000 in
theorem passes_yes (b : Nat) (S p : Bs) (hp : p.isPrefixOf S = true) (w : World) (h : Rd b S 0 w) :
    Calls Tryz.prog 83 #[ptr b, .string (bs p)] w fun e w' => e = .returned (.bool true) ∧ Rd b (S.drop p.length) 0 w' ∧ One b w w' := by
  obtain ⟨c0, c1⟩ := h.cells
  obtain ⟨f0, f1⟩ := h.free
  have hl := h.lt
  have HC := hid (cut_b S p)
  rw [hp, if_pos rfl] at HC
  have HR := hid (h.rest (S.drop p.length) _ rfl)
  have HO := hid ((One.refl b w).set 0 (.string (bs (S.drop p.length))))
  generalize hY : bs (S.drop p.length) = Y at *
  clear h hp
  go_enter Tryz.func83, Tryz.ntmps83
  go_wp2_with fail
  refine (HC.out _).mono ?_
  rintro e w' ⟨rfl, rfl⟩
  go_wp2
  go_ret
  exact ⟨rfl, HR.out, HO.out⟩
/-- What is left behind a word. -/
def wordT (S p : Bs) : Tk Unit := if p.isPrefixOf S then ⟨(), S.drop p.length, 0⟩ else ⟨(), S, 4⟩
set_option maxRecDepth 100000 in
set_option maxHeartbeats 1000000 in
theorem word_live (b : Nat) (S p : Bs) (w : World) (h : Rd b S 0 w) :
    Calls Tryz.prog 82 #[ptr b, .string (bs p)] w fun e w' => e = .returned (.tuple #[]) ∧ Rd b (wordT S p).s (wordT S p).e w' ∧ One b w w' := by
  unfold wordT
  cases hp : p.isPrefixOf S with
  | true =>
    rw [if_pos rfl]
    have HP := hid (passes_yes b S p hp w h)
    generalize bs p = P at *
    clear h hp
    go_enter Tryz.func82, Tryz.ntmps82
    go_wp2_with fail
    refine HP.out.mono ?_
    rintro e w' ⟨rfl, hr, ho⟩
    have HR := hid hr
    have HO := hid ho
    clear hr ho
    go_wp2
    go_end0
    exact ⟨rfl, HR.out, HO.out⟩
  | false =>
    rw [if_neg Bool.false_ne_true]
    have HP := hid (passes_no b S p 0 (Or.inr hp) w h)
    have HF := hid (fail_live b S 4 w h)
    generalize bs p = P at *
    clear h hp
    go_enter Tryz.func82, Tryz.ntmps82
    go_wp2_with fail
    refine HP.out.mono ?_
    rintro e w' ⟨rfl, rfl⟩
    go_wp2_with fail
    refine HF.out.mono ?_
    rintro e w' ⟨rfl, hr, ho⟩
    have HR := hid hr
    have HO := hid ho
    clear hr ho
    go_wp2
    go_end0
    exact ⟨rfl, HR.out, HO.out⟩
theorem set_size (w : World) (p : Addr) (u : Value) : (w.setCell p u).heap.size = w.heap.size := by simp [World.setCell]
theorem shown_new (b : Nat) (K N q : Int) (Y X : ByteArray) (w2 : World) : Bx w2.heap.size K N Y (((w2.setCell ⟨b, 0, none⟩ (.string X)).setCell ⟨b, 1, none⟩ (.int .i64 q)).alloc (.cells #[.int .i64 K, .int .i64 N, .string Y] tV)) := by
  have h := Bx.new K N Y ((w2.setCell ⟨b, 0, none⟩ (.string X)).setCell ⟨b, 1, none⟩ (.int .i64 q))
  rw [set_size, set_size] at h
  exact h
theorem shown_old {b g : Nat} (hne : b ≠ g) (K N q : Int) (Y X : ByteArray) {w2 : World} (h : Bx g 0 0 ⟨#[]⟩ w2) : Bx g 0 0 ⟨#[]⟩ (((w2.setCell ⟨b, 0, none⟩ (.string X)).setCell ⟨b, 1, none⟩ (.int .i64 q)).alloc (.cells #[.int .i64 K, .int .i64 N, .string Y] tV)) :=
  Va.Bx.on (Bx.other (Bx.other h hne 0 (.string X)) hne 1 (.int .i64 q)) ((Below.refl _ _).alloc (Nat.le_refl _) _)
theorem shown_end {b : Nat} {S S' : Bs} {K N q : Int} {Y X : ByteArray} {w w2 : World} (hX : X = bs S') (hr : Rd b S 0 w2) (hR : Bx w.heap.size 0 0 ⟨#[]⟩ w2) (ho : One b w w2) (hne : w.heap.size ≠ b) :
    Rd b S' q ((((((w2.setCell ⟨b, 0, none⟩ (.string X)).setCell ⟨b, 1, none⟩ (.int .i64 q)).setCell ⟨w.heap.size, 0, none⟩ (.int .i64 K)).setCell ⟨w.heap.size, 1, none⟩ (.int .i64 N)).setCell ⟨w.heap.size, 2, none⟩ (.string Y)).alloc (.cells #[.int .i64 K, .int .i64 N, .string Y] tV)) ∧
    One b w ((((((w2.setCell ⟨b, 0, none⟩ (.string X)).setCell ⟨b, 1, none⟩ (.int .i64 q)).setCell ⟨w.heap.size, 0, none⟩ (.int .i64 K)).setCell ⟨w.heap.size, 1, none⟩ (.int .i64 N)).setCell ⟨w.heap.size, 2, none⟩ (.string Y)).alloc (.cells #[.int .i64 K, .int .i64 N, .string Y] tV)) ∧
    Bx w.heap.size K N Y ((((((w2.setCell ⟨b, 0, none⟩ (.string X)).setCell ⟨b, 1, none⟩ (.int .i64 q)).setCell ⟨w.heap.size, 0, none⟩ (.int .i64 K)).setCell ⟨w.heap.size, 1, none⟩ (.int .i64 N)).setCell ⟨w.heap.size, 2, none⟩ (.string Y)).alloc (.cells #[.int .i64 K, .int .i64 N, .string Y] tV)) :=
  ⟨((((hr.rest S' X hX).err q).other hne 0 (.int .i64 K)).other hne 1 (.int .i64 N) |>.other hne 2 (.string Y)).alloc _,
    (((((ho.set 0 (.string X)).set 1 (.int .i64 q)).high (Nat.le_refl _) 0 (.int .i64 K)).high (Nat.le_refl _) 1 (.int .i64 N)).high (Nat.le_refl _) 2 (.string Y)).alloc _,
    Bx.done (Bx.other (Bx.other hR (Ne.symm hne) 0 (.string X)) (Ne.symm hne) 1 (.int .i64 q)) K N Y _⟩
set_option maxRecDepth 100000 in
set_option maxHeartbeats 2000000 in
theorem shown_live (b : Nat) (S : Bs) (hS : S.length ≤ maxLen) (w : World) (h : Rd b S 0 w) (g : Glob w) :
    Calls Tryz.prog 84 #[ptr b] w fun e w' => e = .returned (valR (parseL S).K (parseL S).N (bs (parseL S).S)) ∧ Rd b (S.drop (parseL S).n) (parseL S).e w' ∧ One b w w' := by
  have hbl := h.lt
  have R0 := hid (Bx.new 0 0 ⟨#[]⟩ w)
  have O0 := hid ((One.refl b w).alloc (.cells #[.int .i64 0, .int .i64 0, .string ⟨#[]⟩] tV))
  have HP : Hid (∀ w, Glob w → Calls Tryz.prog 132 #[.string (bs S)] w fun e w' => e = .returned (uV (parseL S)) ∧ Below w.heap.size w w') := hid (fun w g => Va.parse_any (bs S) (by rw [bs_size]; exact hS) w g)
  have hle : (parseL S).n ≤ S.length := by
    by_cases he : (parseL S).e = 0
    · exact (parse_back S he).2.1
    · rw [(parse_bare S he).2.2.2]; exact Nat.zero_le _
  generalize parseL S = u at *
  obtain ⟨K, N, T, n, q⟩ := u
  simp only at HP hle ⊢
  unfold uV at HP
  simp only at HP
  obtain ⟨Y, hY⟩ : ∃ Y, bs T = Y := ⟨_, rfl⟩
  rw [hY] at HP ⊢
  have hz := bs_size S
  have hn1 : n ≤ (bs S).size := by omega
  have hn2 : (n : Int) ≤ ((bs S).size : Int) := by omega
  have HX := hid (ex_drop S n)
  have HR1 := hid (h.alloc (.cells #[.int .i64 0, .int .i64 0, .string ⟨#[]⟩] tV))
  have HG := hid (g.on ((Below.refl _ _).alloc (Nat.le_refl _) (.cells #[.int .i64 0, .int .i64 0, .string ⟨#[]⟩] tV)))
  obtain ⟨a0, a1⟩ := HR1.out.cells
  clear h hY hle g hz
  go_enter Tryz.func84, Tryz.ntmps84
  go_wp2_with fail
  refine (HP.out _ HG.out).mono ?_
  rintro e w2 ⟨rfl, hb⟩
  clear a0 a1
  have hr2 := HR1.out.on hb
  have hl2 : w.heap.size < w2.heap.size := by have := hb.size; simp at this; omega
  have hb2 : b < w2.heap.size := by omega
  have HR2 := hid hr2
  have HRR := hid (Va.Bx.on R0.out hb)
  have HOO := hid (O0.out.trans (One.of_below (b := b) hb))
  obtain ⟨c0, c1⟩ := hr2.cells
  obtain ⟨f0, f1⟩ := hr2.free
  obtain ⟨r0, r1, r2⟩ := HRR.out.cells
  obtain ⟨g0, g1, g2⟩ := Bx.free HRR.out
  have ne1 : ¬ w.heap.size = b := by omega
  have ne2 : ¬ b = w.heap.size := by omega
  clear hb hr2
  go_wp2
  obtain ⟨e1, e2, e3⟩ := shown_end (S' := S.drop n) (K := K) (N := N) (q := q) (Y := Y) HX.out HR2.out HRR.out HOO.out (by omega)
  obtain ⟨u0, u1, u2⟩ := e3.cells
  exact bodyPost_ret (v := valR K N Y) (by simp [results, valR, go_sem, u0, u1, u2]) rfl ⟨rfl, e1, e2⟩
end Ro
end Go.Proofs.YtiellodbkanciaaGreatDoor
