/-
  Nodes of a tree on a shelf of the call's own: load, save, fits, way.
-/
import Derived.Test.YtoifhcmgeackdaaGreatDoorGrpTrNoD
import Derived.Test.YtoifhcmgeackdaaGreatDoorGrpTrNoE
import Derived.Test.YtoifhcmgeackdaaGreatDoorGrpTrNoB
import Derived.Test.YtoifhcmgeackdaaGreatDoorGrpTrShC
import Derived.Test.YtoifhcmgeackdaaGreatDoorGrpTrChA
namespace Go.Proofs.YtoifhcmgeackdaaGreatDoor
open Go.RowKit
namespace Tr
open Num (hid)
open Mem (Bs bs ptr Chg)
open Sp (Hd)
open Sh (ShL St Two Wf Small)
open Ch (pV)
open No (N C NOw NAt Nb noN nV nilV decR encR sizeN okN findR fV tN noObj gObj put4)
/-- What load answers. -/
def loadM (f : Ch.Pf) (p : Int) : N × Int := match f p with
  | none => (noN, 21)
  | some x => if (decR x).e = 0 then ((decR x).n, 0) else (noN, 30)
theorem load_none {f : Ch.Pf} {p : Int} (h : f p = none) : loadM f p = (noN, 21) := by unfold loadM; rw [h]
theorem load_bad {f : Ch.Pf} {p : Int} {x : Bs} (h : f p = some x) (h2 : (decR x).e ≠ 0) : loadM f p = (noN, 30) := by unfold loadM; rw [h]; exact if_neg h2
theorem load_yes {f : Ch.Pf} {p : Int} {x : Bs} (h : f p = some x) (h2 : (decR x).e = 0) : loadM f p = ((decR x).n, 0) := by unfold loadM; rw [h]; exact if_pos h2
def LoadPost (w : World) (f : Ch.Pf) (p : Int) (e : Ending) (w' : World) : Prop :=
  (∃ ks cs ps, e = .returned (.tuple #[nV (loadM f p).1.f ks cs ps, .int .i64 (loadM f p).2]) ∧ NOw w' w.heap.size ks cs ps (loadM f p).1) ∧ Below w.heap.size w w'
theorem fill4 {w W : World} (hB : Below (w.heap.size + 1) (w.alloc noObj) W) {B : Nat} (hBr : w.heap.size < B) {n : N} {ks cs ps : Value} (no : NOw W B ks cs ps n) :
    NOw (put4 W w.heap.size n.f ks cs ps) w.heap.size ks cs ps n ∧ Nb w.heap.size n.f ks cs ps (put4 W w.heap.size n.f ks cs ps) ∧ Below w.heap.size w (put4 W w.heap.size n.f ks cs ps) := by
  have hn : Nb w.heap.size false nilV nilV nilV W := (hB.block _ (Nat.lt_succ_self _)).trans (Nb.new false nilV nilV nilV w)
  have hb : Below w.heap.size w W := ((Below.refl w.heap.size w).alloc (Nat.le_refl _) noObj).trans (hB.mono (Nat.le_succ _))
  exact ⟨(No.now_put no hBr _ _ _ _).lower (Nat.le_of_lt hBr), hn.put _ _ _ _, No.bput (No.bput (No.bput (No.bput hb (Nat.le_refl _) _ _) (Nat.le_refl _) _ _) (Nat.le_refl _) _ _) (Nat.le_refl _) _ _⟩
theorem fill0 {w W : World} (hB : Below (w.heap.size + 1) (w.alloc noObj) W) :
    NOw (put4 W w.heap.size false nilV nilV nilV) w.heap.size nilV nilV nilV noN ∧ Nb w.heap.size false nilV nilV nilV (put4 W w.heap.size false nilV nilV nilV) ∧ Below w.heap.size w (put4 W w.heap.size false nilV nilV nilV) := by
  have h := fill4 (n := noN) (ks := nilV) (cs := nilV) (ps := nilV) hB (Nat.lt_succ_self w.heap.size) (No.now_no W (w.heap.size + 1))
  have e : noN.f = false := rfl
  rw [e] at h
  exact h
variable {s d N cnt : Nat} {lim : Int} {h : Hd} {arm : Int} {S : St} {w0 w : World}
set_option maxRecDepth 100000 in
set_option maxHeartbeats 4000000 in
theorem load_any (k : ShL s d N cnt lim h arm S w0 w) (ha : arm < 1) {p : Int} (hp : Wf p) :
    Calls Tryz.prog 42 #[pV s, .int .i64 p] w (LoadPost w S.f p) := by
  have hA1 : Below w.heap.size w (w.alloc noObj) := (Below.refl w.heap.size w).alloc (Nat.le_refl _) _
  have k1 := k.kept hA1
  have HG := hid (Sh.get_ok k1.at' ha hp)
  have hsz : (w.alloc noObj).heap.size = w.heap.size + 1 := by simp
  have HSZ := hid hsz
  have hn0 := Nb.new false nilV nilV nilV w
  have HN0 := hid hn0
  clear k k1 hA1 hsz ha hp
  cases hf : S.f p with
  | none =>
    rw [Sh.get_no hf] at HG
    have HL := hid (load_none hf)
    have e0 : bs [] = ⟨#[]⟩ := rfl
    clear hf
    go_enter Tryz.func42, Tryz.ntmps42
    go_wp2_with fail
    refine HG.out.mono ?_
    rintro e w2 ⟨rfl, hb⟩
    have HB := hid (show Below (w.heap.size + 1) (w.alloc noObj) w2 by rw [← HSZ.out]; exact hb)
    have hn2 := hn0.on hb
    obtain ⟨r0, r1, r2, r3⟩ := hn2.cells
    obtain ⟨f0, f1, f2, f3⟩ := hn2.free
    have HF := hid (fill0 HB.out)
    have hls := hn2.lt
    unfold nilV at r1 r2 r3
    clear hb hn2 hn0
    go_wp2
    obtain ⟨g1, g4, g5⟩ := HF.out
    obtain ⟨u0, u1, u2, u3⟩ := g4.cells
    unfold nilV at u0 u1 u2 u3
    refine @bodyPost_ret Tryz.prog Tryz.f42 (LoadPost w S.f p) _ _ (.tuple #[nV false nilV nilV nilV, .int .i64 21]) ?_ ?_ ?_
    · simp [results, nV, nilV, go_sem, u0, u1, u2, u3]
    · rfl
    · unfold LoadPost
      rw [HL.out]
      exact ⟨⟨_, _, _, rfl, g1⟩, g5⟩
  | some x =>
    rw [Sh.get_yes hf] at HG
    have HD := hid (fun w => No.decode_own x w)
    have HL1 := hid (fun hde => load_yes hf hde)
    have HL2 := hid (fun hde => load_bad hf hde)
    have HNO := hid (fun hde => (No.decR_no (S := x) hde).1)
    clear hf
    generalize decR x = X at *
    go_enter Tryz.func42, Tryz.ntmps42
    go_wp2_with fail
    refine HG.out.mono ?_
    rintro e w2 ⟨rfl, hb⟩
    have HB := hid (show Below (w.heap.size + 1) (w.alloc noObj) w2 by rw [← HSZ.out]; exact hb)
    clear hb hn0
    go_wp2_with fail
    refine (HD.out _).mono ?_
    rintro e w3 ⟨⟨ks, cs, ps, rfl, ho⟩, hb3⟩
    have hs2 : w.heap.size < w2.heap.size := by have := HB.out.size; have := HSZ.out; omega
    have HS2 := hid hs2
    have hB3 : Below (w.heap.size + 1) (w.alloc noObj) w3 := HB.out.trans (hb3.mono hs2)
    have hg := Nb.new X.n.f ks cs ps w3
    have hB4 : Below (w.heap.size + 1) (w.alloc noObj) (w3.alloc (gObj X.n ks cs ps)) := hB3.alloc (by have := hB3.size; have := HSZ.out; omega) _
    have hn4 : Nb w.heap.size false nilV nilV nilV (w3.alloc (gObj X.n ks cs ps)) := (hB4.block _ (Nat.lt_succ_self _)).trans HN0.out
    have ho4 : NOw (w3.alloc (gObj X.n ks cs ps)) w2.heap.size ks cs ps X.n := ho.on ((Below.refl _ _).alloc (Nat.le_refl _) _)
    obtain ⟨a1, c1, a2, c2, a3, c3, rfl, rfl, rfl⟩ := No.nat_slices ho.nat
    have HF := hid (fill4 hB4 hs2 ho4)
    have HF0 := hid (fill0 hB4)
    obtain ⟨r0, r1, r2, r3⟩ := hn4.cells
    obtain ⟨f0, f1, f2, f3⟩ := hn4.free
    have hls := hn4.lt
    obtain ⟨b0, b1, b2, b3⟩ := hg.cells
    unfold nilV at r1 r2 r3
    clear hb3 ho hs2 hB3 hg hB4 hn4 ho4
    dsimp only [nV]
    by_cases hde : X.e = 0
    · have HL := hid (HL1.out hde)
      obtain ⟨n, er⟩ := X
      simp only at hde
      subst hde
      go_wp2
      obtain ⟨g1, g4, g5⟩ := HF.out
      obtain ⟨u0, u1, u2, u3⟩ := g4.cells
      refine @bodyPost_ret Tryz.prog Tryz.f42 (LoadPost w S.f p) _ _ (.tuple #[nV n.f (.slice a1 n.ks.length c1) (.slice a2 n.cs.length c2) (.slice a3 n.ps.length c3), .int .i64 0]) ?_ ?_ ?_
      · simp [results, nV, go_sem, u0, u1, u2, u3]
      · rfl
      · unfold LoadPost
        rw [HL.out]
        exact ⟨⟨_, _, _, rfl, g1⟩, g5⟩
    · have HL := hid (HL2.out hde)
      have hne : (X.e == 0) = false := by simpa using hde
      have hne2 : (X.e != 0) = true := by simpa using hde
      go_wp2
      obtain ⟨g1, g4, g5⟩ := HF0.out
      obtain ⟨u0, u1, u2, u3⟩ := g4.cells
      unfold nilV at u0 u1 u2 u3
      refine @bodyPost_ret Tryz.prog Tryz.f42 (LoadPost w S.f p) _ _ (.tuple #[nV false nilV nilV nilV, .int .i64 30]) ?_ ?_ ?_
      · simp [results, nV, nilV, go_sem, u0, u1, u2, u3]
      · rfl
      · unfold LoadPost
        rw [HL.out]
        exact ⟨⟨_, _, _, rfl, g1⟩, g5⟩
end Tr
end Go.Proofs.YtoifhcmgeackdaaGreatDoor
