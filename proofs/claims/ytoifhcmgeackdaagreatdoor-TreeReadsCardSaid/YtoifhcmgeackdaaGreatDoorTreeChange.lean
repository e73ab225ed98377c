/-
  change where the root is a leaf, and stays one.
-/
import Derived.Test.YtoifhcmgeackdaaGreatDoorTreeBelow
namespace Go.Proofs.YtoifhcmgeackdaaGreatDoor
open Go.RowKit
namespace Tr
open Num (hid)
open Mem (Bs bs ptr Chg)
open Sp (Hd)
open Sh (ShL St Two Inv Wf)
open Ch (pV)
open No (N C NOw NAt Nb nV tN gObj Fit)
/-- What is known behind a closure: the shelf, a captured box (G), and X of what it answered. -/
def RP (s d N cnt : Nat) (lim : Int) (w0 : World) (G : World → Bool → Prop) (X : Bool → Int → No.N → Hd → Int → St → Prop) (q : Bool) (er : Int) (n' : No.N) (w : World) : Prop :=
  ∃ (h' : Hd) (arm' : Int) (S' : St), ShL s d N cnt lim h' arm' S' w0 w ∧ G w q ∧ X q er n' h' arm' S'
def ChangePost (s d N cnt hb : Nat) (lim : Int) (root : Int) (w0 : World) (G : World → Bool → Prop) (X : Bool → Int → No.N → Hd → Int → St → Prop) (w : World) (e : Ending) (w' : World) : Prop :=
  ∃ (q : Bool) (er : Int) (n' : No.N) (h' : Hd) (arm' : Int) (S' : St), X q er n' h' arm' S' ∧ G w' q ∧ Chg (fun g => Two s d g ∨ g = hb) w w' ∧
    ((¬ (er = 0 ∧ q = true) ∧ e = .returned (.int .i64 er) ∧ ShL s d N (cnt + 3) lim h' arm' S' w0 w') ∨
     (er = 0 ∧ q = true ∧ e = .returned (.int .i64 (saveM S' root n').1) ∧ ShL s d N (cnt + 3) lim h' arm' (saveM S' root n').2 w0 w'))
variable {s d N cnt cnt' : Nat} {lim : Int} {h : Hd} {arm : Int} {S : St} {w0 w : World} {hb : Nat} {G : World → Bool → Prop} {X : Bool → Int → No.N → Hd → Int → St → Prop}
set_option maxRecDepth 100000 in
set_option maxHeartbeats 8000000 in
theorem change_put (k : ShL s d N cnt lim h arm S w0 w) (ha : arm < 1) {root : Int} (hr : Wf root) (key : Bs) {n : No.N} (hl : loadM S.f root = (n, 0)) (hf : n.f = true) (x1 x2 x3 : Nat) (hhb : hb < w.heap.size) (hcn : cnt' ≤ 40000)
    (HD : ∀ (w1 : World) (b : Nat) (ks cs ps : Value), Below w.heap.size w w1 → w.heap.size + 1 ≤ w1.heap.size → Lf s d (w.heap.size + 1) b ks cs ps n w1 → Calls Tryz.prog 65 #[ptr b, ptr x1, ptr x2, ptr x3] w1 (DoPost (RP s d N cnt' lim w0 G X) s d (w.heap.size + 1) b hb ks cs ps w1))
    (HG : ∀ q w1 w2 (F : Nat → Prop), G w1 q → Chg F w1 w2 → (∀ g, F g → Two s d g ∨ w.heap.size ≤ g) → G w2 q)
    (HX : ∀ n' h' arm' S', X true 0 n' h' arm' S' → n'.f = true ∧ fitsM n' = true ∧ arm' < 1 ∧ Fit n') :
    Calls Tryz.prog 61 #[pV s, .int .i64 root, .string (bs key), .func (.func 65) #[] #[ptr x1, ptr x2, ptr x3]] w (ChangePost s d N cnt' hb lim root w0 G X w) := by
  have K := hid k
  have HSL := hid (And.intro k.at'.lt.1 (And.intro k.at'.lt.2 k.size))
  have HB := hid (below_put (hb := hb) (R := RP s d N cnt' lim w0 G X) k ha hr key hl hf x1 x2 x3 (Nat.ne_of_lt hhb) HD (fun q er n' w1 w2 r c => by
    obtain ⟨h', arm', S', k1, g1, x⟩ := r
    refine ⟨h', arm', S', k1.beside c (fun g e => ?_), HG q w1 w2 _ g1 c (fun g e => Or.inr (Nat.le_of_eq e.symm)), x⟩
    have h1 := k.at'.lt
    have h2 := k.size
    have e2 : g = w.heap.size := e
    omega))
  have HGG := hid HG
  have HXX := hid HX
  have HCN := hid hcn
  have HR := hid hr
  clear k ha hr hl hf hhb HD HG HX hcn
  go_enter Tryz.func61, Tryz.ntmps61
  go_wp2_with fail
  refine HB.out.mono ?_
  rintro e w1 ⟨q, er, n', ks, cs, ps, rfl, no, c1, ⟨h', arm', S', k1, g1, x⟩, hz⟩
  have B2 : Below w1.heap.size w1 (w1.alloc (gObj n' ks cs ps)) := (Below.refl _ _).alloc (Nat.le_refl _) _
  have K2 := hid (k1.kept B2)
  have N2 := hid (no.nat.on B2)
  have C2 := hid (c1.alloc (gObj n' ks cs ps))
  have G2 := hid (HGG.out q w1 _ (fun _ => False) g1 (Chg.of_below B2) (fun g e => e.elim))
  have XX := hid x
  have hbx := Nb.new n'.f ks cs ps w1
  have HBX := hid hbx
  have HZ := hid hz
  obtain ⟨a1, d1, a2, d2, a3, d3, rfl, rfl, rfl⟩ := No.nat_slices no.nat
  obtain ⟨b0, b1, b2, b3⟩ := hbx.cells
  dsimp only [nV]
  clear no c1 k1 g1 x hz B2 hbx HB
  by_cases he : er = 0
  · subst he
    cases q with
    | false =>
      go_wp2
      go_ret
      exact ⟨false, 0, n', h', arm', S', XX.out, G2.out, C2.out, Or.inl ⟨fun e => (by cases e.2), rfl, K2.out.more (by omega)⟩⟩
    | true =>
      obtain ⟨y1, y2, y3, y4⟩ := HXX.out _ _ _ _ XX.out
      obtain ⟨fl, fk, fc, fp⟩ := n'
      simp only at y1
      subst y1
      have HFT := hid (fits_any (Nat.le_trans y4.k (by decide)) (Or.inl y4.p) N2.out)
      rw [y2] at HFT
      have HY := hid (And.intro y3 y4)
      unfold nV at HFT
      simp only at HFT b0 b1 b2 b3
      clear y2 y3 y4
      go_wp2_with fail
      refine HFT.out.mono ?_
      rintro e w3 ⟨rfl, hb3⟩
      have K3 := hid (K2.out.kept hb3)
      have N3 := hid (N2.out.on hb3)
      have C3 := hid (C2.out.trans (Chg.of_below (F := fun g => Two s d g ∨ g = hb) hb3))
      have G3 := hid (HGG.out true _ w3 (fun _ => False) G2.out (Chg.of_below hb3) (fun g e => e.elim))
      have HSV := hid (save_any K3.out HY.out.1 HCN.out HR.out HY.out.2 N3.out)
      have hbx3 := HBX.out.on hb3
      clear b0 b1 b2 b3 hb3 HFT
      obtain ⟨b0, b1, b2, b3⟩ := hbx3.cells
      unfold nV at HSV
      simp only at HSV b0 b1 b2 b3
      clear hbx3
      go_wp2_with fail
      refine HSV.out.mono ?_
      rintro e w4 ⟨rfl, k4, c4⟩
      have K4 := hid k4
      have C4 := hid (C3.out.trans (c4.mono (fun g _ e => Or.inl e)))
      have G4 := hid (HGG.out true w3 w4 (Two s d) G3.out c4 (fun g e => Or.inl e))
      clear b0 b1 b2 b3 k4 c4
      go_wp2
      go_ret
      exact ⟨true, 0, _, h', arm', S', XX.out, G4.out, C4.out, Or.inr ⟨rfl, rfl, rfl, K4.out⟩⟩
  · have hne : (er == 0) = false := by simpa using he
    have hne2 : (er != 0) = true := by simpa using he
    go_wp2
    go_ret
    exact ⟨q, er, n', h', arm', S', XX.out, G2.out, C2.out, Or.inl ⟨fun e => he e.1, rfl, K2.out.more (by omega)⟩⟩
set_option maxRecDepth 100000 in
set_option maxHeartbeats 8000000 in
theorem change_del (k : ShL s d N cnt lim h arm S w0 w) (ha : arm < 1) {root : Int} (hr : Wf root) (key : Bs) {n : No.N} (hl : loadM S.f root = (n, 0)) (hf : n.f = true) (x1 x2 x3 : Nat) (hhb : hb < w.heap.size) (hcn : cnt' ≤ 40000)
    (HD : ∀ (w1 : World) (b : Nat) (ks cs ps : Value), Below w.heap.size w w1 → w.heap.size + 1 ≤ w1.heap.size → Lf s d (w.heap.size + 1) b ks cs ps n w1 → Calls Tryz.prog 62 #[ptr b, ptr x1, ptr x2, ptr x3] w1 (DoPost (RP s d N cnt' lim w0 G X) s d (w.heap.size + 1) b hb ks cs ps w1))
    (HG : ∀ q w1 w2 (F : Nat → Prop), G w1 q → Chg F w1 w2 → (∀ g, F g → Two s d g ∨ w.heap.size ≤ g) → G w2 q)
    (HX : ∀ n' h' arm' S', X true 0 n' h' arm' S' → n'.f = true ∧ fitsM n' = true ∧ arm' < 1 ∧ Fit n') :
    Calls Tryz.prog 61 #[pV s, .int .i64 root, .string (bs key), .func (.func 62) #[] #[ptr x1, ptr x2, ptr x3]] w (ChangePost s d N cnt' hb lim root w0 G X w) := by
  have K := hid k
  have HSL := hid (And.intro k.at'.lt.1 (And.intro k.at'.lt.2 k.size))
  have HB := hid (below_del (hb := hb) (R := RP s d N cnt' lim w0 G X) k ha hr key hl hf x1 x2 x3 (Nat.ne_of_lt hhb) HD (fun q er n' w1 w2 r c => by
    obtain ⟨h', arm', S', k1, g1, x⟩ := r
    refine ⟨h', arm', S', k1.beside c (fun g e => ?_), HG q w1 w2 _ g1 c (fun g e => Or.inr (Nat.le_of_eq e.symm)), x⟩
    have h1 := k.at'.lt
    have h2 := k.size
    have e2 : g = w.heap.size := e
    omega))
  have HGG := hid HG
  have HXX := hid HX
  have HCN := hid hcn
  have HR := hid hr
  clear k ha hr hl hf hhb HD HG HX hcn
  go_enter Tryz.func61, Tryz.ntmps61
  go_wp2_with fail
  refine HB.out.mono ?_
  rintro e w1 ⟨q, er, n', ks, cs, ps, rfl, no, c1, ⟨h', arm', S', k1, g1, x⟩, hz⟩
  have B2 : Below w1.heap.size w1 (w1.alloc (gObj n' ks cs ps)) := (Below.refl _ _).alloc (Nat.le_refl _) _
  have K2 := hid (k1.kept B2)
  have N2 := hid (no.nat.on B2)
  have C2 := hid (c1.alloc (gObj n' ks cs ps))
  have G2 := hid (HGG.out q w1 _ (fun _ => False) g1 (Chg.of_below B2) (fun g e => e.elim))
  have XX := hid x
  have hbx := Nb.new n'.f ks cs ps w1
  have HBX := hid hbx
  have HZ := hid hz
  obtain ⟨a1, d1, a2, d2, a3, d3, rfl, rfl, rfl⟩ := No.nat_slices no.nat
  obtain ⟨b0, b1, b2, b3⟩ := hbx.cells
  dsimp only [nV]
  clear no c1 k1 g1 x hz B2 hbx HB
  by_cases he : er = 0
  · subst he
    cases q with
    | false =>
      go_wp2
      go_ret
      exact ⟨false, 0, n', h', arm', S', XX.out, G2.out, C2.out, Or.inl ⟨fun e => (by cases e.2), rfl, K2.out.more (by omega)⟩⟩
    | true =>
      obtain ⟨y1, y2, y3, y4⟩ := HXX.out _ _ _ _ XX.out
      obtain ⟨fl, fk, fc, fp⟩ := n'
      simp only at y1
      subst y1
      have HFT := hid (fits_any (Nat.le_trans y4.k (by decide)) (Or.inl y4.p) N2.out)
      rw [y2] at HFT
      have HY := hid (And.intro y3 y4)
      unfold nV at HFT
      simp only at HFT b0 b1 b2 b3
      clear y2 y3 y4
      go_wp2_with fail
      refine HFT.out.mono ?_
      rintro e w3 ⟨rfl, hb3⟩
      have K3 := hid (K2.out.kept hb3)
      have N3 := hid (N2.out.on hb3)
      have C3 := hid (C2.out.trans (Chg.of_below (F := fun g => Two s d g ∨ g = hb) hb3))
      have G3 := hid (HGG.out true _ w3 (fun _ => False) G2.out (Chg.of_below hb3) (fun g e => e.elim))
      have HSV := hid (save_any K3.out HY.out.1 HCN.out HR.out HY.out.2 N3.out)
      have hbx3 := HBX.out.on hb3
      clear b0 b1 b2 b3 hb3 HFT
      obtain ⟨b0, b1, b2, b3⟩ := hbx3.cells
      unfold nV at HSV
      simp only at HSV b0 b1 b2 b3
      clear hbx3
      go_wp2_with fail
      refine HSV.out.mono ?_
      rintro e w4 ⟨rfl, k4, c4⟩
      have K4 := hid k4
      have C4 := hid (C3.out.trans (c4.mono (fun g _ e => Or.inl e)))
      have G4 := hid (HGG.out true w3 w4 (Two s d) G3.out c4 (fun g e => Or.inl e))
      clear b0 b1 b2 b3 k4 c4
      go_wp2
      go_ret
      exact ⟨true, 0, _, h', arm', S', XX.out, G4.out, C4.out, Or.inr ⟨rfl, rfl, rfl, K4.out⟩⟩
  · have hne : (er == 0) = false := by simpa using he
    have hne2 : (er != 0) = true := by simpa using he
    go_wp2
    go_ret
    exact ⟨q, er, n', h', arm', S', XX.out, G2.out, C2.out, Or.inl ⟨fun e => he e.1, rfl, K2.out.more (by omega)⟩⟩
end Tr
end Go.Proofs.YtoifhcmgeackdaaGreatDoor
