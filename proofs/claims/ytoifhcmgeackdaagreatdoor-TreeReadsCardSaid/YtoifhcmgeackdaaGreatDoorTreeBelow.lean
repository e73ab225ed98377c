/-
  below and change where the root is a leaf.
-/
import Derived.Test.YtoifhcmgeackdaaGreatDoorTreePutIn
import Derived.Test.YtoifhcmgeackdaaGreatDoorTreeGet
namespace Go.Proofs.YtoifhcmgeackdaaGreatDoor
open Go.RowKit
namespace Tr
open Num (hid)
open Mem (Bs bs ptr Chg)
open Sp (Hd)
open Sh (ShL St Two Inv Wf)
open Ch (pV)
open No (N C NOw NAt Nb OwnL OwnS OwnI OwnC nV tN noObj gObj put4 nilV)
theorem own_base {α : Type} {t : TypeId} {k : Nat} {enc : α → List Value} {M : Nat} {x : Value} {l : List α} {w : World} (h : OwnL t k enc w 0 x l) (hM : ∀ g, x.ownBlock = some g → M ≤ g) : OwnL t k enc w M x l := by
  obtain ⟨h1, h2⟩ := h
  refine ⟨h1, ?_⟩
  rcases h2 with h2 | ⟨g, cap, cur, rfl, e2, e3⟩
  · exact Or.inl h2
  · exact Or.inr ⟨g, cap, cur, rfl, hM g rfl, e3⟩
theorem Lf.now {s d M b : Nat} {ks cs ps : Value} {n : No.N} {w : World} (L : Lf s d M b ks cs ps n w) : NOw w M ks cs ps n :=
  ⟨own_base L.k (fun g hg => (L.rk g hg).1), own_base L.c (fun g hg => (L.rc g hg).1), own_base L.p (fun g hg => (L.rp g hg).1), L.kc, L.kp, L.cp, by have := L.lk; omega, by have := L.lc; omega, by have := L.lp; omega⟩
/-- What a closure that edits a leaf leaves; R: what else is known of it. -/
def DoPost (R : Bool → Int → No.N → World → Prop) (s d M b hb : Nat) (ks cs ps : Value) (w1 : World) (e : Ending) (w' : World) : Prop :=
  ∃ (q : Bool) (er : Int) (n' : No.N) (ks' cs' : Value), e = .returned (.tuple #[.bool q, .int .i64 er]) ∧ Lf s d M b ks' cs' ps n' w' ∧ Chg (fun g => LfF s d b ks cs ps g ∨ g = hb) w1 w' ∧ R q er n' w'
def BelPost (R : Bool → Int → No.N → World → Prop) (s d hb : Nat) (w : World) (e : Ending) (w' : World) : Prop :=
  ∃ (q : Bool) (er : Int) (n' : No.N) (ks' cs' ps' : Value), e = .returned (.tuple #[nV n'.f ks' cs' ps', .bool q, .int .i64 er]) ∧ NOw w' (w.heap.size + 1) ks' cs' ps' n' ∧ Chg (fun g => Two s d g ∨ g = hb) w w' ∧ R q er n' w' ∧ w.heap.size < w'.heap.size
variable {s d N cnt : Nat} {lim : Int} {h : Hd} {arm : Int} {S : St} {w0 w : World} {R : Bool → Int → No.N → World → Prop} {hb : Nat}
set_option maxRecDepth 100000 in
set_option maxHeartbeats 8000000 in
theorem below_put (k : ShL s d N cnt lim h arm S w0 w) (ha : arm < 1) {root : Int} (hr : Wf root) (key : Bs) {n : No.N} (hl : loadM S.f root = (n, 0)) (hf : n.f = true) (x1 x2 x3 : Nat) (hhb : hb ≠ w.heap.size)
    (HD : ∀ (w1 : World) (b : Nat) (ks cs ps : Value), Below w.heap.size w w1 → w.heap.size + 1 ≤ w1.heap.size → Lf s d (w.heap.size + 1) b ks cs ps n w1 → Calls Tryz.prog 65 #[ptr b, ptr x1, ptr x2, ptr x3] w1 (DoPost R s d (w.heap.size + 1) b hb ks cs ps w1))
    (HR : ∀ q er n' w1 w2, R q er n' w1 → Chg (· = w.heap.size) w1 w2 → R q er n' w2) :
    Calls Tryz.prog 98 #[pV s, .int .i64 root, .int .i64 20, .string (bs key), .func (.func 65) #[] #[ptr x1, ptr x2, ptr x3]] w (BelPost R s d hb w) := by
  obtain ⟨fl, fk, fc, fp⟩ := n
  simp only at hf
  subst hf
  have K := hid k
  have hA1 : Below w.heap.size w (w.alloc noObj) := (Below.refl w.heap.size w).alloc (Nat.le_refl _) _
  have HA1 := hid hA1
  have hsz : (w.alloc noObj).heap.size = w.heap.size + 1 := by simp
  have HSZ := hid hsz
  have HLD := hid (load_any (k.kept hA1) ha hr)
  have HN0 := hid (Nb.new false nilV nilV nilV w)
  have HDD := hid HD
  have HRR := hid HR
  have HHB := hid hhb
  have HSL := hid (And.intro k.at'.lt.1 k.at'.lt.2)
  have hrd := load_read (f := S.f) (p := root) (by rw [hl])
  rw [hl] at hrd
  have HFEW := hid hrd.1.few
  unfold LoadPost at HLD
  rw [hl] at HLD
  simp only at HLD
  clear k ha hr hl hA1 hsz HD HR hhb hrd
  go_enter Tryz.func98, Tryz.ntmps98
  go_wp2_with fail
  refine HLD.out.mono ?_
  rintro e w2 ⟨⟨ks, cs, ps, rfl, ho⟩, hb2⟩
  have B2 := hid (HA1.out.trans (hb2.mono (by rw [HSZ.out]; omega)))
  have hs2 : w.heap.size + 1 ≤ w2.heap.size := by have := hb2.size; rw [HSZ.out] at this; exact this
  have HS2 := hid hs2
  have L3 := hid (Lf.new (K.out.kept B2.out) (N := w.heap.size + 1) ho hs2 ⟨by rw [HSZ.out]; omega, by have := HSL.out.1; rw [HSZ.out]; omega, by have := HSL.out.2; rw [HSZ.out]; omega⟩ ⟨Nat.le_trans HFEW.out.1 (by decide), Nat.le_trans HFEW.out.2.1 (by decide), Nat.le_trans HFEW.out.2.2 (by decide)⟩)
  have R2 := hid (HN0.out.on hb2)
  obtain ⟨a1, c1, a2, c2, a3, c3, rfl, rfl, rfl⟩ := No.nat_slices ho.nat
  obtain ⟨b0, b1, b2, b3⟩ := L3.out.bx.cells
  dsimp only [nV]
  have HC := hid (HDD.out (w2.alloc (gObj ⟨true, fk, fc, fp⟩ (.slice a1 fk.length c1) (.slice a2 fc.length c2) (.slice a3 fp.length c3))) w2.heap.size _ _ _ (B2.out.alloc B2.out.size _) (by have := HS2.out; simp; omega) L3.out)
  clear ho hb2 hs2 HLD
  go_wp2_with fail
  refine HC.out.mono ?_
  rintro e w4 ⟨q, er, n', ks', cs', rfl, l4, c4, r4⟩
  obtain ⟨aok, capk, rfl⟩ := own_form l4.k
  obtain ⟨aoc, capc, rfl⟩ := own_form l4.c
  have hrr : Nb w.heap.size false nilV nilV nilV w4 := by
    have h1 := R2.out.alloc (gObj ⟨true, fk, fc, fp⟩ (.slice a1 fk.length c1) (.slice a2 fc.length c2) (.slice a3 fp.length c3))
    refine c4.at h1 (fun e => ?_)
    rcases e with ((e | e) | e | e | e | e) | e
    · have := HSL.out.1; omega
    · have := HSL.out.2; omega
    · have := HS2.out; omega
    · have := (L3.out.rk _ e).1; omega
    · have := (L3.out.rc _ e).1; omega
    · have := (L3.out.rp _ e).1; omega
    · exact HHB.out e.symm
  have hsz4 : w.heap.size < w4.heap.size := by have := c4.size; have := HS2.out; simp at *; omega
  have NO4 := hid (No.now_put l4.now (Nat.lt_succ_self w.heap.size) n'.f (.slice aok n'.ks.length capk) (.slice aoc n'.cs.length capc) (.slice a3 fp.length c3))
  have NB4 := hid (hrr.put n'.f (.slice aok n'.ks.length capk) (.slice aoc n'.cs.length capc) (.slice a3 fp.length c3))
  have C4 : Hid (Chg (fun g => Two s d g ∨ g = hb) w (put4 w4 w.heap.size n'.f (.slice aok n'.ks.length capk) (.slice aoc n'.cs.length capc) (.slice a3 fp.length c3))) := hid (by
    have h1 : Chg (fun g => Two s d g ∨ g = hb) w w4 := (Chg.of_below (F := fun g => Two s d g ∨ g = hb) (B2.out.alloc B2.out.size _)).then c4 (fun i hi e => by
      rcases e with ((e | e) | e | e | e | e) | e
      · exact Or.inr (Or.inl (Or.inl e))
      · exact Or.inr (Or.inl (Or.inr e))
      · have := HS2.out; exact Or.inl (by omega)
      · have := (L3.out.rk _ e).1; exact Or.inl (by omega)
      · have := (L3.out.rc _ e).1; exact Or.inl (by omega)
      · have := (L3.out.rp _ e).1; exact Or.inl (by omega)
      · exact Or.inr (Or.inr e))
    exact (((h1.setCell (Or.inl (Nat.le_refl _)) _).setCell (Or.inl (Nat.le_refl _)) _).setCell (Or.inl (Nat.le_refl _)) _).setCell (Or.inl (Nat.le_refl _)) _)
  have R4 : Hid (R q er n' (put4 w4 w.heap.size n'.f (.slice aok n'.ks.length capk) (.slice aoc n'.cs.length capc) (.slice a3 fp.length c3))) := hid (HRR.out _ _ _ _ _ r4 ((((Chg.refl _ _).root 0 _).root 1 _).root 2 _ |>.root 3 _))
  have Z4 : Hid (w.heap.size < (put4 w4 w.heap.size n'.f (.slice aok n'.ks.length capk) (.slice aoc n'.cs.length capc) (.slice a3 fp.length c3)).heap.size) := hid (by simpa [World.setCell] using hsz4)
  obtain ⟨r0, r1, r2, r3⟩ := hrr.cells
  obtain ⟨f0, f1, f2, f3⟩ := hrr.free
  have hls := hrr.lt
  unfold nilV at r1 r2 r3
  clear b0 b1 b2 b3
  obtain ⟨b0, b1, b2, b3⟩ := l4.bx.cells
  clear l4 c4 r4 hrr hsz4 HC
  go_wp2
  obtain ⟨u0, u1, u2, u3⟩ := NB4.out.cells
  refine @bodyPost_ret Tryz.prog Tryz.f98 (BelPost R s d hb w) _ _ (.tuple #[nV n'.f (.slice aok n'.ks.length capk) (.slice aoc n'.cs.length capc) (.slice a3 fp.length c3), .bool q, .int .i64 er]) ?_ ?_ ?_
  · simp [results, nV, go_sem, u0, u1, u2, u3]
  · rfl
  · exact ⟨q, er, n', _, _, _, rfl, NO4.out, C4.out, R4.out, Z4.out⟩
set_option maxRecDepth 100000 in
set_option maxHeartbeats 8000000 in
theorem below_del (k : ShL s d N cnt lim h arm S w0 w) (ha : arm < 1) {root : Int} (hr : Wf root) (key : Bs) {n : No.N} (hl : loadM S.f root = (n, 0)) (hf : n.f = true) (x1 x2 x3 : Nat) (hhb : hb ≠ w.heap.size)
    (HD : ∀ (w1 : World) (b : Nat) (ks cs ps : Value), Below w.heap.size w w1 → w.heap.size + 1 ≤ w1.heap.size → Lf s d (w.heap.size + 1) b ks cs ps n w1 → Calls Tryz.prog 62 #[ptr b, ptr x1, ptr x2, ptr x3] w1 (DoPost R s d (w.heap.size + 1) b hb ks cs ps w1))
    (HR : ∀ q er n' w1 w2, R q er n' w1 → Chg (· = w.heap.size) w1 w2 → R q er n' w2) :
    Calls Tryz.prog 98 #[pV s, .int .i64 root, .int .i64 20, .string (bs key), .func (.func 62) #[] #[ptr x1, ptr x2, ptr x3]] w (BelPost R s d hb w) := by
  obtain ⟨fl, fk, fc, fp⟩ := n
  simp only at hf
  subst hf
  have K := hid k
  have hA1 : Below w.heap.size w (w.alloc noObj) := (Below.refl w.heap.size w).alloc (Nat.le_refl _) _
  have HA1 := hid hA1
  have hsz : (w.alloc noObj).heap.size = w.heap.size + 1 := by simp
  have HSZ := hid hsz
  have HLD := hid (load_any (k.kept hA1) ha hr)
  have HN0 := hid (Nb.new false nilV nilV nilV w)
  have HDD := hid HD
  have HRR := hid HR
  have HHB := hid hhb
  have HSL := hid (And.intro k.at'.lt.1 k.at'.lt.2)
  have hrd := load_read (f := S.f) (p := root) (by rw [hl])
  rw [hl] at hrd
  have HFEW := hid hrd.1.few
  unfold LoadPost at HLD
  rw [hl] at HLD
  simp only at HLD
  clear k ha hr hl hA1 hsz HD HR hhb hrd
  go_enter Tryz.func98, Tryz.ntmps98
  go_wp2_with fail
  refine HLD.out.mono ?_
  rintro e w2 ⟨⟨ks, cs, ps, rfl, ho⟩, hb2⟩
  have B2 := hid (HA1.out.trans (hb2.mono (by rw [HSZ.out]; omega)))
  have hs2 : w.heap.size + 1 ≤ w2.heap.size := by have := hb2.size; rw [HSZ.out] at this; exact this
  have HS2 := hid hs2
  have L3 := hid (Lf.new (K.out.kept B2.out) (N := w.heap.size + 1) ho hs2 ⟨by rw [HSZ.out]; omega, by have := HSL.out.1; rw [HSZ.out]; omega, by have := HSL.out.2; rw [HSZ.out]; omega⟩ ⟨Nat.le_trans HFEW.out.1 (by decide), Nat.le_trans HFEW.out.2.1 (by decide), Nat.le_trans HFEW.out.2.2 (by decide)⟩)
  have R2 := hid (HN0.out.on hb2)
  obtain ⟨a1, c1, a2, c2, a3, c3, rfl, rfl, rfl⟩ := No.nat_slices ho.nat
  obtain ⟨b0, b1, b2, b3⟩ := L3.out.bx.cells
  dsimp only [nV]
  have HC := hid (HDD.out (w2.alloc (gObj ⟨true, fk, fc, fp⟩ (.slice a1 fk.length c1) (.slice a2 fc.length c2) (.slice a3 fp.length c3))) w2.heap.size _ _ _ (B2.out.alloc B2.out.size _) (by have := HS2.out; simp; omega) L3.out)
  clear ho hb2 hs2 HLD
  go_wp2_with fail
  refine HC.out.mono ?_
  rintro e w4 ⟨q, er, n', ks', cs', rfl, l4, c4, r4⟩
  obtain ⟨aok, capk, rfl⟩ := own_form l4.k
  obtain ⟨aoc, capc, rfl⟩ := own_form l4.c
  have hrr : Nb w.heap.size false nilV nilV nilV w4 := by
    have h1 := R2.out.alloc (gObj ⟨true, fk, fc, fp⟩ (.slice a1 fk.length c1) (.slice a2 fc.length c2) (.slice a3 fp.length c3))
    refine c4.at h1 (fun e => ?_)
    rcases e with ((e | e) | e | e | e | e) | e
    · have := HSL.out.1; omega
    · have := HSL.out.2; omega
    · have := HS2.out; omega
    · have := (L3.out.rk _ e).1; omega
    · have := (L3.out.rc _ e).1; omega
    · have := (L3.out.rp _ e).1; omega
    · exact HHB.out e.symm
  have hsz4 : w.heap.size < w4.heap.size := by have := c4.size; have := HS2.out; simp at *; omega
  have NO4 := hid (No.now_put l4.now (Nat.lt_succ_self w.heap.size) n'.f (.slice aok n'.ks.length capk) (.slice aoc n'.cs.length capc) (.slice a3 fp.length c3))
  have NB4 := hid (hrr.put n'.f (.slice aok n'.ks.length capk) (.slice aoc n'.cs.length capc) (.slice a3 fp.length c3))
  have C4 : Hid (Chg (fun g => Two s d g ∨ g = hb) w (put4 w4 w.heap.size n'.f (.slice aok n'.ks.length capk) (.slice aoc n'.cs.length capc) (.slice a3 fp.length c3))) := hid (by
    have h1 : Chg (fun g => Two s d g ∨ g = hb) w w4 := (Chg.of_below (F := fun g => Two s d g ∨ g = hb) (B2.out.alloc B2.out.size _)).then c4 (fun i hi e => by
      rcases e with ((e | e) | e | e | e | e) | e
      · exact Or.inr (Or.inl (Or.inl e))
      · exact Or.inr (Or.inl (Or.inr e))
      · have := HS2.out; exact Or.inl (by omega)
      · have := (L3.out.rk _ e).1; exact Or.inl (by omega)
      · have := (L3.out.rc _ e).1; exact Or.inl (by omega)
      · have := (L3.out.rp _ e).1; exact Or.inl (by omega)
      · exact Or.inr (Or.inr e))
    exact (((h1.setCell (Or.inl (Nat.le_refl _)) _).setCell (Or.inl (Nat.le_refl _)) _).setCell (Or.inl (Nat.le_refl _)) _).setCell (Or.inl (Nat.le_refl _)) _)
  have R4 : Hid (R q er n' (put4 w4 w.heap.size n'.f (.slice aok n'.ks.length capk) (.slice aoc n'.cs.length capc) (.slice a3 fp.length c3))) := hid (HRR.out _ _ _ _ _ r4 ((((Chg.refl _ _).root 0 _).root 1 _).root 2 _ |>.root 3 _))
  have Z4 : Hid (w.heap.size < (put4 w4 w.heap.size n'.f (.slice aok n'.ks.length capk) (.slice aoc n'.cs.length capc) (.slice a3 fp.length c3)).heap.size) := hid (by simpa [World.setCell] using hsz4)
  obtain ⟨r0, r1, r2, r3⟩ := hrr.cells
  obtain ⟨f0, f1, f2, f3⟩ := hrr.free
  have hls := hrr.lt
  unfold nilV at r1 r2 r3
  clear b0 b1 b2 b3
  obtain ⟨b0, b1, b2, b3⟩ := l4.bx.cells
  clear l4 c4 r4 hrr hsz4 HC
  go_wp2
  obtain ⟨u0, u1, u2, u3⟩ := NB4.out.cells
  refine @bodyPost_ret Tryz.prog Tryz.f98 (BelPost R s d hb w) _ _ (.tuple #[nV n'.f (.slice aok n'.ks.length capk) (.slice aoc n'.cs.length capc) (.slice a3 fp.length c3), .bool q, .int .i64 er]) ?_ ?_ ?_
  · simp [results, nV, go_sem, u0, u1, u2, u3]
  · rfl
  · exact ⟨q, er, n', _, _, _, rfl, NO4.out, C4.out, R4.out, Z4.out⟩
end Tr
end Go.Proofs.YtoifhcmgeackdaaGreatDoor
