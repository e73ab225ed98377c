/-
  Put together: TreeLeaf, TreeTake.
-/
import Derived.Test.YtoifhcmgeackdaaGreatDoorTreeSmall
import Derived.Test.YtoifhcmgeackdaaGreatDoorGrpTrTa
import Derived.Test.YtoifhcmgeackdaaGreatDoorGrpTrTg
import Derived.Test.YtoifhcmgeackdaaGreatDoorGrpTrChC
/-
  A node in a box of the call's own, whose rows are the call's own too, beside a shelf.
-/
namespace Go.Proofs.YtoifhcmgeackdaaGreatDoor
open Go.RowKit
namespace Tr
open Num (hid)
open Mem (Bs bs ptr Chg)
open Sp (Hd)
open Sh (ShL St Two)
open No (N C NOw NAt Nb OwnL OwnS OwnI OwnC nV tN sV iV)
/-- Which blocks an edit of the node may turn. -/
def LfF (s d b : Nat) (ks cs ps : Value) : Nat → Prop := fun g => Two s d g ∨ g = b ∨ ks.ownBlock = some g ∨ cs.ownBlock = some g ∨ ps.ownBlock = some g
structure Lf (s d N b : Nat) (ks cs ps : Value) (n : No.N) (w : World) : Prop where
  bx : Nb b n.f ks cs ps w
  k : OwnS w 0 ks n.ks
  c : OwnC w 0 cs n.cs
  p : OwnI w 0 ps n.ps
  kc : ∀ i, ks.ownBlock = some i → cs.ownBlock = some i → False
  kp : ∀ i, ks.ownBlock = some i → ps.ownBlock = some i → False
  cp : ∀ i, cs.ownBlock = some i → ps.ownBlock = some i → False
  rk : ∀ g, ks.ownBlock = some g → N ≤ g ∧ g ≠ s ∧ g ≠ d ∧ g ≠ b
  rc : ∀ g, cs.ownBlock = some g → N ≤ g ∧ g ≠ s ∧ g ≠ d ∧ g ≠ b
  rp : ∀ g, ps.ownBlock = some g → N ≤ g ∧ g ≠ s ∧ g ≠ d ∧ g ≠ b
  bb : N ≤ b ∧ b ≠ s ∧ b ≠ d
  lk : n.ks.length ≤ 900000
  lc : n.cs.length ≤ 900000
  lp : n.ps.length ≤ 900000
variable {s d N b : Nat} {ks cs ps : Value} {n : No.N} {w w' : World}
theorem own_chg {α : Type} {t : TypeId} {k : Nat} {enc : α → List Value} {base : Nat} {x : Value} {l : List α} {F : Nat → Prop} (h : OwnL t k enc w base x l) (hc : Chg F w w') (hF : ∀ g, x.ownBlock = some g → ¬ F g) : OwnL t k enc w' base x l := Mem.row_kept h hc hF
theorem own_lt {α : Type} {t : TypeId} {k : Nat} {enc : α → List Value} {base : Nat} {x : Value} {l : List α} (h : OwnL t k enc w base x l) : ∀ g, x.ownBlock = some g → g < w.heap.size := fun g hg => (World.ownsRow.lt h g hg).2
/-- Something else has turned. -/
theorem Lf.apart {F : Nat → Prop} (L : Lf s d N b ks cs ps n w) (hc : Chg F w w') (hF : ∀ g, F g → g ≠ b ∧ ks.ownBlock ≠ some g ∧ cs.ownBlock ≠ some g ∧ ps.ownBlock ≠ some g) : Lf s d N b ks cs ps n w' :=
  ⟨hc.at L.bx (fun e => (hF b e).1 rfl), own_chg L.k hc (fun g hg e => (hF g e).2.1 hg), own_chg L.c hc (fun g hg e => (hF g e).2.2.1 hg), own_chg L.p hc (fun g hg e => (hF g e).2.2.2 hg), L.kc, L.kp, L.cp, L.rk, L.rc, L.rp, L.bb, L.lk, L.lc, L.lp⟩
theorem Lf.on (L : Lf s d N b ks cs ps n w) (hb : Below w.heap.size w w') : Lf s d N b ks cs ps n w' := L.apart (F := fun _ => False) (Chg.of_below hb) (fun _ h => h.elim)
theorem Lf.turned (L : Lf s d N b ks cs ps n w) (hc : Chg (Two s d) w w') : Lf s d N b ks cs ps n w' := L.apart hc (fun g e => by
  refine ⟨fun h => ?_, fun h => ?_, fun h => ?_, fun h => ?_⟩
  · subst h; rcases e with e | e; exact L.bb.2.1 e; exact L.bb.2.2 e
  · have := L.rk g h; rcases e with e | e; exact this.2.1 e; exact this.2.2.1 e
  · have := L.rc g h; rcases e with e | e; exact this.2.1 e; exact this.2.2.1 e
  · have := L.rp g h; rcases e with e | e; exact this.2.1 e; exact this.2.2.1 e)
/-- A node that was read just now, in a box. -/
theorem Lf.new {B N' : Nat} {h : Hd} {cnt : Nat} {lim arm : Int} {S : St} {w0 : World} (k : ShL s d N' cnt lim h arm S w0 w) (o : NOw w B ks cs ps n) (hNw : N ≤ w.heap.size) (hB : N ≤ B ∧ s < B ∧ d < B) (hl : n.ks.length ≤ 900000 ∧ n.cs.length ≤ 900000 ∧ n.ps.length ≤ 900000) :
    Lf s d N w.heap.size ks cs ps n (w.alloc (.cells #[.bool n.f, ks, cs, ps] tN)) := by
  have hb : Below w.heap.size w (w.alloc (.cells #[.bool n.f, ks, cs, ps] tN)) := (Below.refl _ _).alloc (Nat.le_refl _) _
  have o2 := o.on hb
  have r : ∀ (x : Value) (g : Nat), B ≤ g ∧ g < w.heap.size → N ≤ g ∧ g ≠ s ∧ g ≠ d ∧ g ≠ w.heap.size := fun x g hg => ⟨by omega, by omega, by omega, by omega⟩
  have hs := k.at'.lt
  have hz := hNw
  exact ⟨Nb.new _ _ _ _ _, o2.k.lower (Nat.zero_le _), o2.c.lower (Nat.zero_le _), o2.p.lower (Nat.zero_le _), o.kc, o.kp, o.cp, fun g hg => r ks g (World.ownsRow.lt o.k g hg), fun g hg => r cs g (World.ownsRow.lt o.c g hg), fun g hg => r ps g (World.ownsRow.lt o.p g hg), ⟨hz, by omega, by omega⟩, hl.1, hl.2.1, hl.2.2⟩
theorem Lf.nat (L : Lf s d N b ks cs ps n w) : NAt w ks cs ps n :=
  ⟨L.k.row No.sV_len (by have := L.lk; unfold maxLen; omega), L.c.row No.vals_len (by have := L.lc; unfold maxLen; omega), L.p.row No.iV_len (by have := L.lp; unfold maxLen; omega)⟩
/-- The row of keys became another one. -/
theorem Lf.setK (L : Lf s d N b ks cs ps n w) {v : Value} {l : List No.Bs} (ho : OwnS w' 0 v l) (hg : ∀ g, v.ownBlock = some g → ks.ownBlock = some g ∨ w.heap.size ≤ g) (hc : Chg (fun g => ks.ownBlock = some g) w w') (hl : l.length ≤ 900000) (hw : N ≤ w.heap.size ∧ s < w.heap.size ∧ d < w.heap.size) :
    Lf s d N b v cs ps ⟨n.f, l, n.cs, n.ps⟩ (w'.setCell ⟨b, 1, none⟩ v) := by
  have hlb := lt_of_block L.bx
  have hne : ∀ g, v.ownBlock = some g → N ≤ g ∧ g ≠ s ∧ g ≠ d ∧ g ≠ b := fun g h => by
    rcases hg g h with e | e
    · exact L.rk g e
    · exact ⟨by omega, by omega, by omega, by omega⟩
  have hset : Chg (· = b) w' (w'.setCell ⟨b, 1, none⟩ v) := (Chg.refl _ _).root 1 v
  have hb' : Nb b n.f ks cs ps w' := hc.at L.bx (fun e => (L.rk b e).2.2.2 rfl)
  refine ⟨hb'.setK v, own_chg ho hset (fun g h e => (hne g h).2.2.2 e), own_chg (own_chg L.c hc (fun g h e => L.kc g e h)) hset (fun g h e => (L.rc g h).2.2.2 e), own_chg (own_chg L.p hc (fun g h e => L.kp g e h)) hset (fun g h e => (L.rp g h).2.2.2 e), ?_, ?_, L.cp, hne, L.rc, L.rp, L.bb, hl, L.lc, L.lp⟩
  · intro i h1 h2
    rcases hg i h1 with e | e
    · exact L.kc i e h2
    · have := own_lt L.c i h2; omega
  · intro i h1 h2
    rcases hg i h1 with e | e
    · exact L.kp i e h2
    · have := own_lt L.p i h2; omega
/-- The row of cells became another one. -/
theorem Lf.setC (L : Lf s d N b ks cs ps n w) {v : Value} {l : List No.C} (ho : OwnC w' 0 v l) (hg : ∀ g, v.ownBlock = some g → cs.ownBlock = some g ∨ w.heap.size ≤ g) (hc : Chg (fun g => cs.ownBlock = some g) w w') (hl : l.length ≤ 900000) (hw : N ≤ w.heap.size ∧ s < w.heap.size ∧ d < w.heap.size) :
    Lf s d N b ks v ps ⟨n.f, n.ks, l, n.ps⟩ (w'.setCell ⟨b, 2, none⟩ v) := by
  have hlb := lt_of_block L.bx
  have hne : ∀ g, v.ownBlock = some g → N ≤ g ∧ g ≠ s ∧ g ≠ d ∧ g ≠ b := fun g h => by
    rcases hg g h with e | e
    · exact L.rc g e
    · exact ⟨by omega, by omega, by omega, by omega⟩
  have hset : Chg (· = b) w' (w'.setCell ⟨b, 2, none⟩ v) := (Chg.refl _ _).root 2 v
  have hb' : Nb b n.f ks cs ps w' := hc.at L.bx (fun e => (L.rc b e).2.2.2 rfl)
  refine ⟨hb'.setC v, own_chg (own_chg L.k hc (fun g h e => L.kc g h e)) hset (fun g h e => (L.rk g h).2.2.2 e), own_chg ho hset (fun g h e => (hne g h).2.2.2 e), own_chg (own_chg L.p hc (fun g h e => L.cp g e h)) hset (fun g h e => (L.rp g h).2.2.2 e), ?_, L.kp, ?_, L.rk, hne, L.rp, L.bb, L.lk, hl, L.lp⟩
  · intro i h1 h2
    rcases hg i h2 with e | e
    · exact L.kc i h1 e
    · have := own_lt L.k i h1; omega
  · intro i h1 h2
    rcases hg i h1 with e | e
    · exact L.cp i e h2
    · have := own_lt L.p i h2; omega
/-- What an edit of one row turns. -/
theorem chg_row {x v : Value} {j : Nat} (hc : Chg (fun g => x.ownBlock = some g) w w') (hx : x = ks ∨ x = cs ∨ x = ps) : Chg (LfF s d b ks cs ps) w (w'.setCell ⟨b, j, none⟩ v) :=
  (hc.mono (fun g _ e => by rcases hx with rfl | rfl | rfl; exact Or.inr (Or.inr (Or.inl e)); exact Or.inr (Or.inr (Or.inr (Or.inl e))); exact Or.inr (Or.inr (Or.inr (Or.inr e))))).setCell (Or.inr (Or.inr (Or.inl rfl))) v
/-- The shelf beside such an edit. -/
theorem shl_lf {cnt N' : Nat} {h : Hd} {lim arm : Int} {S : St} {w0 : World} (k : ShL s d N' cnt lim h arm S w0 w) (hN : N' ≤ N) (L : Lf s d N b ks cs ps n w) {x v : Value} {j : Nat} (hx : x = ks ∨ x = cs ∨ x = ps) (hc : Chg (fun g => x.ownBlock = some g) w w') : ShL s d N' cnt lim h arm S w0 (w'.setCell ⟨b, j, none⟩ v) := by
  refine k.beside (F := fun g => g = b ∨ x.ownBlock = some g) ((hc.mono (G := fun g => g = b ∨ x.ownBlock = some g) (fun g _ e => Or.inr e)).setCell (p := ⟨b, j, none⟩) (Or.inr (Or.inl rfl)) v) (fun g e => ?_)
  rcases e with e | e
  · rw [e]; exact ⟨Nat.le_trans hN L.bb.1, L.bb.2⟩
  · have : N ≤ g ∧ g ≠ s ∧ g ≠ d ∧ g ≠ b := by
      rcases hx with rfl | rfl | rfl
      · exact L.rk g e
      · exact L.rc g e
      · exact L.rp g e
    exact ⟨Nat.le_trans hN this.1, this.2.1, this.2.2.1⟩
end Tr
end Go.Proofs.YtoifhcmgeackdaaGreatDoor

/-
  takeOut: a key out of its leaf; its value's chain is free.
-/
namespace Go.Proofs.YtoifhcmgeackdaaGreatDoor
open Go.RowKit
namespace Tr
open Num (hid)
open Mem (Bs bs ptr Chg)
open Sp (Hd)
open Sh (ShL St Two Inv)
open Ch (pV CellOf Freed cV)
open No (N C NOw NAt Nb OwnL OwnS OwnI OwnC nV tN sV iV)
def delN (n : No.N) (i : Nat) : No.N := ⟨n.f, n.ks.take i ++ n.ks.drop (i + 1), n.cs.take i ++ n.cs.drop (i + 1), n.ps⟩
def TakePost (s d N M b cnt : Nat) (lim : Int) (h : Hd) (arm : Int) (S : St) (U F pg : List Int) (ks cs ps : Value) (n : No.N) (i : Nat) (w0 w : World) (e : Ending) (w' : World) : Prop :=
  ∃ (h' : Hd) (S' : St) (U' F' : List Int) (ks' cs' : Value), e = .returned (.int .i64 0) ∧ ShL s d N (cnt + 200) lim h' arm S' w0 w' ∧ Freed h S U F pg pg.length h' S' U' F' ∧ Lf s d M b ks' cs' ps (delN n i) w' ∧ Chg (LfF s d b ks cs ps) w w' ∧
    (∀ g, ks'.ownBlock = some g → ks.ownBlock = some g) ∧ (∀ g, cs'.ownBlock = some g → cs.ownBlock = some g)
variable {s d N M cnt b : Nat} {lim : Int} {h : Hd} {arm : Int} {S : St} {w0 w : World} {U F pg : List Int} {v : Bs} {ks cs ps : Value} {n : No.N}
set_option maxRecDepth 100000 in
set_option maxHeartbeats 8000000 in
theorem takeout_any (k : ShL s d N cnt lim h arm S w0 w) (hcn : cnt ≤ 10000) (ha : arm < 1) (inv : Inv h S U F) (hp : h.pages ≤ 4096) (L : Lf s d M b ks cs ps n w) (hM : N ≤ M ∧ M ≤ w.heap.size) {i : Nat} (hik : i < n.ks.length) (hi : i < n.cs.length) (hc : CellOf S.f n.cs[i] v pg) (hnd : pg.Nodup) (hsub : ∀ x ∈ pg, x ∈ U) :
    Calls Tryz.prog 64 #[pV s, ptr b, .int .i64 (i : Int)] w (TakePost s d N M b cnt lim h arm S U F pg ks cs ps n i w0 w) := by
  have HL := hid L
  have HM := hid hM
  have HF := hid (Ch.free_any k hcn ha inv hp hc hnd hsub)
  have HI := hid (And.intro hik (And.intro hi k.size))
  have HSD := hid (And.intro k.at'.lt.1 k.at'.lt.2)
  have hlk := L.lk
  have hlc := L.lc
  obtain ⟨aoc, capc, rfl, -, hccap, hcell⟩ := No.CAt.ways3 L.nat.c
  obtain ⟨g, o, rfl, hgl, x0, x1, x2⟩ := hcell i hi
  obtain ⟨aok, capk, rfl⟩ := own_form L.k
  obtain ⟨aop, capp, rfl⟩ := own_form L.p
  obtain ⟨b0, b1, b2, b3⟩ := L.bx.cells
  have hlb := L.bx.lt
  have hil : (i : Int) < (n.cs.length : Int) := by omega
  have hib : i < 900000 := by omega
  clear k hcn ha inv hp L hM hc hnd hsub hcell hik
  generalize hcc : n.cs[i] = c at *
  unfold cV at HF
  clear hcc
  go_enter Tryz.func64, Tryz.ntmps64
  go_wp2_with fail
  refine HF.out.mono ?_
  rintro e w1 ⟨h', S', U', F', rfl, k1, c1, fr⟩
  have L1 := hid (HL.out.turned c1)
  have K1 := hid k1
  have C1 := hid c1
  have FR := hid fr
  have HD1 := hid (delS_any L1.out.k HI.out.1)
  clear k1 c1 fr HF x0 x1 x2 b0 b1 b2 b3 hlb hgl
  obtain ⟨b0, b1, b2, b3⟩ := L1.out.bx.cells
  obtain ⟨f0, f1, f2, f3⟩ := L1.out.bx.free
  have hlb := L1.out.bx.lt
  go_wp2_with fail
  refine HD1.out.mono ?_
  rintro e w2 ⟨v2, rfl, ho, hg, hch⟩
  obtain ⟨ao2, cap2, rfl⟩ := own_form ho
  have hz1 : M ≤ w1.heap.size ∧ s < w1.heap.size ∧ d < w1.heap.size := ⟨Nat.le_trans HM.out.2 C1.out.size, K1.out.at'.lt.1, K1.out.at'.lt.2⟩
  have L2 := hid (L1.out.setK ho (fun g e => Or.inl (hg g e)) hch (by simp only [List.length_append, List.length_take, List.length_drop]; omega) hz1)
  have K2 := hid (shl_lf K1.out (v := .slice ao2 (n.ks.take i ++ n.ks.drop (i + 1)).length cap2) (j := 1) HM.out.1 L1.out (Or.inl rfl) hch)
  have C2 := hid (chg_row (s := s) (d := d) (b := b) (j := 1) (v := .slice ao2 (n.ks.take i ++ n.ks.drop (i + 1)).length cap2) (ks := .slice aok n.ks.length capk) (cs := .slice (some ⟨g, o, none⟩) n.cs.length capc) (ps := .slice aop n.ps.length capp) hch (Or.inl rfl))
  have G2 := hid hg
  have HD2 := hid (delC_any L2.out.c HI.out.2.1)
  have hbx : Nb b n.f (.slice aok n.ks.length capk) (.slice (some ⟨g, o, none⟩) n.cs.length capc) (.slice aop n.ps.length capp) w2 := hch.at L1.out.bx (fun e => (L1.out.rk b e).2.2.2 rfl)
  clear b0 b1 b2 b3 f0 f1 f2 f3 hlb ho hg hch hz1 HD1
  obtain ⟨b0, b1, b2, b3⟩ := hbx.cells
  obtain ⟨f0, f1, f2, f3⟩ := hbx.free
  have hlb := hbx.lt
  obtain ⟨d0, d1, d2, d3⟩ := L2.out.bx.cells
  obtain ⟨e0, e1, e2, e3⟩ := L2.out.bx.free
  have hlb2 := L2.out.bx.lt
  clear hbx
  generalize hln : (n.ks.take i ++ n.ks.drop (i + 1)) = kl at *
  go_upto_region 5 with fail
  generalize w2.setCell ⟨b, 1, none⟩ (.slice ao2 kl.length cap2) = w3 at *
  clear b0 b1 b2 b3 f0 f1 f2 f3 hlb
  go_wp2_with fail
  refine HD2.out.mono ?_
  rintro e w4 ⟨v4, rfl, ho, hg, hch⟩
  obtain ⟨ao4, cap4, rfl⟩ := own_form ho
  have hz1 : M ≤ w3.heap.size ∧ s < w3.heap.size ∧ d < w3.heap.size := ⟨Nat.le_trans (Nat.le_trans HM.out.2 C1.out.size) C2.out.size, K2.out.at'.lt.1, K2.out.at'.lt.2⟩
  have L4 := hid (L2.out.setC ho (fun g e => Or.inl (hg g e)) hch (by simp only [List.length_append, List.length_take, List.length_drop]; omega) hz1)
  have K4 := hid (shl_lf K2.out (v := .slice ao4 (n.cs.take i ++ n.cs.drop (i + 1)).length cap4) (j := 2) HM.out.1 L2.out (Or.inr (Or.inl rfl)) hch)
  have C4 := hid (chg_row (s := s) (d := d) (b := b) (j := 2) (v := .slice ao4 (n.cs.take i ++ n.cs.drop (i + 1)).length cap4) (ks := .slice aok n.ks.length capk) (cs := .slice (some ⟨g, o, none⟩) n.cs.length capc) (ps := .slice aop n.ps.length capp) hch (Or.inr (Or.inl rfl)))
  have G4 := hid hg
  have hbx : Nb b n.f (.slice ao2 kl.length cap2) (.slice (some ⟨g, o, none⟩) n.cs.length capc) (.slice aop n.ps.length capp) w4 := hch.at L2.out.bx (fun e => (L2.out.rc b e).2.2.2 rfl)
  clear d0 d1 d2 d3 e0 e1 e2 e3 hlb2 ho hg hch hz1 HD2
  obtain ⟨b0, b1, b2, b3⟩ := hbx.cells
  obtain ⟨f0, f1, f2, f3⟩ := hbx.free
  have hlb := hbx.lt
  clear hbx
  generalize hlm : (n.cs.take i ++ n.cs.drop (i + 1)) = cl at *
  go_wp2
  go_ret
  refine ⟨h', S', U', F', _, _, rfl, K4.out, FR.out, ?_, ((C1.out.mono (fun g _ e => Or.inl e)).trans C2.out).trans C4.out, G2.out, G4.out⟩
  unfold delN
  rw [hln, hlm]
  exact L4.out
end Tr
end Go.Proofs.YtoifhcmgeackdaaGreatDoor
