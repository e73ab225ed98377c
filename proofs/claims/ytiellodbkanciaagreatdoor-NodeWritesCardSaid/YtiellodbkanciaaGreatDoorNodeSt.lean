/-
  A node that the reader's node() makes bit by bit: the reader, the box, the answer's box, the three lists.
-/
import Derived.Test.YtiellodbkanciaaGreatDoorNodeCell
import Derived.Deep.AppendLies
namespace Go.Proofs.YtiellodbkanciaaGreatDoor
open Go.RowKit
namespace No
open Num (hid unvL unfF)
theorem Nb.one {b g : Nat} {f : Bool} {ks cs ps : Value} {w w' : World} (h : Nb g f ks cs ps w) (ho : One b w w') (hne : g ≠ b) : Nb g f ks cs ps w' := (ho.block g (lt_of_block h) hne).trans h
theorem Nb.free {b : Nat} {f : Bool} {ks cs ps : Value} {w : World} (h : Nb b f ks cs ps w) : w.frozen? ⟨b, 0, none⟩ = false ∧ w.frozen? ⟨b, 1, none⟩ = false ∧ w.frozen? ⟨b, 2, none⟩ = false ∧ w.frozen? ⟨b, 3, none⟩ = false := by
  unfold Nb at h
  simp [World.frozen?, h]
theorem Nb.other {g : Nat} {f : Bool} {ks cs ps : Value} {w : World} (h : Nb g f ks cs ps w) {g' : Nat} (hg : g' ≠ g) (j : Nat) (u : Value) : Nb g f ks cs ps (w.setCell ⟨g', j, none⟩ u) := (Below.heap_setCell _ _ _ _ (show g ≠ g' from fun e => hg e.symm)).trans h
theorem Nb.put {g : Nat} {f : Bool} {ks cs ps : Value} {w : World} (h : Nb g f ks cs ps w) (f' : Bool) (ks' cs' ps' : Value) : Nb g f' ks' cs' ps' ((((w.setCell ⟨g, 0, none⟩ (.bool f')).setCell ⟨g, 1, none⟩ ks').setCell ⟨g, 2, none⟩ cs').setCell ⟨g, 3, none⟩ ps') := by
  unfold Nb at h ⊢
  simp [World.setCell, Array.getElem?_modify, h]
theorem Nb.setK {g : Nat} {f : Bool} {ks cs ps : Value} {w : World} (h : Nb g f ks cs ps w) (u : Value) : Nb g f u cs ps (w.setCell ⟨g, 1, none⟩ u) := by
  unfold Nb at h ⊢
  simp [World.setCell, Array.getElem?_modify, h]
theorem Nb.setC {g : Nat} {f : Bool} {ks cs ps : Value} {w : World} (h : Nb g f ks cs ps w) (u : Value) : Nb g f ks u ps (w.setCell ⟨g, 2, none⟩ u) := by
  unfold Nb at h ⊢
  simp [World.setCell, Array.getElem?_modify, h]
theorem Nb.setP {g : Nat} {f : Bool} {ks cs ps : Value} {w : World} (h : Nb g f ks cs ps w) (u : Value) : Nb g f ks cs u (w.setCell ⟨g, 3, none⟩ u) := by
  unfold Nb at h ⊢
  simp [World.setCell, Array.getElem?_modify, h]
theorem Nb.alloc {g : Nat} {f : Bool} {ks cs ps : Value} {w : World} (h : Nb g f ks cs ps w) (o : Obj) : Nb g f ks cs ps (w.alloc o) := h.on ((Below.refl _ _).alloc (Nat.le_refl _) o)
theorem Nb.grown {g : Nat} {f : Bool} {ks cs ps : Value} {w w' : World} {row : Option Nat} (h : Nb g f ks cs ps w) (hg : w.grownBy w' row) (hne : some g ≠ row) : Nb g f ks cs ps w' := (hg.block g (lt_of_block h) hne).trans h
theorem Rn.grown {b : Nat} {S : Bs} {e : Bool} {w w' : World} {row : Option Nat} (h : Rn b S e w) (hg : w.grownBy w' row) (hne : some b ≠ row) : Rn b S e w' := (hg.block b (lt_of_block h) hne).trans h
section
variable {α : Type} {t : TypeId} {k : Nat} {enc : α → List Value} {base b : Nat} {x : Value} {l : List α} {w w' : World}
theorem OwnL.one (h : OwnL t k enc w base x l) (ho : One b w w') (hb : b < base) : OwnL t k enc w' base x l := by
  obtain ⟨h1, h2⟩ := h
  refine ⟨h1, ?_⟩
  rcases h2 with h2 | ⟨g, cap, cur, e1, e2, e3, e4⟩
  · exact Or.inl h2
  · exact Or.inr ⟨g, cap, cur, e1, e2, (ho.block _ (lt_of_block e3) (by omega)).trans e3, e4⟩
theorem OwnL.grown {row : Option Nat} (h : OwnL t k enc w base x l) (hg : w.grownBy w' row) (hne : ∀ i, x.ownBlock = some i → row = some i → False) : OwnL t k enc w' base x l := by
  obtain ⟨h1, h2⟩ := h
  refine ⟨h1, ?_⟩
  rcases h2 with h2 | ⟨g, cap, cur, rfl, e2, e3, e4⟩
  · exact Or.inl h2
  · exact Or.inr ⟨g, cap, cur, rfl, e2, (hg.block _ (lt_of_block e3) (fun e => hne g rfl e.symm)).trans e3, e4⟩
theorem OwnL.set (h : OwnL t k enc w base x l) {g j : Nat} (hg : g < base) (u : Value) : OwnL t k enc (w.setCell ⟨g, j, none⟩ u) base x l := ownsRow_setCell_below h hg u
end
theorem One.grown {b : Nat} {w0 w w' : World} {row : Option Nat} (h : One b w0 w) (hg : w.grownBy w' row) (hr : ∀ i, row = some i → w0.heap.size ≤ i) : One b w0 w' :=
  ⟨hg.os.trans h.os, hg.tape.trans h.tape, hg.output.trans h.output, Nat.le_trans h.size hg.size, fun i hi hb => (hg.block i (Nat.lt_of_lt_of_le hi h.size) (fun e => absurd (hr i e.symm) (by omega))).trans (h.block i hi hb)⟩
theorem OwnL.form {α : Type} {t : TypeId} {k : Nat} {enc : α → List Value} {base : Nat} {x : Value} {l : List α} {w : World} (h : OwnL t k enc w base x l) : ∃ ao cap, x = .slice ao l.length cap := by
  rcases h.2 with ⟨rfl, h0⟩ | ⟨g, cap, cur, rfl, _⟩
  · exact ⟨none, 0, by rw [h0]⟩
  · exact ⟨_, cap, rfl⟩
theorem OwnL.snoc {α : Type} {t : TypeId} {k : Nat} {enc : α → List Value} {base : Nat} {v : Value} {l : List α} {x : α} {w : World} (h : w.ownsRow base t k v (l.length + 1) (l.flatMap enc ++ enc x)) : OwnL t k enc w base v (l ++ [x]) := by
  unfold OwnL
  rw [List.flatMap_append, List.length_append, List.flatMap_cons, List.flatMap_nil, List.append_nil]
  exact h
def nilV : Value := .slice none 0 0
/-- The node under way: b the reader, g its box, r the answer's box; w0: where the call began. -/
structure St (b g r base : Nat) (ks cs ps : Value) (T : Bs) (e : Bool) (n : N) (w0 w : World) : Prop where
  rd : Rn b T e w
  bx : Nb g n.f ks cs ps w
  rs : Nb r false nilV nilV nilV w
  k : OwnS w base ks n.ks
  c : OwnC w base cs n.cs
  p : OwnI w base ps n.ps
  kc : ∀ i, ks.ownBlock = some i → cs.ownBlock = some i → False
  kp : ∀ i, ks.ownBlock = some i → ps.ownBlock = some i → False
  cp : ∀ i, cs.ownBlock = some i → ps.ownBlock = some i → False
  bg : b ≠ g
  br : b ≠ r
  gr : g ≠ r
  bb : b < base
  gb : g < base
  rb : r < base
  hs : base ≤ w.heap.size
  hg : w0.heap.size ≤ g
  hr : w0.heap.size ≤ r
  h0 : w0.heap.size ≤ base
  one : One b w0 w
variable {b g r base : Nat} {ks cs ps : Value} {T : Bs} {e : Bool} {n : N} {w0 w w' : World}
theorem St.call (h : St b g r base ks cs ps T e n w0 w) (ho : One b w w') {T' : Bs} {e' : Bool} (hr : Rn b T' e' w') : St b g r base ks cs ps T' e' n w0 w' :=
  ⟨hr, h.bx.one ho (Ne.symm h.bg), h.rs.one ho (Ne.symm h.br), h.k.one ho h.bb, h.c.one ho h.bb, h.p.one ho h.bb, h.kc, h.kp, h.cp, h.bg, h.br, h.gr, h.bb, h.gb, h.rb, Nat.le_trans h.hs ho.size, h.hg, h.hr, h.h0, h.one.trans ho⟩
theorem St.on (h : St b g r base ks cs ps T e n w0 w) (hb : Below w.heap.size w w') : St b g r base ks cs ps T e n w0 w' := h.call (.of_below hb) (h.rd.on hb)
theorem St.alloc (h : St b g r base ks cs ps T e n w0 w) (o : Obj) : St b g r base ks cs ps T e n w0 (w.alloc o) := h.on ((Below.refl _ _).alloc (Nat.le_refl _) o)
theorem St.drew (h : St b g r base ks cs ps T e n w0 w) : St b g r base ks cs ps T e n w0 w.drew := h.on (Below.refl _ _).drew
theorem OwnL.fresh {α : Type} {t : TypeId} {k : Nat} {enc : α → List Value} {base : Nat} {x : Value} {l : List α} {w : World} (h : OwnL t k enc w base x l) : ∀ i, x.ownBlock = some i → base ≤ i ∧ i < w.heap.size := fun i hi => World.ownsRow.lt h i hi
/-- A row that was appended to, ahead of the store: the others stand. -/
theorem St.grown (h : St b g r base ks cs ps T e n w0 w) {row : Option Nat} (hg : w.grownBy w' row) (hr : ∀ i, row = some i → base ≤ i) : Rn b T e w' ∧ Nb g n.f ks cs ps w' ∧ Nb r false nilV nilV nilV w' ∧ One b w0 w' ∧ base ≤ w'.heap.size :=
  ⟨h.rd.grown hg (fun e => by have := hr b e.symm; have := h.bb; omega), h.bx.grown hg (fun e => by have := hr g e.symm; have := h.gb; omega), h.rs.grown hg (fun e => by have := hr r e.symm; have := h.rb; omega), h.one.grown hg (fun i hi => Nat.le_trans h.h0 (hr i hi)), Nat.le_trans h.hs hg.size⟩
theorem St.pushK (h : St b g r base ks cs ps T e n w0 w) {m cap g' : Nat} {x : Bs} (hown : OwnS w' base (.slice (some ⟨g', 0, none⟩) m cap) (n.ks ++ [x])) (hg : w.grownBy w' ks.ownBlock) (hat : ks.ownBlock = some g' ∨ g' = w.heap.size) :
    St b g r base (.slice (some ⟨g', 0, none⟩) m cap) cs ps T e ⟨n.f, n.ks ++ [x], n.cs, n.ps⟩ w0 (w'.setCell ⟨g, 1, none⟩ (.slice (some ⟨g', 0, none⟩) m cap)) := by
  obtain ⟨a1, a2, a3, a4, a5⟩ := h.grown hg (fun i hi => (h.k.fresh i hi).1)
  refine ⟨a1.other (Ne.symm h.bg) _ _, a2.setK _, a3.other h.gr _ _, hown.set h.gb _, (h.c.grown hg (fun i hi hk => h.kc i hk hi)).set h.gb _, (h.p.grown hg (fun i hi hk => h.kp i hk hi)).set h.gb _, ?_, ?_, h.cp, h.bg, h.br, h.gr, h.bb, h.gb, h.rb, by simpa [World.setCell] using a5, h.hg, h.hr, h.h0, a4.high h.hg _ _⟩
  · intro i hi hc
    have hi' : g' = i := by simpa [Value.ownBlock] using hi
    subst hi'
    rcases hat with hat | hat
    · exact h.kc _ hat hc
    · have := (h.c.fresh _ hc).2; omega
  · intro i hi hc
    have hi' : g' = i := by simpa [Value.ownBlock] using hi
    subst hi'
    rcases hat with hat | hat
    · exact h.kp _ hat hc
    · have := (h.p.fresh _ hc).2; omega
theorem St.pushC (h : St b g r base ks cs ps T e n w0 w) {m cap g' : Nat} {x : C} (hown : OwnC w' base (.slice (some ⟨g', 0, none⟩) m cap) (n.cs ++ [x])) (hg : w.grownBy w' cs.ownBlock) (hat : cs.ownBlock = some g' ∨ g' = w.heap.size) :
    St b g r base ks (.slice (some ⟨g', 0, none⟩) m cap) ps T e ⟨n.f, n.ks, n.cs ++ [x], n.ps⟩ w0 (w'.setCell ⟨g, 2, none⟩ (.slice (some ⟨g', 0, none⟩) m cap)) := by
  obtain ⟨a1, a2, a3, a4, a5⟩ := h.grown hg (fun i hi => (h.c.fresh i hi).1)
  refine ⟨a1.other (Ne.symm h.bg) _ _, a2.setC _, a3.other h.gr _ _, (h.k.grown hg (fun i hi hk => h.kc i hi hk)).set h.gb _, hown.set h.gb _, (h.p.grown hg (fun i hi hk => h.cp i hk hi)).set h.gb _, ?_, h.kp, ?_, h.bg, h.br, h.gr, h.bb, h.gb, h.rb, by simpa [World.setCell] using a5, h.hg, h.hr, h.h0, a4.high h.hg _ _⟩
  · intro i hc hi
    have hi' : g' = i := by simpa [Value.ownBlock] using hi
    subst hi'
    rcases hat with hat | hat
    · exact h.kc _ hc hat
    · have := (h.k.fresh _ hc).2; omega
  · intro i hi hc
    have hi' : g' = i := by simpa [Value.ownBlock] using hi
    subst hi'
    rcases hat with hat | hat
    · exact h.cp _ hat hc
    · have := (h.p.fresh _ hc).2; omega
theorem St.pushP (h : St b g r base ks cs ps T e n w0 w) {m cap g' : Nat} {x : Int} (hown : OwnI w' base (.slice (some ⟨g', 0, none⟩) m cap) (n.ps ++ [x])) (hg : w.grownBy w' ps.ownBlock) (hat : ps.ownBlock = some g' ∨ g' = w.heap.size) :
    St b g r base ks cs (.slice (some ⟨g', 0, none⟩) m cap) T e ⟨n.f, n.ks, n.cs, n.ps ++ [x]⟩ w0 (w'.setCell ⟨g, 3, none⟩ (.slice (some ⟨g', 0, none⟩) m cap)) := by
  obtain ⟨a1, a2, a3, a4, a5⟩ := h.grown hg (fun i hi => (h.p.fresh i hi).1)
  refine ⟨a1.other (Ne.symm h.bg) _ _, a2.setP _, a3.other h.gr _ _, (h.k.grown hg (fun i hi hk => h.kp i hi hk)).set h.gb _, (h.c.grown hg (fun i hi hk => h.cp i hi hk)).set h.gb _, hown.set h.gb _, h.kc, ?_, ?_, h.bg, h.br, h.gr, h.bb, h.gb, h.rb, by simpa [World.setCell] using a5, h.hg, h.hr, h.h0, a4.high h.hg _ _⟩
  · intro i hc hi
    have hi' : g' = i := by simpa [Value.ownBlock] using hi
    subst hi'
    rcases hat with hat | hat
    · exact h.kp _ hc hat
    · have := (h.k.fresh _ hc).2; omega
  · intro i hc hi
    have hi' : g' = i := by simpa [Value.ownBlock] using hi
    subst hi'
    rcases hat with hat | hat
    · exact h.cp _ hc hat
    · have := (h.c.fresh _ hc).2; omega
theorem St.nat (h : St b g r base ks cs ps T e n w0 w) (h1 : n.ks.length ≤ 1000000) (h2 : n.cs.length ≤ 1000000) (h3 : n.ps.length ≤ 1000000) : NAt w ks cs ps n :=
  ⟨h.k.row sV_len (by unfold maxLen; omega), h.c.row vals_len (by unfold maxLen; omega), h.p.row iV_len (by unfold maxLen; omega)⟩
/-- The answer: the box's cells put over the answer's box. -/
theorem St.fin (h : St b g r base ks cs ps T e n w0 w) (h1 : n.ks.length ≤ 1000000) (h2 : n.cs.length ≤ 1000000) (h3 : n.ps.length ≤ 1000000) {w' : World}
    (hw : w' = (((w.setCell ⟨r, 0, none⟩ (.bool n.f)).setCell ⟨r, 1, none⟩ ks).setCell ⟨r, 2, none⟩ cs).setCell ⟨r, 3, none⟩ ps) : NAt w' ks cs ps n ∧ Rn b T e w' ∧ One b w0 w' ∧ Nb r n.f ks cs ps w' := by
  subst hw
  refine ⟨⟨?_, ?_, ?_⟩, ?_, ?_, h.rs.put _ _ _ _⟩
  · exact OwnL.row sV_len ((((h.k.set h.rb _).set h.rb _).set h.rb _).set h.rb _) (by unfold maxLen; omega)
  · exact OwnL.row vals_len ((((h.c.set h.rb _).set h.rb _).set h.rb _).set h.rb _) (by unfold maxLen; omega)
  · exact OwnL.row iV_len ((((h.p.set h.rb _).set h.rb _).set h.rb _).set h.rb _) (by unfold maxLen; omega)
  · exact (((h.rd.other (Ne.symm h.br) _ _).other (Ne.symm h.br) _ _).other (Ne.symm h.br) _ _).other (Ne.symm h.br) _ _
  · exact (((h.one.high h.hr _ _).high h.hr _ _).high h.hr _ _).high h.hr _ _
end No
end Go.Proofs.YtiellodbkanciaaGreatDoor
