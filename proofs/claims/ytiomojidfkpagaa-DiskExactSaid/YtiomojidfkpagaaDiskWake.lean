/-
  Contracts of the project's On: a file wakes.
-/
import Derived.Test.YtiomojidfkpagaaDiskMeet
import Derived.Test.YtiomojidfkpagaaDiskCut
namespace Go.Proofs.Ytiomojidfkpagaa
open Go.RowKit
namespace Disk
open Num (hid bcells)

/-- A loop over a file's places: the first k are done. -/
structure Going (F : Nat → Prop) (tag0 : Nat → Tag) (n : Nam) (f : Nat) (v : Value) (s : Bool) (Q : Pls) (k : Nat) (P1 : List Plc) (w0 w : World) (tag' : Nat → Tag) (Q1 : Pls) : Prop where
  len : Q1.length = k
  ps : Q1.map (·.2) = P1
  file : FileAt tag' w n f ⟨P1 ++ (Q.drop k).map (·.2), s⟩ v (Q1 ++ Q.drop k)
  tags : ∀ i, i < w0.heap.size → tag' i = tag0 i
  chg : Chg F w0 w

theorem Going.start {F : Nat → Prop} {tag : Nat → Tag} {n : Nam} {f : Nat} {v : Value} {G : Fil} {Q : Pls} {w : World} (h : FileAt tag w n f G v Q) : Going F tag n f v G.sure Q 0 [] w w tag [] :=
  ⟨rfl, rfl, by
    have e : (⟨[] ++ (Q.drop 0).map (·.2), G.sure⟩ : Fil) = G := by rw [List.drop_zero, List.nil_append, ← h.ps]
    rw [e, List.drop_zero, List.nil_append]; exact h, fun _ _ => rfl, Chg.refl _ _⟩
theorem Going.at {F : Nat → Prop} {tag0 : Nat → Tag} {n : Nam} {f : Nat} {v : Value} {s : Bool} {Q : Pls} {k : Nat} {P1 : List Plc} {w0 w : World} {tag' : Nat → Tag} {Q1 : Pls} (h : Going F tag0 n f v s Q k P1 w0 w tag' Q1) (hk : k < Q.length) :
    ∃ hk' : k < (Q1 ++ Q.drop k).length, (Q1 ++ Q.drop k)[k] = Q[k] ∧ (Q1 ++ Q.drop k).length = Q.length := by
  have hl := h.len
  have e : (Q1 ++ Q.drop k).length = Q.length := by rw [List.length_append, List.length_drop]; omega
  refine ⟨by omega, ?_, e⟩
  have : (Q1 ++ Q.drop k)[k]? = some Q[k] := by rw [List.getElem?_append_right (by omega), hl, Nat.sub_self, List.getElem?_drop, Nat.add_zero, List.getElem?_eq_getElem hk]
  rw [List.getElem?_eq_getElem (by omega)] at this
  exact Option.some.inj this
theorem Going.step {F : Nat → Prop} {tag0 tag' tag2 : Nat → Tag} {n : Nam} {f g cap : Nat} {s : Bool} {Q : Pls} {k : Nat} {P1 : List Plc} {w0 w w2 : World} {Q1 : Pls}
    (h : Going F tag0 n f (.slice (some ⟨g, 0, none⟩) Q.length cap) s Q k P1 w0 w tag' Q1) (hk : k < Q.length) (y : PQ × Plc)
    (hf : FileAt tag2 w2 n f ⟨(P1 ++ (Q.drop k).map (·.2)).set k y.2, s⟩ (.slice (some ⟨g, 0, none⟩) Q.length cap) ((Q1 ++ Q.drop k).set k y)) (ht : ∀ i, i < w.heap.size → tag2 i = tag' i) (hc : Chg F w0 w2) :
    Going F tag0 n f (.slice (some ⟨g, 0, none⟩) Q.length cap) s Q (k + 1) (P1 ++ [y.2]) w0 w2 tag2 (Q1 ++ [y]) := by
  have hl := h.len
  have hp : P1.length = k := by rw [← h.ps, List.length_map, hl]
  have e1 : (Q1 ++ Q.drop k).set k y = (Q1 ++ [y]) ++ Q.drop (k + 1) := by
    rw [List.set_append_right _ _ (by omega), hl, Nat.sub_self, List.drop_eq_getElem_cons hk, List.append_assoc]; rfl
  have e2 : (P1 ++ (Q.drop k).map (·.2)).set k y.2 = (P1 ++ [y.2]) ++ (Q.drop (k + 1)).map (·.2) := by
    rw [List.set_append_right _ _ (by omega), hp, Nat.sub_self, List.drop_eq_getElem_cons hk, List.map_cons, List.append_assoc]; rfl
  rw [e1, e2] at hf
  exact ⟨by rw [List.length_append, hl]; rfl, by rw [List.map_append, h.ps]; rfl, hf, fun i hi => (ht i (Nat.lt_of_lt_of_le hi h.chg.size)).trans (h.tags i hi), hc⟩

/-- A file behind the fate of one of its places. -/
theorem FileAt.met {tag : Nat → Tag} {w w' : World} {n : Nam} {f : Nat} {F : Fil} {g cap : Nat} {Q : Pls} (h : FileAt tag w n f F (.slice (some ⟨g, 0, none⟩) Q.length cap) Q) (i : Nat) (hi : i < Q.length) (fate : Int) (hm : Met g (i * 3) Q[i].1.now fate w w') :
    ∃ tag' y, y.2 = Q[i].2.meet fate ∧ FileAt tag' w' n f ⟨F.ps.set i y.2, F.sure⟩ (.slice (some ⟨g, 0, none⟩) Q.length cap) (Q.set i y) ∧ (∀ k, k < w.heap.size → tag' k = tag k) ∧ Chg (· = g) w w' := by
  have hp := h.pls Q[i] (List.getElem_mem hi)
  have hF : ∀ k, k = g → tag k ≠ .sec := by rintro k rfl e; rw [h.tagr k rfl] at e; cases e
  rcases hm with ⟨rfl, rfl⟩ | ⟨rfl, rfl⟩ | ⟨h1, h2, rfl⟩
  · have hc : Chg (· = g) w (w.setCell ⟨g, i * 3 + 1, none⟩ (ptr Q[i].1.now)) := (Chg.refl _ _).root _ _
    refine ⟨tag, (⟨Q[i].1.now, some Q[i].1.now, Q[i].1.waits⟩, Q[i].2.meet 1), rfl, h.put i _ ?_ hc (fun _ _ => rfl) ?_, fun _ _ => rfl, hc⟩
    · have r1 := (World.ownsRow.stored h.row (i * 3 + 1) (ptr Q[i].1.now)).1
      have e := Pls.cells_set1 Q i hi (some Q[i].1.now) (Q[i].2.meet 1)
      rw [Nat.mul_comm 3 i] at e
      rw [← e]
      exact r1
    · exact ⟨hp.now.kept hc (fun _ _ => rfl) hF, hp.now.kept hc (fun _ _ => rfl) hF, hp.waits⟩
  · have hc : Chg (· = g) w ((w.setCell ⟨g, i * 3 + 1, none⟩ (ptr w.heap.size)).alloc (.cells (secCells none) tSector)) := ((Chg.refl _ _).root _ _).alloc _
    have ht : ∀ k, k < w.heap.size → upd tag w.heap.size .sec k = tag k := fun k hk => upd_ne _ _ (by omega)
    refine ⟨upd tag w.heap.size .sec, (⟨Q[i].1.now, some w.heap.size, Q[i].1.waits⟩, Q[i].2.meet 2), rfl, h.put i _ ?_ hc ht ?_, ht, hc⟩
    · have r1 := (World.ownsRow.stored h.row (i * 3 + 1) (ptr w.heap.size)).1
      have e := Pls.cells_set1 Q i hi (some w.heap.size) (Q[i].2.meet 2)
      rw [Nat.mul_comm 3 i] at e
      rw [← e]
      exact World.ownsRow.alloc r1 _
    · refine ⟨hp.now.kept hc ht hF, ⟨upd_same _ _ _, zeros_len, ?_⟩, hp.waits⟩
      have := blk_new (w.setCell ⟨g, i * 3 + 1, none⟩ (ptr w.heap.size)) (.cells (secCells none) tSector)
      rw [set_size] at this
      exact this
  · refine ⟨tag, Q[i], ?_, ?_, fun _ _ => rfl, Chg.refl _ _⟩
    · unfold Plc.meet; rw [if_neg h1, if_neg h2]
    · have e1 : F.ps.set i Q[i].2 = F.ps := by
        have hi' : i < F.ps.length := by rw [h.ps, List.length_map]; exact hi
        have : Q[i].2 = F.ps[i] := by simp [h.ps]
        rw [this, List.set_getElem_self]
      rw [e1, List.set_getElem_self]
      exact h

/-- What a waking file may turn: the file, its row, the count of fates. -/
def WF0 (tag : Nat → Tag) (n : Nam) (B : Nat) : Nat → Prop := fun i => (tag i = .file n ∨ tag i = .row n) ∨ i = B
/-- The first loop of a waking file. -/
def W1 (tag : Nat → Tag) (n : Nam) (f : Nat) (v : Value) (F : Fil) (Q : Pls) (A B : Nat) (fv : Value) (l : List Int) (k : Nat) (w0 : World) (j : Nat) (w : World) : Prop :=
  ∃ tag' Q1, Going (WF0 tag n B) tag n f v F.sure Q j (mets l k (F.ps.take j)) w0 w tag' Q1 ∧ Fates w A B fv l (counts k (F.ps.take j))

/-- Who is no part of the disk. -/
structure Outer (tag : Nat → Tag) (A B : Nat) (fv : Value) : Prop where
  a : tag A = .other
  b : tag B = .other
  v : ∀ b o n cap, fv = .slice (some ⟨b, o, none⟩) n cap → n ≠ 0 → tag b = .other

theorem Fates.keptIn {tag : Nat → Tag} {w w' : World} {A B : Nat} {fv : Value} {l : List Int} {k : Nat} {F : Nat → Prop} (h : Fates w A B fv l k) (ho : Outer tag A B fv) (hc : Chg F w w') (hF : ∀ i, F i → tag i ≠ .other) : Fates w' A B fv l k :=
  h.kept hc (fun e => hF A e ho.a) (fun e => hF B e ho.b) (fun b o n cap hv hn e => hF b e (ho.v b o n cap hv hn))

theorem mets_take (l : List Int) (k : Nat) (ps : List Plc) (j : Nat) (h : j < ps.length) : mets l k (ps.take (j + 1)) = mets l k (ps.take j) ++ [met1 l (counts k (ps.take j)) ps[j]] := by
  rw [List.take_succ_eq_append_getElem h, mets_append]; rfl
theorem counts_take (k : Nat) (ps : List Plc) (j : Nat) (h : j < ps.length) : counts k (ps.take (j + 1)) = count1 (counts k (ps.take j)) ps[j] := by
  rw [List.take_succ_eq_append_getElem h, counts_append]; rfl
theorem counts_le : ∀ (l : List Plc) (k : Nat), counts k l ≤ k + l.length
  | [], k => Nat.le_refl _
  | p :: r, k => by
    have := counts_le r (count1 k p)
    have h1 : count1 k p ≤ k + 1 := by unfold count1; split <;> omega
    show counts (count1 k p) r ≤ _
    simp only [List.length_cons]; omega
theorem SafeAt.some_iff {tag : Nat → Tag} {w : World} {o : Option Nat} {s : Option Sec} (h : SafeAt tag w o s) : o.isSome = s.isSome := by
  cases o <;> cases s
  · rfl
  · exact h.elim
  · exact h.elim
  · rfl

section
variable {tag : Nat → Tag} {n : Nam} {f g cap : Nat} {F : Fil} {Q : Pls} {A B : Nat} {fv : Value} {l : List Int} {k j : Nat} {w0 wr w1 w2 : World} {tag' : Nat → Tag} {Q1 : Pls}

theorem W1.next {tag2 : Nat → Tag} (hps : F.ps = Q.map (·.2)) (hg : Going (WF0 tag n B) tag n f (.slice (some ⟨g, 0, none⟩) Q.length cap) F.sure Q j (mets l k (F.ps.take j)) w0 wr tag' Q1) (hlt : j < Q.length) (y : PQ × Plc)
    (hy : y.2 = met1 l (counts k (F.ps.take j)) Q[j].2)
    (hf : FileAt tag2 w2 n f ⟨(mets l k (F.ps.take j) ++ (Q.drop j).map (·.2)).set j y.2, F.sure⟩ (.slice (some ⟨g, 0, none⟩) Q.length cap) ((Q1 ++ Q.drop j).set j y)) (ht : ∀ i, i < wr.heap.size → tag2 i = tag' i)
    (hc : Chg (WF0 tag n B) w0 w2) (hfa : Fates w2 A B fv l (count1 (counts k (F.ps.take j)) Q[j].2)) : W1 tag n f (.slice (some ⟨g, 0, none⟩) Q.length cap) F Q A B fv l k w0 (j + 1) w2 := by
  have hl : j < F.ps.length := by rw [hps, List.length_map]; exact hlt
  have e : F.ps[j] = Q[j].2 := by simp [hps]
  refine ⟨tag2, Q1 ++ [y], ?_, ?_⟩
  · rw [mets_take l k F.ps j hl, e, ← hy]
    exact hg.step hlt y hf ht hc
  · rw [counts_take k F.ps j hl, e]
    exact hfa

theorem W1.idle (hps : F.ps = Q.map (·.2)) (hg : Going (WF0 tag n B) tag n f (.slice (some ⟨g, 0, none⟩) Q.length cap) F.sure Q j (mets l k (F.ps.take j)) w0 wr tag' Q1) (hlt : j < Q.length) (hw : Q[j].1.waits = false)
    (hfa : Fates wr A B fv l (counts k (F.ps.take j))) :
    W1 tag n f (.slice (some ⟨g, 0, none⟩) Q.length cap) F Q A B fv l k w0 (j + 1) wr ∧ Q[j].1.safe.isSome = (met1 l (counts k (F.ps.take j)) Q[j].2).safe.isSome := by
  obtain ⟨hj', hq, hql⟩ := hg.at hlt
  have hm := hg.file.pls (Q1 ++ Q.drop j)[j] (List.getElem_mem hj')
  rw [hq] at hm
  have hw2 : Q[j].2.waits = false := by rw [← hm.waits]; exact hw
  have hy : Q[j].2 = met1 l (counts k (F.ps.take j)) Q[j].2 := by unfold met1; rw [hw2]; rfl
  have hcn : count1 (counts k (F.ps.take j)) Q[j].2 = counts k (F.ps.take j) := by unfold count1; rw [hw2]; rfl
  refine ⟨W1.next hps hg hlt Q[j] hy ?_ (fun _ _ => rfl) hg.chg (by rw [hcn]; exact hfa), by rw [← hy]; exact hm.safe.some_iff⟩
  have e1 : (Q1 ++ Q.drop j).set j Q[j] = Q1 ++ Q.drop j := by rw [← hq, List.set_getElem_self]
  have e2 : (mets l k (F.ps.take j) ++ (Q.drop j).map (·.2)).set j Q[j].2 = mets l k (F.ps.take j) ++ (Q.drop j).map (·.2) := by
    have h3 := hg.file.ps
    simp only at h3
    rw [h3, ← List.map_set, e1]
  rw [e1, e2]
  exact hg.file

theorem W1.met (hps : F.ps = Q.map (·.2)) (hg : Going (WF0 tag n B) tag n f (.slice (some ⟨g, 0, none⟩) Q.length cap) F.sure Q j (mets l k (F.ps.take j)) w0 wr tag' Q1) (hlt : j < Q.length) (hw : Q[j].1.waits = true)
    (ho : Outer tag A B fv) (hB : B < w0.heap.size) (hfb : ∀ b o n cap, fv = .slice (some ⟨b, o, none⟩) n cap → n ≠ 0 → b < w0.heap.size) (hA : A < w0.heap.size) (hgr : tag' g = .row n)
    (hfa1 : Fates w1 A B fv l (counts k (F.ps.take j) + 1)) (hc1 : Chg (· = B) wr w1) (hm : Met g (j * 3) Q[j].1.now (fateAt l (counts k (F.ps.take j))) w1 w2) (hgw : g < w0.heap.size → tag g = .row n) :
    ∃ o : Option Nat, w2.cell? ⟨g, j * 3 + 1, none⟩ = some (ptrO o) ∧ W1 tag n f (.slice (some ⟨g, 0, none⟩) Q.length cap) F Q A B fv l k w0 (j + 1) w2 ∧ o.isSome = (met1 l (counts k (F.ps.take j)) Q[j].2).safe.isSome := by
  obtain ⟨hj', hq, hql⟩ := hg.at hlt
  have hsz := hg.chg.size
  have hm0 := hg.file.pls (Q1 ++ Q.drop j)[j] (List.getElem_mem hj')
  rw [hq] at hm0
  have hw2 : Q[j].2.waits = true := by rw [← hm0.waits]; exact hw
  have htB : tag' B = .other := (hg.tags B hB).trans ho.b
  have hf1 : FileAt tag' w1 n f ⟨mets l k (F.ps.take j) ++ (Q.drop j).map (·.2), F.sure⟩ (.slice (some ⟨g, 0, none⟩) (Q1 ++ Q.drop j).length cap) (Q1 ++ Q.drop j) := by
    rw [hql]
    exact hg.file.kept hc1 (fun _ _ => rfl) (by rintro i rfl; rw [htB]; exact ⟨by simp, by simp, by simp⟩)
  obtain ⟨tag2, y, hy, hf2, ht2, hc2⟩ := hf1.met j hj' (fateAt l (counts k (F.ps.take j))) (by rw [hq]; exact hm)
  rw [hq] at hy
  have hy2 : y.2 = met1 l (counts k (F.ps.take j)) Q[j].2 := by unfold met1; rw [hw2]; exact hy
  have hcn : count1 (counts k (F.ps.take j)) Q[j].2 = counts k (F.ps.take j) + 1 := by unfold count1; rw [hw2]; rfl
  have hl2 : ((Q1 ++ Q.drop j).set j y).length = Q.length := by rw [List.length_set, hql]
  rw [hql] at hf2
  have hget : ((Q1 ++ Q.drop j).set j y)[j]'(by rw [hl2]; exact hlt) = y := by rw [List.getElem_set_self]
  have hr2 := hf2.row
  rw [hl2] at hr2
  have hpc := place_cells (i := j) hr2 (by rw [hl2]; exact hlt) hl2.symm
  rw [hget] at hpc
  have hm2 := hf2.pls y (by have := List.getElem_mem (l := (Q1 ++ Q.drop j).set j y) (by rw [hl2]; exact hlt : j < _); rw [hget] at this; exact this)
  refine ⟨y.1.safe, hpc.2.1, ?_, by rw [← hy2]; exact hm2.safe.some_iff⟩
  refine W1.next hps hg hlt y hy2 hf2 (fun i hi => ht2 i (Nat.lt_of_lt_of_le hi hc1.size)) ?_ ?_
  · refine (hg.chg.then hc1 (fun i _ e => Or.inr (Or.inr e))).then hc2 ?_
    rintro i hi rfl
    by_cases hi0 : i < w0.heap.size
    · exact Or.inr (Or.inl (Or.inr (hgw hi0)))
    · exact Or.inl (by omega)
  · rw [hcn]
    refine hfa1.kept hc2 ?_ ?_ ?_
    · rintro rfl
      rw [hg.tags _ hA, ho.a] at hgr; cases hgr
    · rintro rfl
      rw [htB] at hgr; cases hgr
    · rintro b o m c hv hn rfl
      rw [hg.tags _ (hfb _ _ _ _ hv hn), ho.v _ _ _ _ hv hn] at hgr; cases hgr
end

theorem endOf_next (l : List Int) (k : Nat) (ps : List Plc) (j : Nat) (h : j < ps.length) :
    endOf (mets l k (ps.take (j + 1))) = if (met1 l (counts k (ps.take j)) ps[j]).safe.isSome then j + 1 else endOf (mets l k (ps.take j)) := by
  rw [mets_take l k ps j h, endOf_snoc, mets_len, List.length_take, Nat.min_eq_left (by omega)]

/-- The second loop: the places that are left rise. -/
def W2 (tag : Nat → Tag) (n : Nam) (f : Nat) (v : Value) (Q : Pls) (w0 : World) (j : Nat) (w : World) : Prop :=
  ∃ tag' Q1, Going (fun i => tag i = .file n ∨ tag i = .row n) tag n f v true Q j ((Q.take j).map fun x => x.2.rise) w0 w tag' Q1
theorem W2.start {tag : Nat → Tag} {n : Nam} {f : Nat} {v : Value} {ps : List Plc} {Q : Pls} {w : World} (h : FileAt tag w n f ⟨ps, true⟩ v Q) : W2 tag n f v Q w 0 w := ⟨tag, [], by rw [List.take_zero]; exact Going.start h⟩

section
variable {tag : Nat → Tag} {n : Nam} {f g cap : Nat} {Q : Pls} {j : Nat} {w0 wr w2 : World}

theorem W2.facts (h : W2 tag n f (.slice (some ⟨g, 0, none⟩) Q.length cap) Q w0 j wr) : wr.cell? ⟨f, 0, none⟩ = some (.slice (some ⟨g, 0, none⟩) Q.length cap) := by
  obtain ⟨tag', Q1, hg⟩ := h
  exact blk_cell hg.file.blk 0
theorem W2.cells (h : W2 tag n f (.slice (some ⟨g, 0, none⟩) Q.length cap) Q w0 j wr) (hlt : j < Q.length) :
    wr.cell? ⟨g, j * 3, none⟩ = some (ptr Q[j].1.now) ∧ wr.cell? ⟨g, j * 3 + 1, none⟩ = some (ptrO Q[j].1.safe) ∧ wr.cell? ⟨g, j * 3 + 2, none⟩ = some (.bool Q[j].1.waits) ∧
    wr.frozen? ⟨g, j * 3, none⟩ = false ∧ wr.frozen? ⟨g, j * 3 + 1, none⟩ = false ∧ wr.frozen? ⟨g, j * 3 + 2, none⟩ = false ∧ g < wr.heap.size := by
  obtain ⟨tag', Q1, hg⟩ := h
  obtain ⟨hj', hq, hql⟩ := hg.at hlt
  have hrow := hg.file.row
  rw [hql] at hrow
  have hp := place_cells (i := j) hrow hj' hql.symm
  rw [hq] at hp
  exact ⟨hp.1, hp.2.1, hp.2.2.1, hp.2.2.2.1, hp.2.2.2.2.1, hp.2.2.2.2.2, (hrow.lt g rfl).2⟩
/-- A place whose safe state is there. -/
theorem W2.stays (h : W2 tag n f (.slice (some ⟨g, 0, none⟩) Q.length cap) Q w0 j wr) (hlt : j < Q.length) (hgw : g < w0.heap.size → tag g = .row n) {b : Nat} (hb : Q[j].1.safe = some b)
    (hw : w2 = ((wr.setCell ⟨g, j * 3, none⟩ (ptr b)).setCell ⟨g, j * 3 + 1, none⟩ (ptr b)).setCell ⟨g, j * 3 + 2, none⟩ (.bool false)) : W2 tag n f (.slice (some ⟨g, 0, none⟩) Q.length cap) Q w0 (j + 1) w2 := by
  obtain ⟨tag', Q1, hg⟩ := h
  obtain ⟨hj', hq, hql⟩ := hg.at hlt
  have hm := hg.file.pls (Q1 ++ Q.drop j)[j] (List.getElem_mem hj')
  rw [hq] at hm
  have hsafe := hm.safe
  rw [hb] at hsafe
  cases hs : Q[j].2.safe with
  | none => rw [hs] at hsafe; exact hsafe.elim
  | some s =>
    rw [hs] at hsafe
    have hf1 := hg.file
    rw [← hql] at hf1
    obtain ⟨h3, h4⟩ := hf1.held j hj' b s hsafe hw
    rw [hql] at h3
    have hst := hg.step hlt (⟨b, some b, false⟩, ⟨s, some s, false⟩) h3 (fun _ _ => rfl) (hg.chg.then h4 (by
      rintro i hi rfl
      by_cases hi0 : i < w0.heap.size
      · exact Or.inr (Or.inr (hgw hi0))
      · exact Or.inl (by omega)))
    have e : (Q.take (j + 1)).map (fun x => x.2.rise) = (Q.take j).map (fun x => x.2.rise) ++ [⟨s, some s, false⟩] := by
      rw [List.take_succ_eq_append_getElem hlt, List.map_append]
      congr 1
      simp only [List.map_cons, List.map_nil, Plc.rise, hs, Option.getD_some]
    rw [← e] at hst
    exact ⟨_, _, hst⟩
/-- A place whose safe state is none. -/
theorem W2.fills (h : W2 tag n f (.slice (some ⟨g, 0, none⟩) Q.length cap) Q w0 j wr) (hlt : j < Q.length) (hgw : g < w0.heap.size → tag g = .row n) (hb : Q[j].1.safe = none) {w1 : World}
    (hw1 : w1 = (wr.setCell ⟨g, j * 3 + 1, none⟩ (ptr wr.heap.size)).alloc (.cells (secCells (some zeros)) tSector))
    (hw : w2 = ((w1.setCell ⟨g, j * 3, none⟩ (ptr wr.heap.size)).setCell ⟨g, j * 3 + 1, none⟩ (ptr wr.heap.size)).setCell ⟨g, j * 3 + 2, none⟩ (.bool false)) : W2 tag n f (.slice (some ⟨g, 0, none⟩) Q.length cap) Q w0 (j + 1) w2 := by
  obtain ⟨tag', Q1, hg⟩ := h
  obtain ⟨hj', hq, hql⟩ := hg.at hlt
  have hm := hg.file.pls (Q1 ++ Q.drop j)[j] (List.getElem_mem hj')
  rw [hq] at hm
  have hs : Q[j].2.safe = .none := by
    have := hm.safe.some_iff
    rw [hb] at this
    cases hs : Q[j].2.safe with
    | none => rfl
    | some s => rw [hs] at this; cases this
  have hf1 := hg.file
  rw [← hql] at hf1
  have hgr : tag' g = .row n := hf1.tagr g rfl
  have hF : ∀ k, k = g → tag' k ≠ .sec := by rintro k rfl e; rw [hgr] at e; cases e
  have ht : ∀ k, k < wr.heap.size → upd tag' wr.heap.size .sec k = tag' k := fun k hk => upd_ne _ _ (by omega)
  have hc : Chg (· = g) wr w1 := by rw [hw1]; exact ((Chg.refl _ _).root _ _).alloc _
  have hnew : w1.heap[wr.heap.size]? = .some (.cells (secCells (.some zeros)) tSector (0, 0)) := by
    have := blk_new (wr.setCell ⟨g, j * 3 + 1, .none⟩ (ptr wr.heap.size)) (.cells (secCells (.some zeros)) tSector)
    rw [set_size, ← hw1] at this
    exact this
  have hsec : SecAt (upd tag' wr.heap.size .sec) w1 wr.heap.size (.some zeros) := ⟨upd_same _ _ _, zeros_len, hnew⟩
  have h2 := hf1.put (tag' := upd tag' wr.heap.size .sec) (w' := w1) j (⟨Q[j].1.now, .some wr.heap.size, Q[j].1.waits⟩, ⟨Q[j].2.now, .some (.some zeros), Q[j].2.waits⟩) (by
    have r1 := (World.ownsRow.stored hf1.row (j * 3 + 1) (ptr wr.heap.size)).1
    have e := Pls.cells_set1 (Q1 ++ Q.drop j) j hj' (.some wr.heap.size) ⟨Q[j].2.now, .some (.some zeros), Q[j].2.waits⟩
    rw [Nat.mul_comm 3 j, hq] at e
    rw [← e, hw1]
    exact World.ownsRow.alloc r1 _) hc ht ⟨hm.now.kept hc ht hF, hsec, hm.waits⟩
  have hl2 : ((Q1 ++ Q.drop j).set j (⟨Q[j].1.now, .some wr.heap.size, Q[j].1.waits⟩, ⟨Q[j].2.now, .some (.some zeros), Q[j].2.waits⟩)).length = (Q1 ++ Q.drop j).length := List.length_set
  rw [← hl2] at h2
  obtain ⟨h3, h4⟩ := h2.held j (by rw [hl2]; exact hj') wr.heap.size (.some zeros) hsec hw
  rw [hl2, hql, List.set_set] at h3
  simp only [List.set_set] at h3
  have hst := hg.step hlt (⟨wr.heap.size, .some wr.heap.size, false⟩, ⟨.some zeros, .some (.some zeros), false⟩) h3 ht ((hg.chg.then hc (by
      rintro i hi rfl
      by_cases hi0 : i < w0.heap.size
      · exact Or.inr (Or.inr (hgw hi0))
      · exact Or.inl (by omega))).then h4 (by
      rintro i hi rfl
      by_cases hi0 : i < w0.heap.size
      · exact Or.inr (Or.inr (hgw hi0))
      · exact Or.inl (by omega)))
  have e : (Q.take (j + 1)).map (fun x => x.2.rise) = (Q.take j).map (fun x => x.2.rise) ++ [⟨.some zeros, .some (.some zeros), false⟩] := by
    rw [List.take_succ_eq_append_getElem hlt, List.map_append]
    congr 1
    simp only [List.map_cons, List.map_nil, Plc.rise, hs, Option.getD_none]
  rw [← e] at hst
  exact ⟨_, _, hst⟩
end

/-- What a file that woke is. -/
def Woken (tag : Nat → Tag) (n : Nam) (f : Nat) (F : Fil) (A B : Nat) (fv : Value) (l : List Int) (k : Nat) (w w' : World) : Prop :=
  Fates w' A B fv l (counts k F.ps) ∧ ∃ tag', (∀ i, i < w.heap.size → tag' i = tag i) ∧ Chg (WF0 tag n B) w w' ∧ (F.lives l k = true → ∃ v' Q', FileAt tag' w' n f (F.woken l k) v' Q')

theorem Fates.flt {w : World} {A B : Nat} {v : Value} {l : List Int} {k : Nat} (h : Fates w A B v l k) : ∀ b o n cap, v = .slice (some ⟨b, o, none⟩) n cap → n ≠ 0 → b < w.heap.size := by
  intro b o n cap hv hn
  rcases h.ints with ⟨ao, cap', h1, _⟩ | ⟨b', o', cap', h1, h2, _⟩
  · rw [h1] at hv; cases hv; exact absurd rfl hn
  · rw [h1] at hv; cases hv; exact h2
theorem Outer.ext {tag tag' : Nat → Tag} {w : World} {A B : Nat} {v : Value} {l : List Int} {k : Nat} (h : Outer tag A B v) (hf : Fates w A B v l k) (ht : ∀ i, i < w.heap.size → tag' i = tag i) : Outer tag' A B v := by
  obtain ⟨k', hb, _⟩ := hf.hb
  exact ⟨(ht A (lt_of_block hf.ha)).trans h.a, (ht B (lt_of_block hb)).trans h.b, fun b o n cap hv hn => (ht b (hf.flt b o n cap hv hn)).trans (h.v b o n cap hv hn)⟩

section
variable {tag : Nat → Tag} {n : Nam} {f : Nat} {F : Fil} {Q : Pls} {A B : Nat} {fv v : Value} {l : List Int} {k : Nat} {w0 wr w1 w2 : World}

/-- Behind the first loop. -/
theorem W1.out (hps : F.ps = Q.map (·.2)) (h : W1 tag n f v F Q A B fv l k w0 Q.length wr) :
    ∃ tag' Q1, FileAt tag' wr n f ⟨mets l k F.ps, F.sure⟩ v Q1 ∧ Q1.length = Q.length ∧ Fates wr A B fv l (counts k F.ps) ∧ (∀ i, i < w0.heap.size → tag' i = tag i) ∧ Chg (WF0 tag n B) w0 wr := by
  obtain ⟨tag', Q1, hg, hfa⟩ := h
  have e : F.ps.take Q.length = F.ps := List.take_of_length_le (by rw [hps, List.length_map]; exact Nat.le_refl _)
  rw [e] at hg hfa
  have hf := hg.file
  rw [List.drop_length, List.append_nil, List.map_nil, List.append_nil] at hf
  exact ⟨tag', Q1, hf, hg.len, hfa, hg.tags, hg.chg⟩
/-- Behind both loops. -/
theorem woken_end {tag1 tag2 : Nat → Tag} (hfa : Fates wr A B fv l (counts k F.ps)) (ht1 : ∀ i, i < w0.heap.size → tag1 i = tag i) (hc1 : Chg (WF0 tag n B) w0 wr)
    (ho : Outer tag A B fv) (hf0 : Fates w0 A B fv l k) {v2 : Value} {Q2 : Pls} (hf2 : FileAt tag2 w1 n f ((⟨mets l k F.ps, F.sure⟩ : Fil).cut (endOf (mets l k F.ps))) v2 Q2)
    (ht2 : ∀ i, i < wr.heap.size → tag2 i = tag1 i) (hc2 : Chg (fun i => tag1 i = .file n ∨ tag1 i = .row n) wr w1) (h : W2 tag2 n f v2 Q2 w1 Q2.length w2) : Woken tag n f F A B fv l k w0 w2 := by
  obtain ⟨tag3, Q3, hg⟩ := h
  have hF : ∀ (t : Nat → Tag) i, (t i = .file n ∨ t i = .row n) → t i ≠ .other := by rintro t i (e | e) e' <;> rw [e] at e' <;> cases e'
  have ho1 := ho.ext hf0 ht1
  have hfa1 := hfa.keptIn ho1 hc2 (hF tag1)
  have ho2 := ho1.ext hfa ht2
  have hfa2 := hfa1.keptIn ho2 hg.chg (hF tag2)
  have hs1 := hc1.size
  have hs2 := hc2.size
  refine ⟨hfa2, tag3, fun i hi => (hg.tags i (by omega)).trans ((ht2 i (by omega)).trans (ht1 i hi)), ?_, fun _ => ?_⟩
  · refine (hc1.then hc2 (fun i hi e => ?_)).then hg.chg (fun i hi e => ?_)
    · by_cases h0 : i < w0.heap.size
      · rw [ht1 i h0] at e; exact Or.inr (Or.inl e)
      · exact Or.inl (by omega)
    · by_cases h0 : i < w0.heap.size
      · rw [ht2 i (by omega), ht1 i h0] at e; exact Or.inr (Or.inl e)
      · exact Or.inl (by omega)
  · have hf := hg.file
    rw [List.drop_length, List.append_nil, List.map_nil, List.append_nil, List.take_length] at hf
    refine ⟨v2, Q3, ?_⟩
    have e : F.woken l k = ⟨Q2.map fun x => x.2.rise, true⟩ := by
      have h2 := hf2.ps
      simp only [Fil.cut] at h2
      unfold Fil.woken
      rw [h2, List.map_map]; rfl
    rw [e]
    exact hf
end

set_option maxRecDepth 100000 in
set_option maxHeartbeats 2000000 in
theorem wake_any (tag : Nat → Tag) (w : World) (n : Nam) (f : Nat) (F : Fil) (v : Value) (Q : Pls) (h : FileAt tag w n f F v Q) (A B : Nat) (fv : Value) (l : List Int) (k : Nat) (hf : Fates w A B fv l k) (hk : k + Q.length ≤ 1000000000)
    (hl : l.length ≤ maxLen) (ho : Outer tag A B fv) :
    Calls Try.prog 95 #[ptr f, .func (.func 94) #[] #[ptr A, ptr B]] w fun e w' => e = .returned (.bool (F.lives l k)) ∧ Woken tag n f F A B fv l k w w' := by
  have c0 : w.cell? ⟨f, 0, none⟩ = some v := blk_cell h.blk 0
  have c1 : w.cell? ⟨f, 1, none⟩ = some (.bool F.sure) := blk_cell h.blk 1
  have hlen := h.len
  rcases h.row.2 with ⟨hv, hn⟩ | ⟨g, cap, cur0, hv, _, _, hn0, hm0, -, -⟩
  · subst hv
    obtain rfl : Q = [] := List.eq_nil_of_length_eq_zero hn
    have hps : F.ps = [] := h.ps
    have hE : endOf (mets l k F.ps) = 0 := by rw [hps]; rfl
    have e1 : (⟨mets l k F.ps, F.sure⟩ : Fil) = F := by rw [hps]; show (⟨[], F.sure⟩ : Fil) = F; rw [← hps]
    have hf1 : FileAt tag w n f ⟨mets l k F.ps, F.sure⟩ (.slice none 0 0) [] := by rw [e1]; exact h
    have hfa1 : Fates w A B fv l (counts k F.ps) := by rw [hps]; exact hf
    have bE : ((endOf (mets l k F.ps) : Int) == 0) = true := by simp [hE]
    have HO := hid ho
    have HF := hid hf
    have HF2 := hid hf1
    have HFA := hid hfa1
    have HE := hid hE
    have HPS := hid hps
    clear h ho hf hn hf1 hfa1 hE e1 hps
    go_enter Try.func95, Try.ntmps95
    go_wp2
    go_loopw [5, 15] (fun e i wr => e = .int .i64 (endOf (mets l k F.ps) : Nat) ∧ i = .int .i64 0 ∧ wr = w) (fun _ _ _ => 0)
    case atStart => exact ⟨by rw [HE.out]; rfl, rfl, rfl⟩
    case round =>
      obtain ⟨rfl, rfl, rfl⟩ := hrel
      have hEle : endOf (mets l k F.ps) ≤ ([] : Pls).length := by rw [HE.out]; exact Nat.zero_le _
      cases hs : F.sure with
      | false =>
        have hlv : F.lives l k = false := by unfold Fil.lives; rw [hs, HE.out]; rfl
        rw [hs] at c1
        have HL := hid hlv
        have HR : Hid (Woken tag n f F A B fv l k wr wr) := hid ⟨HFA.out, tag, fun _ _ => rfl, Chg.refl _ _, fun e => by rw [hlv] at e; cases e⟩
        clear hlv hs
        go_wp2
        go_ret
        exact ⟨ret_b HL.out.symm, HR.out⟩
      | true =>
        rw [hs] at c1
        have hf1 := HF2.out
        have hfa1 := HFA.out
        have ht1 : ∀ i, i < wr.heap.size → tag i = tag i := fun _ _ => rfl
        have hc1 : Chg (WF0 tag n B) wr wr := Chg.refl _ _
        have hE := HE.out
        have hlv : F.lives l k = true := by unfold Fil.lives; rw [hs]; rfl
        have HL := hid hlv
        have HF1 := hid hf1
        have HEND := hid (fun (tag2 : Nat → Tag) (v2 : Value) (Q2 : Pls) (wa wb : World) (a : FileAt tag2 wa n f ((⟨mets l k F.ps, F.sure⟩ : Fil).cut (endOf (mets l k F.ps))) v2 Q2) (b : ∀ i, i < wr.heap.size → tag2 i = tag i) (c : Chg (fun i => tag i = .file n ∨ tag i = .row n) wr wa) (h : W2 tag2 n f v2 Q2 wa Q2.length wb) => woken_end (w2 := wb) hfa1 ht1 hc1 HO.out HF.out a b c h)
        clear hf1 hfa1 ht1 hc1 hlv hs hE
        go_wp2_with fail
        refine (fcut_any tag _ n f _ _ [] HF1.out (endOf (mets l k F.ps)) hEle).mono ?_
        rintro e w1 ⟨rfl, tag2, v2, Q2, hf2, ht2, hc2⟩
        have HEND2 := hid (fun (wb : World) (h : W2 tag2 n f v2 Q2 w1 Q2.length wb) => HEND.out tag2 v2 Q2 w1 wb hf2 ht2 hc2 h)
        have HW0 := hid (W2.start hf2)
        have m0 : w1.cell? ⟨f, 0, none⟩ = some v2 := blk_cell hf2.blk 0
        have hlen2 := hf2.len
        have hrow2 := hf2.row.2
        have hgt2 := hf2.tagr
        clear hf2 ht2 hc2
        rcases hrow2 with ⟨hv2, hn2⟩ | ⟨g2, cap2, cur2, hv2, _, _, hn20, hm20, -, -⟩
        · subst hv2
          obtain rfl : Q2 = [] := List.eq_nil_of_length_eq_zero hn2
          clear hn2
          go_wp2
          go_loopw [57] (fun i wr2 => i = .int .i64 0 ∧ wr2 = w1) (fun _ _ => 0)
          case atStart => exact ⟨rfl, rfl⟩
          case round =>
            obtain ⟨rfl, rfl⟩ := hrel
            go_wp2
            go_ret
            exact ⟨ret_b HL.out.symm, HEND2.out _ HW0.out⟩
        · subst hv2
          have hgt3 := hgt2 g2 rfl
          have HG2 : Hid (g2 < w1.heap.size → tag2 g2 = .row n) := hid fun _ => hgt3
          clear hgt2 hgt3
          go_wp2
          go_loopw [57] (fun i wr2 => ∃ j : Nat, j ≤ Q2.length ∧ i = .int .i64 j ∧ W2 tag2 n f (.slice (some ⟨g2, 0, none⟩) Q2.length cap2) Q2 w1 j wr2) (fun i _ => Q2.length - (intOf i).toNat)
          case atStart => exact ⟨0, Nat.zero_le _, rfl, HW0.out⟩
          case round =>
            obtain ⟨j, hj, rfl, hW2⟩ := hrel
            have p0 := hW2.facts
            have HW2 := hid hW2
            by_cases hlt2 : j < Q2.length
            · obtain ⟨q0, q1, q2, z0, z1, z2, hgl2⟩ := hW2.cells hlt2
              clear hW2
              cases hsf : Q2[j].1.safe with
              | none =>
                have HZ := hid hsf
                rw [hsf] at q1
                have q1' : _ = some (Value.pointer none) := q1
                clear hsf q1
                have hz := zeroSector
                have v1 := set_cell_same q1' (ptr wr.heap.size)
                have u0 := (alloc_cell (i := j * 3) (by rw [set_size]; exact hgl2) (.cells Try.zeroCells142 tSector)).trans ((set_cell_off (w := wr) (b := g2) (i := j * 3 + 1) (j := j * 3) (by omega) (ptr wr.heap.size)).trans q0)
                have u1 := (alloc_cell (i := j * 3 + 1) (by rw [set_size]; exact hgl2) (.cells Try.zeroCells142 tSector)).trans v1
                have u2 := (alloc_cell (i := j * 3 + 2) (by rw [set_size]; exact hgl2) (.cells Try.zeroCells142 tSector)).trans ((set_cell_off (w := wr) (b := g2) (i := j * 3 + 1) (j := j * 3 + 2) (by omega) (ptr wr.heap.size)).trans q2)
                have t0 := (alloc_frozen (i := j * 3) (by rw [set_size]; exact hgl2) (.cells Try.zeroCells142 tSector)).trans ((set_frozen (w := wr) (b := g2) (i := j * 3 + 1) (j := j * 3) (ptr wr.heap.size)).trans z0)
                have t1 := (alloc_frozen (i := j * 3 + 1) (by rw [set_size]; exact hgl2) (.cells Try.zeroCells142 tSector)).trans ((set_frozen (w := wr) (b := g2) (i := j * 3 + 1) (j := j * 3 + 1) (ptr wr.heap.size)).trans z1)
                have t2 := (alloc_frozen (i := j * 3 + 2) (by rw [set_size]; exact hgl2) (.cells Try.zeroCells142 tSector)).trans ((set_frozen (w := wr) (b := g2) (i := j * 3 + 1) (j := j * 3 + 2) (ptr wr.heap.size)).trans z2)
                have HZS := hid hz
                clear hz v1
                go_wp2_with fail
                refine (holds_any g2 (j * 3) wr.heap.size _ _ _ _ u0 u1 u2 t0 t1 t2).mono ?_
                rintro e w3 ⟨rfl, hw3⟩
                have HW3 := hid hw3
                clear hw3
                go_wp2
                go_roundw
                case rel => exact ⟨j + 1, by omega, by go_num, HW2.out.fills hlt2 HG2.out HZ.out (by rw [← HZS.out]) HW3.out⟩
                case measure => simp [intOf]; omega
              | some b =>
                have HZ := hid hsf
                rw [hsf] at q1
                have q1' : _ = some (Value.pointer (some ⟨b, 0, none⟩)) := q1
                clear hsf q1
                go_wp2_with fail
                refine (holds_any g2 (j * 3) b _ _ _ _ q0 q1' q2 z0 z1 z2).mono ?_
                rintro e w3 ⟨rfl, hw3⟩
                have HW3 := hid hw3
                clear hw3
                go_wp2
                go_roundw
                case rel => exact ⟨j + 1, by omega, by go_num, HW2.out.stays hlt2 HG2.out HZ.out HW3.out⟩
                case measure => simp [intOf]; omega
            · obtain rfl : j = Q2.length := by omega
              clear hW2
              go_wp2
              go_ret
              exact ⟨ret_b HL.out.symm, HEND2.out _ HW2.out⟩
  · subst hv
    have H0 : W1 tag n f (.slice (some ⟨g, 0, none⟩) Q.length cap) F Q A B fv l k w 0 w := ⟨tag, [], by rw [List.take_zero]; exact Going.start h, by rw [List.take_zero]; exact hf⟩
    have HH := hid h
    have HO := hid ho
    have HF := hid hf
    clear h ho hf
    go_enter Try.func95, Try.ntmps95
    go_wp2
    go_loopw [5, 15] (fun e i wr => ∃ j : Nat, j ≤ Q.length ∧ i = .int .i64 j ∧ e = .int .i64 (endOf (mets l k (F.ps.take j)) : Nat) ∧ W1 tag n f (.slice (some ⟨g, 0, none⟩) Q.length cap) F Q A B fv l k w j wr) (fun _ i _ => Q.length - (intOf i).toNat)
    case atStart => exact ⟨0, Nat.zero_le _, rfl, rfl, H0⟩
    case round =>
      obtain ⟨j, hj, rfl, rfl, hW⟩ := hrel
      have HW := hid hW
      obtain ⟨tag', Q1, hg, hfa⟩ := hW
      have d0 : wr.cell? ⟨f, 0, none⟩ = some _ := blk_cell hg.file.blk 0
      have d1 : wr.cell? ⟨f, 1, none⟩ = some _ := blk_cell hg.file.blk 1
      by_cases hlt : j < Q.length
      · obtain ⟨hj', hq, hql⟩ := hg.at hlt
        have hrow := hg.file.row
        rw [hql] at hrow
        have hp := place_cells (i := j) hrow hj' hql.symm
        rw [hq] at hp
        obtain ⟨k0, k1, k2, x0, x1, x2⟩ := hp
        have hgl := (hrow.lt g rfl).2
        have hfl := lt_of_block hg.file.blk
        have hps := HH.out.ps
        have hjp : j < F.ps.length := by rw [hps, List.length_map]; exact hlt
        have hpj : F.ps[j] = Q[j].2 := by simp [hps]
        have hend := endOf_next l k F.ps j hjp
        rw [hpj] at hend
        have HE := hid hend
        have htf : tag' f = .file n := hg.file.tagb
        have htg : tag' g = .row n := hg.file.tagr g rfl
        cases hw : Q[j].1.waits with
        | false =>
          rw [hw] at k2
          obtain ⟨hW1, hsome⟩ := W1.idle hps hg hlt hw hfa
          have HW1 := hid hW1
          have HS := hid hsome
          clear hg hfa hrow hps hjp hpj hend hql hq hj' hW1 hsome htf htg hw
          cases hs : Q[j].1.safe with
          | none =>
            have HZ := hid hs
            have k1' : wr.cell? ⟨g, j * 3 + 1, none⟩ = some (.pointer none) := by rw [hs] at k1; exact k1
            clear hs k1
            go_wp2
            go_roundw
            case rel =>
              have e := HS.out
              rw [HZ.out] at e
              have e2 := HE.out
              rw [← e] at e2
              exact ⟨j + 1, by omega, by go_num, by rw [e2]; rfl, HW1.out⟩
            case measure => simp [intOf]; omega
          | some b =>
            have HZ := hid hs
            have k1' : wr.cell? ⟨g, j * 3 + 1, none⟩ = some (.pointer (some ⟨b, 0, none⟩)) := by rw [hs] at k1; exact k1
            clear hs k1
            go_wp2
            go_roundw
            case rel =>
              have e := HS.out
              rw [HZ.out] at e
              have e2 := HE.out
              rw [← e] at e2
              exact ⟨j + 1, by omega, by go_num, by rw [e2]; rfl, HW1.out⟩
            case measure => simp [intOf]; omega
        | true =>
          rw [hw] at k2
          have hcnt : counts k (F.ps.take j) ≤ 1000000000 := by
            have := counts_le (F.ps.take j) k
            rw [List.length_take] at this; omega
          have ht0 := hg.tags
          have hgB : ¬ g = B := by
            rintro rfl
            obtain ⟨k', hb, _⟩ := HF.out.hb
            have := ht0 g (lt_of_block hb)
            rw [htg, HO.out.b] at this; cases this
          have hgw : g < w.heap.size → tag g = .row n := fun hi => by rw [← ht0 g hi]; exact htg
          have hBw : B < w.heap.size := by
            obtain ⟨k', hb, _⟩ := HF.out.hb
            exact lt_of_block hb
          have hAw : A < w.heap.size := lt_of_block HF.out.ha
          have hmet := fun (w1 w2 : World) (h1 : Fates w1 A B fv l (counts k (F.ps.take j) + 1)) (h2 : Chg (· = B) wr w1) (h3 : Met g (j * 3) Q[j].1.now (fateAt l (counts k (F.ps.take j))) w1 w2) =>
            W1.met hps hg hlt hw HO.out hBw HF.out.flt hAw htg h1 h2 h3 hgw
          have HM := hid hmet
          have HFA := hid hfa
          have HGB := hid hgB
          have HG := hid hg
          clear hg hfa hrow hps hjp hpj hend hql hq hj' htf htg hw hmet hgB hgw ht0
          go_wp2_with fail
          refine (fate_any A B fv l (counts k (F.ps.take j)) _ HFA.out hcnt hl).mono ?_
          rintro e w1 ⟨rfl, hfa1, hc1⟩
          have m0 := (hc1.cell (i := j * 3) hgl HGB.out).trans k0
          have m1 := (hc1.cell (i := j * 3 + 1) hgl HGB.out).trans k1
          have y1 := (hc1.frozen (i := j * 3 + 1) hgl HGB.out).trans x1
          have hgl1 := Nat.lt_of_lt_of_le hgl hc1.size
          have HFA1 := hid hfa1
          have HC1 := hid hc1
          clear hfa1 hc1
          go_wp2_with fail
          refine (meet_any g (j * 3) Q[j].1.now _ _ _ hgl1 m0 m1 y1).mono ?_
          rintro e w2 ⟨rfl, hm⟩
          obtain ⟨o, ho2, hW1, hsome⟩ := HM.out _ _ HFA1.out HC1.out hm
          have HW1 := hid hW1
          have HS := hid hsome
          clear hm hW1 hsome m0 m1 y1 hgl1
          cases o with
          | none =>
            have ho3 : w2.cell? ⟨g, j * 3 + 1, none⟩ = some (.pointer none) := ho2
            clear ho2
            go_wp2
            go_roundw
            case rel =>
              have e2 := HE.out
              rw [← HS.out] at e2
              exact ⟨j + 1, by omega, by go_num, by rw [e2]; rfl, HW1.out⟩
            case measure => simp [intOf]; omega
          | some b =>
            have ho3 : w2.cell? ⟨g, j * 3 + 1, none⟩ = some (.pointer (some ⟨b, 0, none⟩)) := ho2
            clear ho2
            go_wp2
            go_roundw
            case rel =>
              have e2 := HE.out
              rw [← HS.out] at e2
              exact ⟨j + 1, by omega, by go_num, by rw [e2]; rfl, HW1.out⟩
            case measure => simp [intOf]; omega
      · obtain rfl : j = Q.length := by omega
        have hps := HH.out.ps
        obtain ⟨tag1, Q4, hf1, hl1, hfa1, ht1, hc1⟩ := W1.out hps HW.out
        clear hg hfa
        have e0 : F.ps.take Q.length = F.ps := List.take_of_length_le (by rw [hps, List.length_map]; exact Nat.le_refl _)
        rw [e0]
        have hEle : endOf (mets l k F.ps) ≤ Q4.length := by
          have := endOf_le (mets l k F.ps)
          have h2 : F.ps.length = Q.length := by rw [hps, List.length_map]
          rw [mets_len, h2] at this; rw [hl1]; omega
        by_cases hE : endOf (mets l k F.ps) = 0
        · cases hs : F.sure with
          | false =>
            have hlv : F.lives l k = false := by unfold Fil.lives; rw [hs, hE]; rfl
            rw [hE]
            rw [hs] at d1
            have HL := hid hlv
            have HR : Hid (Woken tag n f F A B fv l k w wr) := hid ⟨hfa1, tag1, ht1, hc1, fun e => by rw [hlv] at e; cases e⟩
            clear hf1 hfa1 ht1 hc1 hlv hE hs hps e0
            go_wp2
            go_ret
            exact ⟨ret_b HL.out.symm, HR.out⟩
          | true =>
            have bE : ((endOf (mets l k F.ps) : Int) == 0) = true := by simp [hE]
            rw [hs] at d1
            have hlv : F.lives l k = true := by unfold Fil.lives; rw [hs]; rfl
            have HL := hid hlv
            have HF1 := hid hf1
            have HEND := hid (fun (tag2 : Nat → Tag) (v2 : Value) (Q2 : Pls) (wa wb : World) (a : FileAt tag2 wa n f ((⟨mets l k F.ps, F.sure⟩ : Fil).cut (endOf (mets l k F.ps))) v2 Q2) (b : ∀ i, i < wr.heap.size → tag2 i = tag1 i) (c : Chg (fun i => tag1 i = .file n ∨ tag1 i = .row n) wr wa) (h : W2 tag2 n f v2 Q2 wa Q2.length wb) => woken_end (w2 := wb) hfa1 ht1 hc1 HO.out HF.out a b c h)
            clear hf1 hfa1 ht1 hc1 hlv hs hps e0 hE
            go_wp2_with fail
            refine (fcut_any tag1 _ n f _ _ Q4 HF1.out (endOf (mets l k F.ps)) hEle).mono ?_
            rintro e w1 ⟨rfl, tag2, v2, Q2, hf2, ht2, hc2⟩
            have HEND2 := hid (fun (wb : World) (h : W2 tag2 n f v2 Q2 w1 Q2.length wb) => HEND.out tag2 v2 Q2 w1 wb hf2 ht2 hc2 h)
            have HW0 := hid (W2.start hf2)
            have m0 : w1.cell? ⟨f, 0, none⟩ = some v2 := blk_cell hf2.blk 0
            have hlen2 := hf2.len
            have hrow2 := hf2.row.2
            have hgt2 := hf2.tagr
            clear hf2 ht2 hc2
            rcases hrow2 with ⟨hv2, hn2⟩ | ⟨g2, cap2, cur2, hv2, _, _, hn20, hm20, -, -⟩
            · subst hv2
              obtain rfl : Q2 = [] := List.eq_nil_of_length_eq_zero hn2
              clear hn2
              go_wp2
              go_loopw [57] (fun i wr2 => i = .int .i64 0 ∧ wr2 = w1) (fun _ _ => 0)
              case atStart => exact ⟨rfl, rfl⟩
              case round =>
                obtain ⟨rfl, rfl⟩ := hrel
                go_wp2
                go_ret
                exact ⟨ret_b HL.out.symm, HEND2.out _ HW0.out⟩
            · subst hv2
              have hgt3 := hgt2 g2 rfl
              have HG2 : Hid (g2 < w1.heap.size → tag2 g2 = .row n) := hid fun _ => hgt3
              clear hgt2 hgt3
              go_wp2
              go_loopw [57] (fun i wr2 => ∃ j : Nat, j ≤ Q2.length ∧ i = .int .i64 j ∧ W2 tag2 n f (.slice (some ⟨g2, 0, none⟩) Q2.length cap2) Q2 w1 j wr2) (fun i _ => Q2.length - (intOf i).toNat)
              case atStart => exact ⟨0, Nat.zero_le _, rfl, HW0.out⟩
              case round =>
                obtain ⟨j, hj, rfl, hW2⟩ := hrel
                have p0 := hW2.facts
                have HW2 := hid hW2
                by_cases hlt2 : j < Q2.length
                · obtain ⟨q0, q1, q2, z0, z1, z2, hgl2⟩ := hW2.cells hlt2
                  clear hW2
                  cases hsf : Q2[j].1.safe with
                  | none =>
                    have HZ := hid hsf
                    rw [hsf] at q1
                    have q1' : _ = some (Value.pointer none) := q1
                    clear hsf q1
                    have hz := zeroSector
                    have v1 := set_cell_same q1' (ptr wr.heap.size)
                    have u0 := (alloc_cell (i := j * 3) (by rw [set_size]; exact hgl2) (.cells Try.zeroCells142 tSector)).trans ((set_cell_off (w := wr) (b := g2) (i := j * 3 + 1) (j := j * 3) (by omega) (ptr wr.heap.size)).trans q0)
                    have u1 := (alloc_cell (i := j * 3 + 1) (by rw [set_size]; exact hgl2) (.cells Try.zeroCells142 tSector)).trans v1
                    have u2 := (alloc_cell (i := j * 3 + 2) (by rw [set_size]; exact hgl2) (.cells Try.zeroCells142 tSector)).trans ((set_cell_off (w := wr) (b := g2) (i := j * 3 + 1) (j := j * 3 + 2) (by omega) (ptr wr.heap.size)).trans q2)
                    have t0 := (alloc_frozen (i := j * 3) (by rw [set_size]; exact hgl2) (.cells Try.zeroCells142 tSector)).trans ((set_frozen (w := wr) (b := g2) (i := j * 3 + 1) (j := j * 3) (ptr wr.heap.size)).trans z0)
                    have t1 := (alloc_frozen (i := j * 3 + 1) (by rw [set_size]; exact hgl2) (.cells Try.zeroCells142 tSector)).trans ((set_frozen (w := wr) (b := g2) (i := j * 3 + 1) (j := j * 3 + 1) (ptr wr.heap.size)).trans z1)
                    have t2 := (alloc_frozen (i := j * 3 + 2) (by rw [set_size]; exact hgl2) (.cells Try.zeroCells142 tSector)).trans ((set_frozen (w := wr) (b := g2) (i := j * 3 + 1) (j := j * 3 + 2) (ptr wr.heap.size)).trans z2)
                    have HZS := hid hz
                    clear hz v1
                    go_wp2_with fail
                    refine (holds_any g2 (j * 3) wr.heap.size _ _ _ _ u0 u1 u2 t0 t1 t2).mono ?_
                    rintro e w3 ⟨rfl, hw3⟩
                    have HW3 := hid hw3
                    clear hw3
                    go_wp2
                    go_roundw
                    case rel => exact ⟨j + 1, by omega, by go_num, HW2.out.fills hlt2 HG2.out HZ.out (by rw [← HZS.out]) HW3.out⟩
                    case measure => simp [intOf]; omega
                  | some b =>
                    have HZ := hid hsf
                    rw [hsf] at q1
                    have q1' : _ = some (Value.pointer (some ⟨b, 0, none⟩)) := q1
                    clear hsf q1
                    go_wp2_with fail
                    refine (holds_any g2 (j * 3) b _ _ _ _ q0 q1' q2 z0 z1 z2).mono ?_
                    rintro e w3 ⟨rfl, hw3⟩
                    have HW3 := hid hw3
                    clear hw3
                    go_wp2
                    go_roundw
                    case rel => exact ⟨j + 1, by omega, by go_num, HW2.out.stays hlt2 HG2.out HZ.out HW3.out⟩
                    case measure => simp [intOf]; omega
                · obtain rfl : j = Q2.length := by omega
                  clear hW2
                  go_wp2
                  go_ret
                  exact ⟨ret_b HL.out.symm, HEND2.out _ HW2.out⟩
        · have bE : ((endOf (mets l k F.ps) : Int) == 0) = false := by simp [hE]
          have hs : True := trivial
          have hlv : F.lives l k = true := by unfold Fil.lives; simp [hE]
          have HL := hid hlv
          have HF1 := hid hf1
          have HEND := hid (fun (tag2 : Nat → Tag) (v2 : Value) (Q2 : Pls) (wa wb : World) (a : FileAt tag2 wa n f ((⟨mets l k F.ps, F.sure⟩ : Fil).cut (endOf (mets l k F.ps))) v2 Q2) (b : ∀ i, i < wr.heap.size → tag2 i = tag1 i) (c : Chg (fun i => tag1 i = .file n ∨ tag1 i = .row n) wr wa) (h : W2 tag2 n f v2 Q2 wa Q2.length wb) => woken_end (w2 := wb) hfa1 ht1 hc1 HO.out HF.out a b c h)
          clear hf1 hfa1 ht1 hc1 hlv hs hps e0 hE
          go_wp2_with fail
          refine (fcut_any tag1 _ n f _ _ Q4 HF1.out (endOf (mets l k F.ps)) hEle).mono ?_
          rintro e w1 ⟨rfl, tag2, v2, Q2, hf2, ht2, hc2⟩
          have HEND2 := hid (fun (wb : World) (h : W2 tag2 n f v2 Q2 w1 Q2.length wb) => HEND.out tag2 v2 Q2 w1 wb hf2 ht2 hc2 h)
          have HW0 := hid (W2.start hf2)
          have m0 : w1.cell? ⟨f, 0, none⟩ = some v2 := blk_cell hf2.blk 0
          have hlen2 := hf2.len
          have hrow2 := hf2.row.2
          have hgt2 := hf2.tagr
          clear hf2 ht2 hc2
          rcases hrow2 with ⟨hv2, hn2⟩ | ⟨g2, cap2, cur2, hv2, _, _, hn20, hm20, -, -⟩
          · subst hv2
            obtain rfl : Q2 = [] := List.eq_nil_of_length_eq_zero hn2
            clear hn2
            go_wp2
            go_loopw [57] (fun i wr2 => i = .int .i64 0 ∧ wr2 = w1) (fun _ _ => 0)
            case atStart => exact ⟨rfl, rfl⟩
            case round =>
              obtain ⟨rfl, rfl⟩ := hrel
              go_wp2
              go_ret
              exact ⟨ret_b HL.out.symm, HEND2.out _ HW0.out⟩
          · subst hv2
            have hgt3 := hgt2 g2 rfl
            have HG2 : Hid (g2 < w1.heap.size → tag2 g2 = .row n) := hid fun _ => hgt3
            clear hgt2 hgt3
            go_wp2
            go_loopw [57] (fun i wr2 => ∃ j : Nat, j ≤ Q2.length ∧ i = .int .i64 j ∧ W2 tag2 n f (.slice (some ⟨g2, 0, none⟩) Q2.length cap2) Q2 w1 j wr2) (fun i _ => Q2.length - (intOf i).toNat)
            case atStart => exact ⟨0, Nat.zero_le _, rfl, HW0.out⟩
            case round =>
              obtain ⟨j, hj, rfl, hW2⟩ := hrel
              have p0 := hW2.facts
              have HW2 := hid hW2
              by_cases hlt2 : j < Q2.length
              · obtain ⟨q0, q1, q2, z0, z1, z2, hgl2⟩ := hW2.cells hlt2
                clear hW2
                cases hsf : Q2[j].1.safe with
                | none =>
                  have HZ := hid hsf
                  rw [hsf] at q1
                  have q1' : _ = some (Value.pointer none) := q1
                  clear hsf q1
                  have hz := zeroSector
                  have v1 := set_cell_same q1' (ptr wr.heap.size)
                  have u0 := (alloc_cell (i := j * 3) (by rw [set_size]; exact hgl2) (.cells Try.zeroCells142 tSector)).trans ((set_cell_off (w := wr) (b := g2) (i := j * 3 + 1) (j := j * 3) (by omega) (ptr wr.heap.size)).trans q0)
                  have u1 := (alloc_cell (i := j * 3 + 1) (by rw [set_size]; exact hgl2) (.cells Try.zeroCells142 tSector)).trans v1
                  have u2 := (alloc_cell (i := j * 3 + 2) (by rw [set_size]; exact hgl2) (.cells Try.zeroCells142 tSector)).trans ((set_cell_off (w := wr) (b := g2) (i := j * 3 + 1) (j := j * 3 + 2) (by omega) (ptr wr.heap.size)).trans q2)
                  have t0 := (alloc_frozen (i := j * 3) (by rw [set_size]; exact hgl2) (.cells Try.zeroCells142 tSector)).trans ((set_frozen (w := wr) (b := g2) (i := j * 3 + 1) (j := j * 3) (ptr wr.heap.size)).trans z0)
                  have t1 := (alloc_frozen (i := j * 3 + 1) (by rw [set_size]; exact hgl2) (.cells Try.zeroCells142 tSector)).trans ((set_frozen (w := wr) (b := g2) (i := j * 3 + 1) (j := j * 3 + 1) (ptr wr.heap.size)).trans z1)
                  have t2 := (alloc_frozen (i := j * 3 + 2) (by rw [set_size]; exact hgl2) (.cells Try.zeroCells142 tSector)).trans ((set_frozen (w := wr) (b := g2) (i := j * 3 + 1) (j := j * 3 + 2) (ptr wr.heap.size)).trans z2)
                  have HZS := hid hz
                  clear hz v1
                  go_wp2_with fail
                  refine (holds_any g2 (j * 3) wr.heap.size _ _ _ _ u0 u1 u2 t0 t1 t2).mono ?_
                  rintro e w3 ⟨rfl, hw3⟩
                  have HW3 := hid hw3
                  clear hw3
                  go_wp2
                  go_roundw
                  case rel => exact ⟨j + 1, by omega, by go_num, HW2.out.fills hlt2 HG2.out HZ.out (by rw [← HZS.out]) HW3.out⟩
                  case measure => simp [intOf]; omega
                | some b =>
                  have HZ := hid hsf
                  rw [hsf] at q1
                  have q1' : _ = some (Value.pointer (some ⟨b, 0, none⟩)) := q1
                  clear hsf q1
                  go_wp2_with fail
                  refine (holds_any g2 (j * 3) b _ _ _ _ q0 q1' q2 z0 z1 z2).mono ?_
                  rintro e w3 ⟨rfl, hw3⟩
                  have HW3 := hid hw3
                  clear hw3
                  go_wp2
                  go_roundw
                  case rel => exact ⟨j + 1, by omega, by go_num, HW2.out.stays hlt2 HG2.out HZ.out HW3.out⟩
                  case measure => simp [intOf]; omega
              · obtain rfl : j = Q2.length := by omega
                clear hW2
                go_wp2
                go_ret
                exact ⟨ret_b HL.out.symm, HEND2.out _ HW2.out⟩

end Disk
end Go.Proofs.Ytiomojidfkpagaa
