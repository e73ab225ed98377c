/-
  SpareExact: a desk and a second book side by side; the project's calls and the reference's as they go on.
-/
import Derived.Test.YtkoglikaaehhjaaSpareExactM
import Derived.Test.YtkoglikaaehhjaaSpareLab
namespace Go.Proofs.Ytkoglikaaehhjaa
open Go.RowKit
namespace Sp
open Num (hid)
open Mem (Bs bs IAt tI tS tIs tSs Chg Row ptr blk_cell blk_free blk_new blk_set blk_other blk_alloc row_kept row_shape row_type)
/-- The desk is B1, the second book is B2; its blocks (R2) are of those that the desk's calls leave alone (O). -/
structure Duo (O R2 : Nat → Prop) (N d b u bh cnt : Nat) (h : Hd) (B1 B2 : Book) (l : Int) (w0 w : World) : Prop where
  lab : Lab O N bh d b cnt h ⟨B1, l⟩ w0 w
  book : BookR R2 w u B2
  sub : ∀ k, R2 k → O k ∧ N ≤ k ∧ k ≠ bh ∧ k < w.heap.size
  neg : l < 0
variable {O R2 : Nat → Prop} {N d b u bh cnt : Nat} {h : Hd} {B1 B2 : Book} {l : Int} {w0 w w' : World}
theorem Duo.kept (k : Duo O R2 N d b u bh cnt h B1 B2 l w0 w) (hb : Below w.heap.size w w') : Duo O R2 N d b u bh cnt h B1 B2 l w0 w' :=
  ⟨k.lab.kept hb, k.book.on hb, fun j hj => ⟨(k.sub j hj).1, (k.sub j hj).2.1, (k.sub j hj).2.2.1, Nat.lt_of_lt_of_le (k.sub j hj).2.2.2 hb.size⟩, k.neg⟩
theorem Duo.put (k : Duo O R2 N d b u bh cnt h B1 B2 l w0 w) (g : Hd) : Duo O R2 N d b u bh cnt g B1 B2 l w0 (put6 w bh g) := by
  have hc : Chg (· = bh) w (put6 w bh g) := ((((((Chg.refl _ w).root _ _).root _ _).root _ _).root _ _).root _ _).root _ _
  exact ⟨k.lab.put g, k.book.apart hc (fun j hj e => (k.sub j e).2.2.1 hj), fun j hj => ⟨(k.sub j hj).1, (k.sub j hj).2.1, (k.sub j hj).2.2.1, Nat.lt_of_lt_of_le (k.sub j hj).2.2.2 hc.size⟩, k.neg⟩
theorem Duo.few (k : Duo O R2 N d b u bh cnt h B1 B2 l w0 w) : B1.length ≤ cnt := k.lab.sm.2.2
theorem duo_book (k : Duo O R2 N d b u bh cnt h B1 B2 l w0 w) (hst : Stays O w w') : BookR R2 w' u B2 := k.book.apart hst (fun j hj e => hj (k.sub j e).1)
/-- The project's Take. -/
theorem Duo.take (k : Duo O R2 N d b u bh cnt h B1 B2 l w0 w) (hf : Fit h) (hc : cnt ≤ 20000) :
    Calls Try.prog 17 #[hV h, dkV d] w fun e w' => e = .returned (takeV (rTake h B1).1) ∧ (∃ l', Duo O R2 N d b u bh (cnt + 2) h (rTake h B1).2 B2 l' w0 w') ∧ Stays O w w' := by
  obtain ⟨e1, e2, e3⟩ := take_same h B1 l k.neg
  refine (take_seen k.lab.seen k.lab.sm (by omega) h hf).mono ?_
  rintro e w' ⟨rfl, hs, hst⟩
  have hm := small_takeM k.lab.sm h
  generalize takeM h ⟨B1, l⟩ = X at *
  obtain ⟨xa, ⟨xb, xl⟩⟩ := X
  simp only at e1 e2 e3
  subst e2
  rw [← e1]
  exact ⟨rfl, ⟨xl, k.lab.turned hs hst hm, duo_book k hst, fun j hj => ⟨(k.sub j hj).1, (k.sub j hj).2.1, (k.sub j hj).2.2.1, Nat.lt_of_lt_of_le (k.sub j hj).2.2.2 hst.size⟩, e3⟩, hst⟩
/-- The project's Give. -/
theorem Duo.give (k : Duo O R2 N d b u bh cnt h B1 B2 l w0 w) (hf : Fit h) (hc : cnt ≤ 20000) (n : Int) :
    Calls Try.prog 19 #[hV h, dkV d, .int .i64 n] w fun e w' => e = .returned (giveV (rGive h B1 n).1) ∧ (∃ l', Duo O R2 N d b u bh (cnt + 2) h (rGive h B1 n).2 B2 l' w0 w') ∧ Stays O w w' := by
  obtain ⟨e1, e2, e3⟩ := give_same h hf B1 l k.neg n
  refine (give_seen k.lab.seen k.lab.sm (by omega) h hf n).mono ?_
  rintro e w' ⟨rfl, hs, hst⟩
  have hm := small_giveM k.lab.sm h n
  generalize giveM h ⟨B1, l⟩ n = X at *
  obtain ⟨xa, ⟨xb, xl⟩⟩ := X
  simp only at e1 e2 e3
  subst e2
  rw [← e1]
  exact ⟨rfl, ⟨xl, k.lab.turned hs hst hm, duo_book k hst, fun j hj => ⟨(k.sub j hj).1, (k.sub j hj).2.1, (k.sub j hj).2.2.1, Nat.lt_of_lt_of_le (k.sub j hj).2.2.2 hst.size⟩, e3⟩, hst⟩
/-- The second book turns: what is neither its own nor new stays. -/
theorem Duo.beside (k : Duo O R2 N d b u bh cnt h B1 B2 l w0 w) {B3 : Book} (hb : BookR (Since R2 w w) w' u B3) (hc : Chg (Since R2 w w) w w') :
    ∃ O' R3, Duo O' R3 N d b u bh cnt h B1 B3 l w0 w' ∧ (∀ g x, Hb g x w → ¬ R2 g → Hb g x w' ∧ ¬ R3 g) ∧ ∀ q, O q → O' q := by
  have hbh := k.lab.hb.lt
  have hN := k.lab.size
  refine ⟨_, fun q => Since R2 w w q ∧ q < w'.heap.size, ⟨k.lab.beside hc ?_ ?_ ?_, hb.mono (fun q hq e => ⟨e, hq⟩), ?_, k.neg⟩, fun g x hg hn => ⟨hg.at hc ?_, fun e => ?_⟩, fun q hq => Or.inl hq⟩
  · rintro q (e | e) hq
    · exact (k.sub q e.1).1
    · omega
  · rintro (e | e)
    · exact (k.sub bh e.1).2.2.1 rfl
    · omega
  · rintro q hq (e | e)
    · have := (k.sub q e.1).2.1
      omega
    · omega
  · rintro q ⟨e | e, hq⟩
    · exact ⟨Or.inl (k.sub q e.1).1, (k.sub q e.1).2.1, (k.sub q e.1).2.2.1, hq⟩
    · exact ⟨Or.inr ⟨e, hq⟩, by omega, by omega, hq⟩
  · have := hg.lt
    rintro (e | e)
    · exact hn e.1
    · omega
  · have := hg.lt
    rcases e.1 with e1 | e1
    · exact hn e1.1
    · omega
/-- The reference's Take. -/
theorem Duo.rtake (k : Duo O R2 N d b u bh cnt h B1 B2 l w0 w) (hf : Fit h) (hB : B2.length ≤ 20000) :
    Calls Try.prog 18 #[hV h, ptr u] w fun e w' => e = .returned (takeV (rTake h B2).1) ∧ ∃ O' R3, Duo O' R3 N d b u bh cnt h B1 (rTake h B2).2 l w0 w' ∧ (∀ g x, Hb g x w → ¬ R2 g → Hb g x w' ∧ ¬ R3 g) ∧ ∀ q, O q → O' q := by
  refine (rtake_any (R := Since R2 w w) (k.book.mono (fun q hq e => Or.inl ⟨e, hq⟩)) Since.new hB h hf).mono ?_
  rintro e w' ⟨rfl, hb, hc⟩
  exact ⟨rfl, k.beside hb hc⟩
/-- The reference's Give. -/
theorem Duo.rgive (k : Duo O R2 N d b u bh cnt h B1 B2 l w0 w) (hf : Fit h) (hB : B2.length ≤ 20000) (n : Int) :
    Calls Try.prog 20 #[hV h, ptr u, .int .i64 n] w fun e w' => e = .returned (giveV (rGive h B2 n).1) ∧ ∃ O' R3, Duo O' R3 N d b u bh cnt h B1 (rGive h B2 n).2 l w0 w' ∧ (∀ g x, Hb g x w → ¬ R2 g → Hb g x w' ∧ ¬ R3 g) ∧ ∀ q, O q → O' q := by
  refine (rgive_any (R := Since R2 w w) (k.book.mono (fun q hq e => Or.inl ⟨e, hq⟩)) Since.new hB h hf n).mono ?_
  rintro e w' ⟨rfl, hb, hc⟩
  exact ⟨rfl, k.beside hb hc⟩
/-- A page is put to the second book. -/
theorem Duo.uput (k : Duo O R2 N d b u bh cnt h B1 B2 l w0 w) (hB : B2.length ≤ 20000) (key : Int) (x : Bs) :
    Calls Try.prog 16 #[ptr u, .int .i64 key, .string (bs x)] w fun e w' => e = .returned (.tuple #[]) ∧ ∃ O' R3, Duo O' R3 N d b u bh cnt h B1 (putB B2 key x) l w0 w' := by
  refine (bput_any (R := Since R2 w w) (k.book.mono (fun q hq e => Or.inl ⟨e, hq⟩)) Since.new key x (by omega)).mono ?_
  rintro e w' ⟨rfl, hb, hc⟩
  obtain ⟨O', R3, h1, -, -⟩ := k.beside hb hc
  exact ⟨rfl, O', R3, h1⟩
theorem uget (k : Duo O R2 N d b u bh cnt h B1 B2 l w0 w) (hB : B2.length ≤ 20000) (n : Int) :
    Calls Try.prog 21 #[ptr u, .int .i64 n] w fun e w' => e = .returned (.string (bs (getB B2 n))) ∧ Below w.heap.size w w' := bget_any k.book n (by omega)
theorem dget (k : Duo O R2 N d b u bh cnt h B1 B2 l w0 w) (hc : cnt ≤ 20000) (n : Int) :
    Calls Try.prog 21 #[ptr b, .int .i64 n] w fun e w' => e = .returned (.string (bs (getB B1 n))) ∧ Below w.heap.size w w' := by
  obtain ⟨R, D, -, -⟩ := k.lab.seen
  have := k.few
  exact bget_any D.book n (show B1.length ≤ 100000 by omega)
/-- A page is put to the desk's own book. -/
theorem Duo.dput (k : Duo O R2 N d b u bh cnt h B1 B2 l w0 w) (hc : cnt ≤ 20000) (key : Int) (x : Bs) :
    Calls Try.prog 16 #[ptr b, .int .i64 key, .string (bs x)] w fun e w' => e = .returned (.tuple #[]) ∧ Duo O R2 N d b u bh (cnt + 1) h (putB B1 key x) B2 l w0 w' := by
  obtain ⟨R, D, h1, h2⟩ := k.lab.seen
  have hd := lt_of_block D.blk
  have hfew := k.few
  refine (bput_any (R := Since (fun q => R q ∧ ¬ q = d) w w) (D.book.mono (fun q hq e => Or.inl ⟨e, hq⟩)) Since.new key x (show B1.length ≤ 100000 by omega)).mono ?_
  rintro e w' ⟨rfl, hb, hcg⟩
  have hdn : ¬ Since (fun q => R q ∧ ¬ q = d) w w d := by
    rintro (e | e)
    · exact e.1.2 rfl
    · omega
  have hst : Stays O w w' := hcg.mono (fun q hq e ho => by
    rcases e with e | e
    · exact h1 q ho e.1.1
    · omega)
  have hs : Seen O d b ⟨putB B1 key x, l⟩ w' := by
    refine ⟨Since R w w, ⟨hcg.at D.blk hdn, Or.inl ⟨D.own, hd⟩, hb.mono (fun q _ e => ?_)⟩, fun q hq e => ?_, fun q hq => Nat.lt_of_lt_of_le (h2 q hq) hst.size⟩
    · rcases e with e | e
      · exact ⟨Or.inl ⟨e.1.1, e.2⟩, e.1.2⟩
      · exact ⟨Or.inr e, by omega⟩
    · rcases e with e | e
      · exact h1 q hq e.1
      · have := h2 q hq
        omega
  have hm : Small (cnt + 1) ⟨putB B1 key x, l⟩ := by
    have h3 := k.lab.sm
    have h4 := put_len key x B1
    unfold Small at *
    exact ⟨by have := h3.1; show -((cnt + 1 : Nat) : Int) ≤ l; have h5 : -(cnt : Int) ≤ l := this; omega, h3.2.1, by show (putB B1 key x).length ≤ cnt + 1; omega⟩
  exact ⟨rfl, k.lab.turned hs hst hm, duo_book k hst, fun j hj => ⟨(k.sub j hj).1, (k.sub j hj).2.1, (k.sub j hj).2.2.1, Nat.lt_of_lt_of_le (k.sub j hj).2.2.2 hst.size⟩, k.neg⟩
theorem Duo.more (k : Duo O R2 N d b u bh cnt h B1 B2 l w0 w) {c' : Nat} (hc : cnt ≤ c') : Duo O R2 N d b u bh c' h B1 B2 l w0 w :=
  ⟨⟨k.lab.seen, k.lab.hb, k.lab.ob, k.lab.on, k.lab.nb, k.lab.be, k.lab.sm.more hc⟩, k.book, k.sub, k.neg⟩
theorem Duo.desk (k : Duo O R2 N d b u bh cnt h B1 B2 l w0 w) : w.cell? ⟨d, 0, none⟩ = some (ptr b) ∧ d < w.heap.size := by
  obtain ⟨R, D, -, -⟩ := k.lab.seen
  exact ⟨D.cells.1, lt_of_block D.blk⟩
/-- The two at the start. -/
theorem duo_new {w w3 w4 : World} {bh : Nat} {h : Hd} (hN : w.heap.size ≤ bh) (hH : Hb bh h w3) (hb0 : Below w.heap.size w w3) (hs : Seen (fun k => k < w3.heap.size) d b St0 w4) (hb : Below w3.heap.size w3 w4) :
    ∃ O R2, Duo O R2 w.heap.size d b w4.heap.size bh 1 h [] [] (-1) w (w4.alloc (.cells #[nilS, nilS] tBk)) := by
  have L4 : Lab (fun k => k < w3.heap.size) w.heap.size bh d b 1 h ⟨[], -1⟩ w w4 := ⟨hs, hH.on hb, hH.lt, fun k hk => Nat.lt_of_lt_of_le hk hb0.size, hN, hb0.trans (hb.mono hb0.size), small_0⟩
  have hb2 : Below w4.heap.size w4 (w4.alloc (.cells #[nilS, nilS] tBk)) := (Below.refl _ _).alloc (Nat.le_refl _) _
  have hz : (w4.alloc (.cells #[nilS, nilS] tBk)).heap.size = w4.heap.size + 1 := by simp
  have h4 : w3.heap.size ≤ w4.heap.size := hb.size
  have h5 := hH.lt
  have hblk := blk_new w4 (.cells #[nilS, nilS] tBk)
  refine ⟨_, (· = w4.heap.size), L4.beside (F := fun _ => False) (Chg.of_below hb2) (fun _ h _ => h.elim) id (fun _ _ h => h), ?_, ?_, by decide⟩
  · exact ⟨nilS, nilS, hblk, rfl, ⟨World.ownsRow_nil _ 0 tI 1, fun g hg => by simp [Value.ownBlock] at hg⟩, ⟨World.ownsRow_nil _ 0 tS 1, fun g hg => by simp [Value.ownBlock] at hg⟩⟩
  · rintro q rfl
    exact ⟨Or.inr ⟨Nat.le_refl _, by omega⟩, by have := hb0.size; omega, by omega, by omega⟩
/-- What the second book's rows say. -/
theorem Duo.rows (k : Duo O R2 N d b u bh cnt h B1 B2 l w0 w) : ∃ ao cap ao2 cap2, w.cell? ⟨u, 0, none⟩ = some (.slice ao B2.length cap) ∧ w.cell? ⟨u, 1, none⟩ = some (.slice ao2 B2.length cap2) ∧ u < w.heap.size ∧ (∀ j (hj : j < B2.length), ∃ g g2, ao = some ⟨g, 0, none⟩ ∧ ao2 = some ⟨g2, 0, none⟩ ∧ g < w.heap.size ∧ g2 < w.heap.size ∧ w.cell? ⟨g, j, none⟩ = some (.int .i64 B2[j].1) ∧ w.cell? ⟨g2, j, none⟩ = some (.string (bs B2[j].2))) := by
  obtain ⟨nv, dv, hA⟩ := k.book
  obtain ⟨ao, cap, ao2, cap2, rfl, rfl, h1, h2⟩ := hA.shape
  refine ⟨ao, cap, ao2, cap2, blk_cell hA.blk 0, blk_cell hA.blk 1, lt_of_block hA.blk, fun j hj => ?_⟩
  obtain ⟨g, e1, e2, e3⟩ := h1 j hj
  obtain ⟨g2, f1, f2, f3, -⟩ := h2 j hj
  exact ⟨g, g2, e1, f1, e2, f2, e3, f3⟩
theorem keys_take {h : Hd} {B : Book} (k : (B.map (·.1)).Nodup) : ((rTake h B).2.map (·.1)).Nodup := by
  unfold rTake
  split
  · exact k
  · split
    · exact k
    · split
      · exact k
      · exact put_keys k
theorem keys_give {h : Hd} {B : Book} {n : Int} (k : (B.map (·.1)).Nodup) : ((rGive h B n).2.map (·.1)).Nodup := by
  unfold rGive
  split
  · exact k
  · split
    · exact k
    · split
      · exact put_keys k
      · split
        · exact k
        · split
          · exact put_keys k
          · exact put_keys k
/-- A box of the walk's own beside both. -/
theorem Duo.boxed (k : Duo O R2 N d b u bh cnt h B1 B2 l w0 w) (o : Obj) : ∃ O', Duo O' R2 N d b u bh cnt h B1 B2 l w0 (w.alloc o).drew ∧ O' w.heap.size ∧ ¬ R2 w.heap.size := by
  have hb : Below w.heap.size w (w.alloc o) := (Below.refl _ _).alloc (Nat.le_refl _) _
  have L := (k.lab.beside (F := fun _ => False) (Chg.of_below hb) (fun _ h _ => h.elim) id (fun _ _ h => h)).kept (Below.refl _ _).drew
  refine ⟨_, ⟨L, (k.book.on hb).on (Below.refl _ _).drew, fun j hj => ⟨Or.inl (k.sub j hj).1, (k.sub j hj).2.1, (k.sub j hj).2.2.1, Nat.lt_of_lt_of_le (k.sub j hj).2.2.2 hb.size⟩, k.neg⟩, Or.inr ⟨Nat.le_refl _, by simp⟩, fun e => ?_⟩
  have := (k.sub _ e).2.2.2
  omega
/-- A head is put to such a box. -/
theorem Duo.boxput (k : Duo O R2 N d b u bh cnt h B1 B2 l w0 w) {g : Nat} (hO : O g) (hR : ¬ R2 g) (hg : g ≠ bh) (hN : N ≤ g) (x : Hd) : ∃ O', Duo O' R2 N d b u bh cnt h B1 B2 l w0 (put6 w g x) := by
  have hc : Chg (· = g) w (put6 w g x) := ((((((Chg.refl _ w).root _ _).root _ _).root _ _).root _ _).root _ _).root _ _
  refine ⟨_, k.lab.beside hc (fun q hq _ => by rw [hq]; exact hO) (fun e => hg e.symm) (fun q hq e => by omega), k.book.apart hc (fun q hq e => hR (hq ▸ e)), fun j hj => ⟨Or.inl (k.sub j hj).1, (k.sub j hj).2.1, (k.sub j hj).2.2.1, Nat.lt_of_lt_of_le (k.sub j hj).2.2.2 hc.size⟩, k.neg⟩
/-- What the calls of Give read. -/
theorem Duo.seven (k : Duo O R2 N d b u bh cnt h B1 B2 l w0 w) {q i : Nat} {v : Value} (hq : q < N) (hv : w0.cell? ⟨q, i, none⟩ = some v) :
    w.cell? ⟨bh, 0, none⟩ = some (.int .i64 h.mode) ∧ w.cell? ⟨bh, 1, none⟩ = some (.int .i64 h.pages) ∧ w.cell? ⟨bh, 2, none⟩ = some (.int .i64 h.trunk) ∧ w.cell? ⟨bh, 3, none⟩ = some (.int .i64 h.spare) ∧ w.cell? ⟨bh, 4, none⟩ = some (.int .i64 h.root) ∧ w.cell? ⟨bh, 5, none⟩ = some (.int .u64 (h.change : Nat)) ∧ w.cell? ⟨q, i, none⟩ = some v := by
  obtain ⟨c0, c1, c2, c3, c4, c5⟩ := k.lab.hb.cells
  exact ⟨c0, c1, c2, c3, c4, c5, (World.cell?_of_block (k.lab.be.block q hq)).trans hv⟩
/-- Behind the project's Give: the new head's box. -/
structure GE (R2 : Nat → Prop) (N d b u bh cnt : Nat) (h : Hd) (B1 B2 : Book) (l : Int) (w0 : World) (g : Nat) (x : Hd) (w : World) : Prop where
  duo : ∃ O, Duo O R2 N d b u bh cnt h B1 B2 l w0 w
  box : Hb g x w
  nr : ¬ R2 g
theorem ge_A (k : Duo O R2 N d b u bh cnt h B1 B2 l w0 w) (x : Hd) : GE R2 N d b u bh cnt h B1 B2 l w0 w.heap.size x (w.alloc (hObj x)) :=
  ⟨⟨O, k.kept ((Below.refl _ _).alloc (Nat.le_refl _) _)⟩, Hb.new x w, fun e => by have := (k.sub _ e).2.2.2; omega⟩
theorem ge_B (k : Duo O R2 N d b u bh cnt h B1 B2 l w0 w) {g : Nat} {z : Hd} (hO : O g) (hR : ¬ R2 g) (hz : Hb g z w) (hN : bh < g) (x : Hd) : GE R2 N d b u bh cnt h B1 B2 l w0 g x (put6 w g x) :=
  ⟨k.boxput hO hR (by omega) (by have := k.lab.nb; omega) x, hz.put x, hR⟩
/-- Behind the reference's Give: both boxes. -/
structure RE (N d b u bh cnt : Nat) (h : Hd) (B1 B2 : Book) (l : Int) (w0 : World) (g1 g2 : Nat) (x : Hd) (w : World) : Prop where
  duo : ∃ O R2, Duo O R2 N d b u bh cnt h B1 B2 l w0 w
  one : Hb g1 x w
  two : Hb g2 x w
theorem re_A (k : Duo O R2 N d b u bh cnt h B1 B2 l w0 w) {g1 : Nat} {x : Hd} (h1 : Hb g1 x w) : RE N d b u bh cnt h B1 B2 l w0 g1 w.heap.size x (w.alloc (hObj x)) :=
  ⟨⟨O, R2, k.kept ((Below.refl _ _).alloc (Nat.le_refl _) _)⟩, h1.on ((Below.refl _ _).alloc (Nat.le_refl _) _), Hb.new x w⟩
theorem re_B (k : Duo O R2 N d b u bh cnt h B1 B2 l w0 w) {g1 g2 : Nat} {x z : Hd} (h1 : Hb g1 x w) (hO : O g2) (hR : ¬ R2 g2) (hz : Hb g2 z w) (hN : bh < g2) (hne : g1 < g2) : RE N d b u bh cnt h B1 B2 l w0 g1 g2 x (put6 w g2 x) := by
  have hc : Chg (· = g2) w (put6 w g2 x) := ((((((Chg.refl _ w).root _ _).root _ _).root _ _).root _ _).root _ _).root _ _
  obtain ⟨O', h2⟩ := k.boxput hO hR (by omega) (by have := k.lab.nb; omega) x
  exact ⟨⟨O', R2, h2⟩, h1.at hc (by omega), hz.put x⟩
end Sp
end Go.Proofs.Ytkoglikaaehhjaa
