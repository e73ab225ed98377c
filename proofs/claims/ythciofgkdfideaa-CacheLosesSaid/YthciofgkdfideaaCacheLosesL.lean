/-
  What CacheLoses' walk carries: the cache, the store to which answers are written, what each page was put as last.
-/
import Derived.Test.YthciofgkdfideaaCacheAwake
import Derived.Test.YthciofgkdfideaaCacheSmall
import Derived.Test.YthciofgkdfideaaCacheOpen
namespace Go.Proofs.Ythciofgkdfideaa
open Go.RowKit
namespace Ca
open Num (hid)
open Mem (Bs bs tI tS Chg Row ptr blk_cell blk_free blk_new blk_set blk_other blk_alloc)
/-- The cache lies in R, the rows vs and vl lie elsewhere, each in a block of its own. -/
structure LS (w0 : World) (c size : Nat) (l : Row) (vs vl : Value) (S A : List Pg) (w : World) : Prop where
  bel : Below w0.heap.size w0 w
  ex : ∃ R : Nat → Prop, CA R w c size l ∧ (∀ k, R k → w0.heap.size ≤ k ∧ k < w.heap.size) ∧ PR (fun g => w0.heap.size ≤ g ∧ ¬ R g) w vs S ∧ PR (fun g => w0.heap.size ≤ g ∧ ¬ R g) w vl A
  ne : ∀ g, vs.ownBlock = some g → vl.ownBlock ≠ some g
variable {w0 w w' : World} {c size : Nat} {l : Row} {vs vl : Value} {S A : List Pg} {n : Int}
theorem PR.on {Q : Nat → Prop} {v : Value} {S : List Pg} (h : PR Q w v S) (hb : Below w.heap.size w w') : PR Q w' v S := h.kept (F := fun _ => False) (Chg.of_below hb) (fun _ _ h => h.elim)
theorem LS.on (h : LS w0 c size l vs vl S A w) (hb : Below w.heap.size w w') : LS w0 c size l vs vl S A w' := by
  obtain ⟨R, h1, h2, h3, h4⟩ := h.ex
  have := hb.size
  exact ⟨h.bel.trans (hb.mono h.bel.size), ⟨R, h1.on hb, fun k hk => ⟨(h2 k hk).1, by have := (h2 k hk).2; omega⟩, PR.on h3 hb, PR.on h4 hb⟩, h.ne⟩
theorem own_new (w : World) : ((w.alloc (.cells #[] tP))).ownsRow 0 tP 2 (.slice (some ⟨w.heap.size, 0, none⟩) 0 0) 0 [] := ⟨rfl, Or.inr ⟨w.heap.size, 0, #[], rfl, Nat.zero_le _, blk_new w _, Nat.le_refl _, Nat.zero_le _, rfl, rfl⟩⟩
/-- Behind New, and two empty rows. -/
theorem LS.new {w0 w : World} (hb : Below w0.heap.size w0 w) (h : CA (fun k => w0.heap.size ≤ k) w c size []) :
    LS w0 c size [] (.slice (some ⟨w.heap.size, 0, none⟩) 0 0) (.slice (some ⟨w.heap.size + 1, 0, none⟩) 0 0) [] [] ((w.alloc (.cells #[] tP)).alloc (.cells #[] tP)) := by
  have s1 : (w.alloc (.cells #[] tP)).heap.size = w.heap.size + 1 := by simp
  have b1 : Below w.heap.size w (w.alloc (.cells #[] tP)) := (Below.refl _ w).alloc (Nat.le_refl _) _
  have b2 : Below (w.alloc (.cells #[] tP)).heap.size (w.alloc (.cells #[] tP)) ((w.alloc (.cells #[] tP)).alloc (.cells #[] tP)) := (Below.refl _ _).alloc (Nat.le_refl _) _
  have hs := hb.size
  have hca : CA (fun k => w0.heap.size ≤ k ∧ k < w.heap.size) w c size [] := h.mono (fun g hg e => ⟨e, hg⟩)
  have hz : ((w.alloc (.cells #[] tP)).alloc (.cells #[] tP)).heap.size = w.heap.size + 2 := by simp
  have ow2 := own_new (w.alloc (.cells #[] tP))
  rw [s1] at ow2
  refine ⟨(hb.trans (b1.mono hs)).trans (b2.mono (by omega)), ⟨_, (hca.on b1).on b2, fun k hk => ⟨hk.1, by have := hk.2; omega⟩, ⟨Mem.row_kept (own_new w) (Chg.of_below b2 : Chg (fun _ => False) _ _) (fun _ _ h => h.elim), fun g hg => ?_⟩, ⟨ow2, fun g hg => ?_⟩⟩, fun g hg e => ?_⟩
  · have e : w.heap.size = g := by simpa [Value.ownBlock] using hg
    exact ⟨by omega, fun h => by have := h.2; omega⟩
  · have e : w.heap.size + 1 = g := by simpa [Value.ownBlock] using hg
    exact ⟨by omega, fun h => by have := h.2; omega⟩
  · have e1 : w.heap.size = g := by simpa [Value.ownBlock] using hg
    have e2 : w.heap.size + 1 = g := by simpa [Value.ownBlock] using e
    omega
/-- A call that turns the cache alone, what it makes being the cache's. -/
theorem LS.turn {R : Nat → Prop} {l' : Row} (hbel : Below w0.heap.size w0 w) (h2 : ∀ k, R k → w0.heap.size ≤ k ∧ k < w.heap.size) (h3 : PR (fun g => w0.heap.size ≤ g ∧ ¬ R g) w vs S) (h4 : PR (fun g => w0.heap.size ≤ g ∧ ¬ R g) w vl A) (hne : ∀ g, vs.ownBlock = some g → vl.ownBlock ≠ some g)
    (k1 : CA (fun k => R k ∨ w.heap.size ≤ k) w' c size l') (k2 : Chg (fun k => R k ∨ w.heap.size ≤ k) w w') : LS w0 c size l' vs vl S A w' := by
  have hs := hbel.size
  have hz := k2.size
  have hrow : ∀ {v : Value} {T : List Pg}, PR (fun g => w0.heap.size ≤ g ∧ ¬ R g) w v T → PR (fun g => w0.heap.size ≤ g ∧ ¬ (R g ∨ (w.heap.size ≤ g ∧ g < w'.heap.size))) w' v T := fun {v T} hp => by
    have hq := hp.kept k2 (fun g hg e => by
      rcases e with e | e
      · exact (hp.2 g hg).2 e
      · have := (hp.1.lt g hg).2
        omega)
    refine ⟨hq.1, fun g hg => ⟨(hq.2 g hg).1, fun e => ?_⟩⟩
    rcases e with e | e
    · exact (hq.2 g hg).2 e
    · have := (hp.1.lt g hg).2
      omega
  refine ⟨hbel.trans (k2.below hs (fun k hk e => ?_)), ⟨fun k => R k ∨ (w.heap.size ≤ k ∧ k < w'.heap.size), k1.mono (fun g hg e => e.imp_right (fun e => ⟨e, hg⟩)), fun k hk => ?_, hrow h3, hrow h4⟩, hne⟩
  · rcases e with e | e
    · have := (h2 k e).1
      omega
    · omega
  · rcases hk with e | e
    · exact ⟨(h2 k e).1, by have := (h2 k e).2; omega⟩
    · exact ⟨by omega, e.2⟩
theorem LS.put (h : LS w0 c size l vs vl S A w) (hd : (nos l).Nodup) (hl : l.length ≤ 800) (hn : Wf n) {d : Bs} (hf : Fits d) :
    Calls Try.prog 12 #[ptr c, .int .i64 n, .string (bs d), .bool true] w fun e w' => ∃ vp, e = .returned vp ∧ PR (fun g => w.heap.size ≤ g) w' vp (outM size n d true l) ∧ LS w0 c size (putM size n d true l) vs vl S A w' := by
  obtain ⟨R, h1, h2, h3, h4⟩ := h.ex
  refine (put_any (R := fun k => R k ∨ w.heap.size ≤ k) (h1.mono (fun _ _ e => Or.inl e)) hd hl (fun k e => Or.inr e) hn hf true).mono ?_
  rintro e w' ⟨vp, rfl, hp, k1, k2⟩
  exact ⟨vp, rfl, hp, LS.turn h.bel h2 h3 h4 h.ne k1 k2⟩
theorem LS.get (h : LS w0 c size l vs vl S A w) (hd : (nos l).Nodup) (hf : ∀ x ∈ l, Fits x.d) (hn : Wf n) :
    Calls Try.prog 9 #[ptr c, .int .i64 n] w fun e w' => e = .returned (.tuple #[.string (bs (foundM n l).1.d), .bool (foundM n l).2]) ∧ LS w0 c size (getM n l) vs vl S A w' := by
  obtain ⟨R, h1, h2, h3, h4⟩ := h.ex
  refine (get_any (R := fun k => R k ∨ w.heap.size ≤ k) (h1.mono (fun _ _ e => Or.inl e)) hd hf hn).mono ?_
  rintro e w' ⟨rfl, k1, k2⟩
  exact ⟨rfl, LS.turn h.bel h2 h3 h4 h.ne k1 k2⟩
theorem LS.len (h : LS w0 c size l vs vl S A w) : Calls Try.prog 19 #[ptr c] w fun e w' => e = .returned (.int .i64 (l.length : Nat)) ∧ w = w' := by
  obtain ⟨R, h1, -, -, -⟩ := h.ex
  exact len_any h1
theorem LS.dirty (h : LS w0 c size l vs vl S A w) (hd : (nos l).Nodup) (hl : l.length ≤ 900) (hf : ∀ x ∈ l, Fits x.d) :
    Calls Try.prog 20 #[ptr c] w fun e w' => ∃ v, e = .returned v ∧ PR (fun g => w.heap.size ≤ g) w' v (dirtyM l) ∧ LS w0 c size l vs vl S A w' := by
  obtain ⟨R, h1, -, -, -⟩ := h.ex
  refine (dirty_any h1 hd hl hf).mono ?_
  rintro e w' ⟨v, rfl, hp, hb⟩
  exact ⟨v, rfl, hp, h.on hb⟩
/-- store = append(store, out...). -/
theorem LS.more {Q : Nat → Prop} {vo : Value} {O : List Pg} (h : LS w0 c size l vs vl S A w) (ho : PR Q w vo O) (hl : S.length + O.length ≤ 100000) :
    ∃ v' w', (Builtin.append_ #[tPs, tPs] tPs #[vs, vo]).run Try.prog w = .ok v' w' ∧ LS w0 c size l v' vl (S ++ O) A w' := by
  obtain ⟨R, h1, h2, h3, h4⟩ := h.ex
  obtain ⟨i, hi, z0, z1, z2⟩ := pgInfo
  obtain ⟨v', w', hr, hown, hc, hk⟩ := Mem.copy_row tPs tP i _ 2 24 Try.underlying33 hi z0 z1 z2 rfl (by decide) (by decide) h3.1 ho.1 (flat_one pV_one O) (by omega)
  have hs := h.bel.size
  have hz := hc.size
  refine ⟨v', w', hr, ⟨h.bel.trans (hc.below hs (fun k hk e => by have := (h3.2 k e).1; omega)), ⟨R, h1.apart hc (fun k e hR => (h3.2 k e).2 hR), fun k hk => ⟨(h2 k hk).1, by have := (h2 k hk).2; omega⟩, ⟨?_, fun g hg => ?_⟩, h4.kept hc (fun g hg e => h.ne g e hg)⟩, fun g hg e => ?_⟩⟩
  · rw [List.flatMap_append, List.length_append]
    exact hown
  · rcases hk g hg with e | e
    · exact h3.2 g e
    · exact ⟨by omega, fun hR => by have := (h2 g hR).2; omega⟩
  · rcases hk g hg with e2 | e2
    · exact h.ne g e2 e
    · have := (h4.1.lt g e).2
      omega
/-- last = append(last, p). -/
theorem LS.push (h : LS w0 c size l vs vl S A w) (p : Pg) (hl : A.length ≤ 100000) :
    ∃ v' w', (Builtin.append_ #[tPs, tPs] tPs #[vl, .slice (some ⟨w.heap.size, 0, none⟩) 1 1]).run Try.prog (w.alloc (.cells #[.int .i64 p.1, .string (bs p.2)] tP)) = .ok v' w' ∧ LS w0 c size l vs v' S (A ++ [p]) w' := by
  obtain ⟨R, h1, h2, h3, h4⟩ := h.ex
  obtain ⟨v', w', hr, ho, hc, hk⟩ := push_p (R := fun g => w0.heap.size ≤ g ∧ (¬ R g ∨ w.heap.size ≤ g)) ⟨h4.1, fun g hg => ⟨(h4.2 g hg).1, Or.inl (h4.2 g hg).2⟩⟩ (fun k hk => ⟨by have := h.bel.size; omega, Or.inr hk⟩) p hl
  have hs := h.bel.size
  have hz := hc.size
  refine ⟨v', w', hr, ⟨h.bel.trans (hc.below hs (fun k hk e => by have := (h4.2 k e).1; omega)), ⟨R, h1.apart hc (fun k e hR => (h4.2 k e).2 hR), fun k hk => ⟨(h2 k hk).1, by have := (h2 k hk).2; omega⟩, h3.kept hc (fun g hg e => h.ne g hg e), ⟨ho.1, fun g hg => ?_⟩⟩, fun g hg e => ?_⟩⟩
  · rcases hk g hg with e | e
    · exact h4.2 g e
    · exact ⟨by omega, fun hR => by have := (h2 g hR).2; omega⟩
  · rcases hk g e with e2 | e2
    · exact h.ne g hg e2
    · have := (h3.1.lt g hg).2
      omega
theorem LS.store_at (h : LS w0 c size l vs vl S A w) (hS : S.length ≤ 1000000) : PL w vs S := by
  obtain ⟨R, h1, h2, h3, h4⟩ := h.ex
  exact Mem.OwnL.row (t := tP) (enc := pV) pV_len h3.1 (by unfold maxLen; omega)
theorem LS.last_at (h : LS w0 c size l vs vl S A w) (hS : A.length ≤ 1000000) : PL w vl A := by
  obtain ⟨R, h1, h2, h3, h4⟩ := h.ex
  exact Mem.OwnL.row (t := tP) (enc := pV) pV_len h4.1 (by unfold maxLen; omega)
theorem flat_set2 (x : Pg) : ∀ (l : List Pg) (i : Nat), i < l.length → ((l.flatMap pV).set (i * 2) (.int .i64 x.1)).set (i * 2 + 1) (.string (bs x.2)) = (l.set i x).flatMap pV
  | [], i, h => absurd h (Nat.not_lt_zero _)
  | y :: l, 0, h => rfl
  | y :: l, i + 1, h => by
    have ih := flat_set2 x l i (by simpa using h)
    rw [List.flatMap_cons, List.set_cons_succ, List.flatMap_cons, ← ih, List.set_append_right _ _ (by rw [pV_len]; omega), pV_len, List.set_append_right _ _ (by rw [pV_len]; omega), pV_len, show (i + 1) * 2 - 2 = i * 2 by omega, show (i + 1) * 2 + 1 - 2 = i * 2 + 1 by omega]
/-- last[k] = p. -/
theorem LS.set {k : Nat} (h : LS w0 c size l vs vl S A w) (p : Pg) (hk : k < A.length) :
    ∃ g cap, vl = .slice (some ⟨g, 0, none⟩) A.length cap ∧ g < w.heap.size ∧ w.cell? ⟨g, k * 2, none⟩ = some (.int .i64 A[k].1) ∧ w.cell? ⟨g, k * 2 + 1, none⟩ = some (.string (bs A[k].2)) ∧ w.frozen? ⟨g, k * 2, none⟩ = false ∧ w.frozen? ⟨g, k * 2 + 1, none⟩ = false ∧
      LS w0 c size l vs vl S (A.set k p) ((w.setCell ⟨g, k * 2, none⟩ (.int .i64 p.1)).setCell ⟨g, k * 2 + 1, none⟩ (.string (bs p.2))) := by
  obtain ⟨R, h1, h2, h3, h4⟩ := h.ex
  obtain ⟨ao, cap, rfl, hx⟩ := h4.cells
  obtain ⟨g, rfl, hg, x0, x1⟩ := hx k hk
  obtain ⟨cur, hh⟩ := Mem.row_type h4.1 (g := g) rfl
  have hgR := h4.2 g rfl
  have hc : Chg (· = g) w ((w.setCell ⟨g, k * 2, none⟩ (.int .i64 p.1)).setCell ⟨g, k * 2 + 1, none⟩ (.string (bs p.2))) := ((Chg.refl _ w).root _ _).root _ _
  have hs := h.bel.size
  have hz := hc.size
  refine ⟨g, cap, rfl, hg, x0, x1, blk_free hh _, blk_free hh _, ⟨h.bel.trans (hc.below hs (fun j hj e => by have := hgR.1; omega)), ⟨R, h1.apart hc (fun j e hR => hgR.2 (e ▸ hR)), fun j hj => ⟨(h2 j hj).1, by have := (h2 j hj).2; omega⟩, h3.kept hc (fun j hj e => h.ne j hj (by rw [e]; rfl)), ⟨?_, h4.2⟩⟩, h.ne⟩⟩
  have r1 := (h4.1.stored (k * 2) (.int .i64 p.1)).1
  have r2 := (r1.stored (k * 2 + 1) (.string (bs p.2))).1
  rw [flat_set2 p A k hk] at r2
  rw [List.length_set]
  exact r2
/-! ### what the walk's plain part keeps -/
/-- Behind i pages. -/
structure Kept (size : Nat) (l : Row) (S A : List Pg) (i : Nat) : Prop where
  lo : Loses size l S A
  fit : ∀ p ∈ A, FitP p
  sl : S.length ≤ i
  al : A.length ≤ i
theorem reach_fits {d : Bs} (h : d.length ≤ reachBytes) : Fits d := by unfold Fits; unfold reachBytes at h; omega
theorem Kept.fits {size : Nat} {l : Row} {S A : List Pg} {i : Nat} (k : Kept size l S A i) : ∀ x ∈ l, Fits x.d := fun x hx => reach_fits (k.fit _ (k.lo.has x hx)).2
theorem Kept.put {size : Nat} {l : Row} {S A : List Pg} {i : Nat} (k : Kept size l S A i) (h1 : 1 ≤ size) {p : Pg} (hp : FitP p) : Kept size (putM size p.1 p.2 true l) (S ++ outM size p.1 p.2 true l) (lastS p.1 p.2 A) (i + 1) := by
  refine ⟨k.lo.put h1 p.1 p.2, fun q hq => ?_, ?_, Nat.le_trans (lastS_len _ _ _) (Nat.succ_le_succ k.al)⟩
  · rcases mem_lastS.1 hq with rfl | h
    · exact hp
    · exact k.fit q h.1
  · have h2 := put_goes k.lo.ok p.1 p.2 true
    have h3 : (outM size p.1 p.2 true l).length ≤ 1 := by
      unfold outM
      rw [List.length_map]
      refine Nat.le_trans (List.length_filter_le _ _) ?_
      rw [List.length_take]
      omega
    rw [List.length_append]
    have := k.sl
    omega
theorem Kept.get {size : Nat} {l : Row} {S A : List Pg} {i : Nat} (k : Kept size l S A i) (n : Int) : Kept size (getM n l) S A i := ⟨k.lo.get n, k.fit, k.sl, k.al⟩
end Ca
end Go.Proofs.Ythciofgkdfideaa
