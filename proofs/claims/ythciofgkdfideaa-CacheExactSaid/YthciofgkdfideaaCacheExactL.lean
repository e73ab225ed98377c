/-
  What CacheExact's walk carries: the cache and the reference's, apart from one another, and the act's own box beside them.
-/
import Derived.Test.YthciofgkdfideaaCacheAwake
import Derived.Test.YthciofgkdfideaaCacheRefNew
import Derived.Test.YthciofgkdfideaaCacheRefPut
import Derived.Test.YthciofgkdfideaaCacheRefClean
import Derived.Test.YthciofgkdfideaaCacheRefDirty
import Derived.Test.YthciofgkdfideaaCacheSmall
import Derived.Test.YthciofgkdfideaaCacheOpenA
namespace Go.Proofs.Ythciofgkdfideaa
open Go.RowKit
namespace Ca
open Num (hid)
open Mem (Bs bs tI tS Chg Row ptr blk_cell blk_free blk_new blk_set blk_other blk_alloc)
structure ES (w0 : World) (c u size : Nat) (l lu : Row) (w : World) : Prop where
  bel : Below w0.heap.size w0 w
  ex : ∃ R Q : Nat → Prop, CA R w c size l ∧ RU Q w u size lu ∧ (∀ k, R k → w0.heap.size ≤ k ∧ k < w.heap.size ∧ ¬ Q k) ∧ (∀ k, Q k → w0.heap.size ≤ k ∧ k < w.heap.size)
/-- .. and a box beside them. -/
structure EB (w0 : World) (c u size g : Nat) (o : Obj) (l lu : Row) (w : World) : Prop where
  bel : Below w0.heap.size w0 w
  ex : ∃ R Q : Nat → Prop, CA R w c size l ∧ RU Q w u size lu ∧ (∀ k, R k → w0.heap.size ≤ k ∧ k < w.heap.size ∧ ¬ Q k) ∧ (∀ k, Q k → w0.heap.size ≤ k ∧ k < w.heap.size) ∧ ¬ R g ∧ ¬ Q g
  box : w.heap[g]? = some o
variable {w0 w w' : World} {c u size g : Nat} {o : Obj} {l lu l' : Row} {n : Int}
theorem EB.es (h : EB w0 c u size g o l lu w) : ES w0 c u size l lu w := by
  obtain ⟨R, Q, h1, h2, h3, h4, -⟩ := h.ex
  exact ⟨h.bel, R, Q, h1, h2, h3, h4⟩
theorem ES.boxed (h : ES w0 c u size l lu w) (o : Obj) : EB w0 c u size w.heap.size o l lu (w.alloc o) := by
  obtain ⟨R, Q, h1, h2, h3, h4⟩ := h.ex
  have hb : Below w.heap.size w (w.alloc o) := (Below.refl _ w).alloc (Nat.le_refl _) _
  have hs := hb.size
  refine ⟨h.bel.trans (hb.mono h.bel.size), ⟨R, Q, h1.on hb, h2.on hb, fun k hk => ?_, fun k hk => ?_, fun e => ?_, fun e => ?_⟩, blk_new w o⟩
  · obtain ⟨e1, e2, e3⟩ := h3 k hk
    exact ⟨e1, by omega, e3⟩
  · obtain ⟨e1, e2⟩ := h4 k hk
    exact ⟨e1, by omega⟩
  · have := (h3 _ e).2.1
    omega
  · have := (h4 _ e).2
    omega
theorem EB.on (h : EB w0 c u size g o l lu w) (hb : Below w.heap.size w w') : EB w0 c u size g o l lu w' := by
  obtain ⟨R, Q, h1, h2, h3, h4, h5, h6⟩ := h.ex
  have hs := hb.size
  refine ⟨h.bel.trans (hb.mono h.bel.size), ⟨R, Q, h1.on hb, h2.on hb, fun k hk => ?_, fun k hk => ?_, h5, h6⟩, (hb.block g (lt_of_block h.box)).trans h.box⟩
  · obtain ⟨e1, e2, e3⟩ := h3 k hk
    exact ⟨e1, by omega, e3⟩
  · obtain ⟨e1, e2⟩ := h4 k hk
    exact ⟨e1, by omega⟩
theorem ES.on (h : ES w0 c u size l lu w) (hb : Below w.heap.size w w') : ES w0 c u size l lu w' := by
  obtain ⟨R, Q, h1, h2, h3, h4⟩ := h.ex
  have hs := hb.size
  refine ⟨h.bel.trans (hb.mono h.bel.size), ⟨R, Q, h1.on hb, h2.on hb, fun k hk => ?_, fun k hk => ?_⟩⟩
  · obtain ⟨e1, e2, e3⟩ := h3 k hk
    exact ⟨e1, by omega, e3⟩
  · obtain ⟨e1, e2⟩ := h4 k hk
    exact ⟨e1, by omega⟩
/-- The cache has turned. -/
theorem EB.cturn {R Q : Nat → Prop} (hbel : Below w0.heap.size w0 w) (h2 : RU Q w u size lu) (h3 : ∀ k, R k → w0.heap.size ≤ k ∧ k < w.heap.size ∧ ¬ Q k) (h4 : ∀ k, Q k → w0.heap.size ≤ k ∧ k < w.heap.size) (h5 : ¬ R g) (h6 : ¬ Q g) (hbox : w.heap[g]? = some o)
    (k1 : CA (fun k => R k ∨ w.heap.size ≤ k) w' c size l') (k2 : Chg (fun k => R k ∨ w.heap.size ≤ k) w w') : EB w0 c u size g o l' lu w' := by
  have hs := hbel.size
  have hz := k2.size
  have hg := lt_of_block hbox
  refine ⟨hbel.trans (k2.below hs (fun k hk e => ?_)), ⟨fun k => R k ∨ (w.heap.size ≤ k ∧ k < w'.heap.size), Q, k1.mono (fun j hj e => e.imp_right (fun e => ⟨e, hj⟩)), h2.apart k2 (fun k hk e => ?_), fun k hk => ?_, fun k hk => ?_, fun e => ?_, h6⟩, k2.at hbox (fun e => ?_)⟩
  · rcases e with e | e
    · have := (h3 k e).1; omega
    · omega
  · rcases hk with hk | hk
    · exact (h3 k hk).2.2 e
    · have := (h4 k e).2; omega
  · rcases hk with hk | hk
    · obtain ⟨e1, e2, e3⟩ := h3 k hk
      exact ⟨e1, by omega, e3⟩
    · exact ⟨by omega, hk.2, fun e => by have := (h4 k e).2; omega⟩
  · obtain ⟨e1, e2⟩ := h4 k hk
    exact ⟨e1, by omega⟩
  · rcases e with e | e
    · exact h5 e
    · omega
  · rcases e with e | e
    · exact h5 e
    · omega
/-- The reference's has turned. -/
theorem EB.uturn {R Q : Nat → Prop} {lu' : Row} (hbel : Below w0.heap.size w0 w) (h1 : CA R w c size l) (hu : Q u) (h3 : ∀ k, R k → w0.heap.size ≤ k ∧ k < w.heap.size ∧ ¬ Q k) (h4 : ∀ k, Q k → w0.heap.size ≤ k ∧ k < w.heap.size) (h5 : ¬ R g) (h6 : ¬ Q g) (hbox : w.heap[g]? = some o)
    (k1 : RU (fun k => Q k ∨ w.heap.size ≤ k) w' u size lu') (k2 : Chg (· = u) w w') : EB w0 c u size g o l lu' w' := by
  have hs := hbel.size
  have hz := k2.size
  have hg := lt_of_block hbox
  refine ⟨hbel.trans (k2.below hs (fun k hk e => by have := (h4 u hu).1; omega)), ⟨R, fun k => Q k ∨ (w.heap.size ≤ k ∧ k < w'.heap.size), h1.apart k2 (fun k hk e => (h3 k e).2.2 (hk ▸ hu)), k1.mono (fun j hj e => e.imp_right (fun e => ⟨e, hj⟩)), fun k hk => ?_, fun k hk => ?_, h5, fun e => ?_⟩, k2.at hbox (fun e => h6 (e ▸ hu))⟩
  · obtain ⟨e1, e2, e3⟩ := h3 k hk
    exact ⟨e1, by omega, fun e => by
      rcases e with e | e
      · exact e3 e
      · omega⟩
  · rcases hk with hk | hk
    · obtain ⟨e1, e2⟩ := h4 k hk
      exact ⟨e1, by omega⟩
    · exact ⟨by omega, hk.2⟩
  · rcases e with e | e
    · exact h6 e
    · omega
theorem EB.cput (h : EB w0 c u size g o l lu w) (hd : (nos l).Nodup) (hl : l.length ≤ 800) (hn : Wf n) {d : Bs} (hf : Fits d) (dt : Bool) :
    Calls Try.prog 12 #[ptr c, .int .i64 n, .string (bs d), .bool dt] w fun e w' => ∃ vp, e = .returned vp ∧ PR (fun g => w.heap.size ≤ g) w' vp (outM size n d dt l) ∧ EB w0 c u size g o (putM size n d dt l) lu w' := by
  obtain ⟨R, Q, h1, h2, h3, h4, h5, h6⟩ := h.ex
  refine (put_any (R := fun k => R k ∨ w.heap.size ≤ k) (h1.mono (fun _ _ e => Or.inl e)) hd hl (fun k e => Or.inr e) hn hf dt).mono ?_
  rintro e w' ⟨vp, rfl, hp, k1, k2⟩
  exact ⟨vp, rfl, hp, EB.cturn h.bel h2 h3 h4 h5 h6 h.box k1 k2⟩
theorem EB.uput (h : EB w0 c u size g o l lu w) (hd : (nos lu).Nodup) (hl : lu.length ≤ 800) (n : Int) (d : Bs) (dt : Bool) :
    Calls Try.prog 13 #[ptr u, .int .i64 n, .string (bs d), .bool dt] w fun e w' => ∃ vp, e = .returned vp ∧ PR (fun g => w.heap.size ≤ g) w' vp (outM size n d dt lu) ∧ EB w0 c u size g o l (putM size n d dt lu) w' ∧ Chg (· = u) w w' ∧ u < w.heap.size := by
  obtain ⟨R, Q, h1, h2, h3, h4, h5, h6⟩ := h.ex
  have hlt := h2.lt
  refine (rput_any (R := fun k => Q k ∨ w.heap.size ≤ k) (h2.mono (fun _ _ e => Or.inl e)) hd (by omega) (fun k e => Or.inr e) n d dt).mono ?_
  rintro e w' ⟨vp, rfl, hp, k1, k2⟩
  exact ⟨vp, rfl, hp, EB.uturn h.bel h1 h2.own h3 h4 h5 h6 h.box k1 k2, k2, hlt⟩
theorem EB.cget (h : EB w0 c u size g o l lu w) (hd : (nos l).Nodup) (hf : ∀ x ∈ l, Fits x.d) (hn : Wf n) :
    Calls Try.prog 9 #[ptr c, .int .i64 n] w fun e w' => e = .returned (.tuple #[.string (bs (foundM n l).1.d), .bool (foundM n l).2]) ∧ EB w0 c u size g o (getM n l) lu w' := by
  obtain ⟨R, Q, h1, h2, h3, h4, h5, h6⟩ := h.ex
  refine (get_any (R := fun k => R k ∨ w.heap.size ≤ k) (h1.mono (fun _ _ e => Or.inl e)) hd hf hn).mono ?_
  rintro e w' ⟨rfl, k1, k2⟩
  exact ⟨rfl, EB.cturn h.bel h2 h3 h4 h5 h6 h.box k1 k2⟩
theorem EB.uget (h : EB w0 c u size g o l lu w) (hd : (nos lu).Nodup) (hl : lu.length ≤ 800) (n : Int) :
    Calls Try.prog 10 #[ptr u, .int .i64 n] w fun e w' => e = .returned (.tuple #[.string (bs (foundM n lu).1.d), .bool (foundM n lu).2]) ∧ EB w0 c u size g o l (getM n lu) w' := by
  obtain ⟨R, Q, h1, h2, h3, h4, h5, h6⟩ := h.ex
  refine (rget_any (R := fun k => Q k ∨ w.heap.size ≤ k) (h2.mono (fun _ _ e => Or.inl e)) hd (by omega) (fun k e => Or.inr e) n).mono ?_
  rintro e w' ⟨rfl, k1, k2⟩
  exact ⟨rfl, EB.uturn h.bel h1 h2.own h3 h4 h5 h6 h.box k1 k2⟩
theorem EB.cclean (h : EB w0 c u size g o l lu w) (hd : (nos l).Nodup) (hn : Wf n) :
    Calls Try.prog 14 #[ptr c, .int .i64 n] w fun e w' => e = .returned (.tuple #[]) ∧ EB w0 c u size g o (cleanM n l) lu w' := by
  obtain ⟨R, Q, h1, h2, h3, h4, h5, h6⟩ := h.ex
  refine (clean_any (R := fun k => R k ∨ w.heap.size ≤ k) (h1.mono (fun _ _ e => Or.inl e)) hd hn).mono ?_
  rintro e w' ⟨rfl, k1, k2⟩
  exact ⟨rfl, EB.cturn h.bel h2 h3 h4 h5 h6 h.box k1 k2⟩
theorem EB.uclean (h : EB w0 c u size g o l lu w) (hl : lu.length ≤ 800) (n : Int) :
    Calls Try.prog 15 #[ptr u, .int .i64 n] w fun e w' => e = .returned (.tuple #[]) ∧ EB w0 c u size g o l (cleanM n lu) w' := by
  obtain ⟨R, Q, h1, h2, h3, h4, h5, h6⟩ := h.ex
  refine (rclean_any (R := fun k => Q k ∨ w.heap.size ≤ k) (h2.mono (fun _ _ e => Or.inl e)) (by omega) (fun k e => Or.inr e) n).mono ?_
  rintro e w' ⟨rfl, k1, k2⟩
  exact ⟨rfl, EB.uturn h.bel h1 h2.own h3 h4 h5 h6 h.box k1 k2⟩
theorem EB.cforget (h : EB w0 c u size g o l lu w) (hd : (nos l).Nodup) (hn : Wf n) :
    Calls Try.prog 16 #[ptr c, .int .i64 n] w fun e w' => e = .returned (.tuple #[]) ∧ EB w0 c u size g o (wo n l) lu w' := by
  obtain ⟨R, Q, h1, h2, h3, h4, h5, h6⟩ := h.ex
  refine (forget_any (R := fun k => R k ∨ w.heap.size ≤ k) (h1.mono (fun _ _ e => Or.inl e)) hd hn).mono ?_
  rintro e w' ⟨rfl, k1, k2⟩
  exact ⟨rfl, EB.cturn h.bel h2 h3 h4 h5 h6 h.box k1 k2⟩
theorem EB.uforget (h : EB w0 c u size g o l lu w) (hd : (nos lu).Nodup) (hl : lu.length ≤ 800) (n : Int) :
    Calls Try.prog 17 #[ptr u, .int .i64 n] w fun e w' => e = .returned (.tuple #[]) ∧ EB w0 c u size g o l (wo n lu) w' := by
  obtain ⟨R, Q, h1, h2, h3, h4, h5, h6⟩ := h.ex
  refine (rforget_any (R := fun k => Q k ∨ w.heap.size ≤ k) (h2.mono (fun _ _ e => Or.inl e)) hd (by omega) (fun k e => Or.inr e) n).mono ?_
  rintro e w' ⟨rfl, k1, k2⟩
  exact ⟨rfl, EB.uturn h.bel h1 h2.own h3 h4 h5 h6 h.box k1 k2⟩
theorem EB.cclear (h : EB w0 c u size g o l lu w) :
    Calls Try.prog 18 #[ptr c] w fun e w' => e = .returned (.tuple #[]) ∧ EB w0 c u size g o [] lu w' := by
  obtain ⟨R, Q, h1, h2, h3, h4, h5, h6⟩ := h.ex
  refine (clear_any (R := fun k => R k ∨ w.heap.size ≤ k) (h1.mono (fun _ _ e => Or.inl e)) (fun k e => Or.inr e)).mono ?_
  rintro e w' ⟨rfl, k1, k2⟩
  exact ⟨rfl, EB.cturn h.bel h2 h3 h4 h5 h6 h.box k1 k2⟩
theorem EB.uclear (h : EB w0 c u size g o l lu w) : EB w0 c u size g o l [] (w.setCell ⟨u, 1, none⟩ (.slice none 0 0)) ∧ ∃ v, w.cell? ⟨u, 1, none⟩ = some v ∧ w.frozen? ⟨u, 1, none⟩ = false ∧ u < w.heap.size := by
  obtain ⟨R, Q, h1, h2, h3, h4, h5, h6⟩ := h.ex
  obtain ⟨v, -, c1, f1, lt⟩ := h2.cells
  obtain ⟨k1, k2⟩ := (h2.mono (fun _ _ e => (Or.inl e : Q _ ∨ w.heap.size ≤ _))).turn (LR.nil _ w)
  exact ⟨EB.uturn h.bel h1 h2.own h3 h4 h5 h6 h.box k1 k2, v, c1, f1, lt⟩
theorem ES.clen (h : ES w0 c u size l lu w) : Calls Try.prog 19 #[ptr c] w fun e w' => e = .returned (.int .i64 (l.length : Nat)) ∧ w = w' := by
  obtain ⟨R, Q, h1, -⟩ := h.ex
  exact len_any h1
theorem ES.ulen (h : ES w0 c u size l lu w) : ∃ ao cap, w.cell? ⟨u, 1, none⟩ = some (.slice ao lu.length cap) ∧ u < w.heap.size := by
  obtain ⟨R, Q, -, h2, -⟩ := h.ex
  obtain ⟨v, h3, h4⟩ := h2.box
  obtain ⟨ao, cap, rfl, -⟩ := h4.ways
  exact ⟨ao, cap, blk_cell h3 1, lt_of_block h3⟩
theorem ES.cdirty (h : ES w0 c u size l lu w) (hd : (nos l).Nodup) (hl : l.length ≤ 800) (hf : ∀ x ∈ l, Fits x.d) :
    Calls Try.prog 20 #[ptr c] w fun e w' => ∃ v, e = .returned v ∧ PL w' v (dirtyM l) ∧ Below w.heap.size w w' := by
  obtain ⟨R, Q, h1, -⟩ := h.ex
  refine (dirty_any h1 hd (by omega) hf).mono ?_
  rintro e w' ⟨v, rfl, hp, hb⟩
  have hdl : (dirtyM l).length ≤ 800 := Nat.le_trans (dirty_len l) hl
  exact ⟨v, rfl, Mem.OwnL.row (t := tP) (enc := pV) pV_len hp.1 (by unfold maxLen; omega), hb⟩
theorem ES.udirty (h : ES w0 c u size l lu w) (hl : lu.length ≤ 800) :
    Calls Try.prog 21 #[ptr u] w fun e w' => ∃ v, e = .returned v ∧ PL w' v (dirtyM lu) ∧ Below w.heap.size w w' := by
  obtain ⟨R, Q, -, h2, -⟩ := h.ex
  refine (rdirty_any h2 (by omega)).mono ?_
  rintro e w' ⟨v, rfl, hp, hb⟩
  have hdl : (dirtyM lu).length ≤ 800 := Nat.le_trans (dirty_len lu) hl
  exact ⟨v, rfl, Mem.OwnL.row (t := tP) (enc := pV) pV_len hp.1 (by unfold maxLen; omega), hb⟩
theorem same_yes {v x : Value} {m : List Pg} (h : PL w v m) (k : PL w x m) : Calls Try.prog 11 #[v, x] w fun e w' => e = .returned (.bool true) ∧ Below w.heap.size w w' := by
  have := same_any h k
  rwa [decide_eq_true rfl] at this
theorem ES.new {w1 w2 w3 : World} (hb1 : Below w0.heap.size w0 w1) (hc : CA (fun k => w1.heap.size ≤ k) w2 c size []) (hb2 : Below w1.heap.size w1 w2) (hu : RU (fun k => w2.heap.size ≤ k) w3 w2.heap.size size []) (hb3 : Below w2.heap.size w2 w3) : ES w0 c w2.heap.size size [] [] w3 := by
  have s1 := hb1.size
  have s2 := hb2.size
  refine ⟨(hb1.trans (hb2.mono s1)).trans (hb3.mono (by omega)), fun k => w1.heap.size ≤ k ∧ k < w2.heap.size, fun k => w2.heap.size ≤ k ∧ k < w3.heap.size, (hc.mono (fun g hg e => ⟨e, hg⟩)).on hb3, hu.mono (fun g hg e => ⟨e, hg⟩), fun k hk => ?_, fun k hk => ?_⟩
  · have := hb3.size
    exact ⟨by omega, by omega, fun e => by omega⟩
  · exact ⟨by omega, hk.2⟩
end Ca
end Go.Proofs.Ythciofgkdfideaa
