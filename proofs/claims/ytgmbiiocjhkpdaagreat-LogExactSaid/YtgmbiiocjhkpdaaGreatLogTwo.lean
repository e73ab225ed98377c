/-
  The project's log and the reference's, one beside the other: calls of the one, calls of the other.
-/
import Derived.Test.YtgmbiiocjhkpdaaGreatGrpLgD
import Derived.Test.YtgmbiiocjhkpdaaGreatLogROpen
import Derived.Test.YtgmbiiocjhkpdaaGreatGrpLgR
namespace Go.Proofs.YtgmbiiocjhkpdaaGreat
open Go.RowKit Go.Shelf
namespace Lt
open Lo
open Num (hid)
open Disk (Mod Fil Sees Stays)
open Mem (Bs bs LAt tI ptr blk_cell blk_free blk_new blk_set blk_other blk_alloc row_kept row_shape row_type)
open Ref (Refs RQ)
open Lr (RL lgX)
variable {O R R0 : Nat → Prop} {d m r j b c : Nat} {f v u : Value} {M M' U U' : Mod} {fs fs' : List Fr} {l l' : Lg} {w0 w w' : World}
theorem refs_lt {R : Nat → Prop} (h : Refs R r M w) : R r ∧ r < w.heap.size := by
  obtain ⟨v, E, a, k, m, D, -⟩ := h
  exact ⟨D.own, lt_of_block D.blk⟩
/-- The project's disk and the reference's, the reference's blocks R apart from the project's. -/
structure TD (w0 : World) (O R : Nat → Prop) (d m r : Nat) (M U : Mod) (w : World) : Prop where
  sees : Sees O d m M w
  refs : Refs R r U w
  sub : ∀ k, R k → O k
  low : ∀ k, R k → w0.heap.size ≤ k
  old : ∀ k, k < w0.heap.size → O k
  below : Below w0.heap.size w0 w
  good : Ref.Good U
theorem sees_lt (h : Sees O d m M w) {k : Nat} (hk : O k) : k < w.heap.size := by
  obtain ⟨tag, L, D, hL, hN, hs⟩ := h
  exact hs k hk
theorem TD.on (h : TD w0 O R d m r M U w) (hb : Below w.heap.size w w') : TD w0 O R d m r M U w' :=
  ⟨h.sees.kept hb, h.refs.apart (F := fun _ => False) (Disk.Chg.of_below hb) (fun _ x => x.elim), h.sub, h.low, h.old, h.below.trans (hb.mono h.below.size), h.good⟩
/-- Behind the project's call. -/
theorem TD.own (h : TD w0 O R d m r M U w) (hs : Sees O d m M' w') (hst : Stays O w w') : TD w0 O R d m r M' U w' :=
  ⟨hs, h.refs.apart hst (fun k hk hR => hk (h.sub k hR)), h.sub, h.low, h.old, h.below.trans (Disk.Chg.below hst h.below.size (fun k hk hx => hx (h.old k hk))), h.good⟩
/-- What the reference's call wants. -/
theorem TD.start (h : TD w0 O R d m r M U w) : RQ R (fun _ => False) r U w w := RQ.start h.refs (fun k hk => ⟨fun x => x, sees_lt h.sees (h.sub k hk), hk⟩) h.good
/-- Behind the reference's call. -/
theorem TD.ref {X : Nat → Prop} (h : TD w0 O R d m r M U w) (hr : RQ R X r U' w w') : ∃ R', TD w0 (fun k => O k ∨ (w.heap.size ≤ k ∧ k < w'.heap.size)) R' d m r M U' w' := by
  obtain ⟨⟨R', h1, h2⟩, hg, hc⟩ := hr
  have hz := h.below.size
  refine ⟨R', ⟨sees_beside h.sees (toMem' hc) (fun k hk _ => h.sub k hk), h1, fun k hk => ?_, fun k hk => ?_, fun k hk => Or.inl (h.old k hk), h.below.trans (Disk.Chg.below hc hz (fun k hk hx => by have := h.low k hx; omega)), hg⟩⟩
  · rcases (h2 k hk).2.2 with e | e
    · exact Or.inl (h.sub k e)
    · exact Or.inr ⟨e, (h2 k hk).2.1⟩
  · rcases (h2 k hk).2.2 with e | e
    · exact h.low k e
    · omega
def Two (w0 : World) (d m r : Nat) (M U : Mod) (w : World) : Prop := ∃ O R, TD w0 O R d m r M U w
theorem two_new {w1 w2 w3 : World} {n : Int} (hb : Below w0.heap.size w0 w1) (h2 : Sees (Bl w1.heap.size) d m (Mod.new n) w2) (hb2 : Below w1.heap.size w1 w2) (h3 : Refs (fun k => k = w2.heap.size) w2.heap.size (Mod.new n) w3) (hb3 : Below w2.heap.size w2 w3) (hg : Ref.Good (Mod.new n)) :
    Two w0 d m w2.heap.size (Mod.new n) (Mod.new n) w3 := by
  have z1 := hb.size
  have z2 := hb2.size
  have hlt := (refs_lt h3).2
  refine ⟨_, _, ⟨sees_beside h2 (F := fun _ => False) (Mem.Chg.of_below hb3) (fun _ x => x.elim), h3, fun k hk => ?_, fun k hk => ?_, fun k hk => Or.inl (by show k < w1.heap.size; omega), (hb.trans (hb2.mono z1)).trans (hb3.mono (Nat.le_trans z1 z2)), hg⟩⟩
  · subst hk
    exact Or.inr ⟨Nat.le_refl _, hlt⟩
  · subst hk
    omega
/-- Both logs. -/
structure TL (w0 : World) (O R : Nat → Prop) (d m r j b c : Nat) (f v u : Value) (M U : Mod) (fs : List Fr) (l : Lg) (w : World) : Prop where
  pl : PL O d m j b f M fs w
  rl : RL R r c U l w v u w
  sub : ∀ k, R k → O k
  low : ∀ k, R k → w0.heap.size ≤ k
  old : ∀ k, k < w0.heap.size → O k
  below : Below w0.heap.size w0 w
/-- The reference's log, begun anew at this world: which blocks are its own. -/
theorem rl_again (h : RL R0 r c U l w0 v u w) : ∃ R1, RL R1 r c U l w v u w ∧ ∀ k, R1 k → (R0 k ∨ w0.heap.size ≤ k) ∧ k < w.heap.size := by
  obtain ⟨⟨R', h1, h2⟩, hg, hc⟩ := h.q
  refine ⟨fun k => R' k ∨ lgX c v u k, ⟨RQ.mk ⟨R', h1, fun k hk => ⟨(h2 k hk).1, (h2 k hk).2.1, Or.inl (Or.inl hk)⟩⟩ hg (Disk.Chg.refl _ _), h.box, h.rowN, h.rowS, h.nb, h.nu, h.ne, fun k hk => Or.inl (Or.inr hk), h.few⟩, ?_⟩
  rintro k (hk | hk)
  · exact ⟨(h2 k hk).2.2, (h2 k hk).2.1⟩
  · exact ⟨h.own k hk, h.hX k hk⟩
/-- .. where other blocks turn. -/
theorem rl_other {F : Nat → Prop} (h : RL R r c U l w v u w) (hc : Disk.Chg F w w') (hF : ∀ k, R k → ¬ F k) : RL R r c U l w' v u w' := by
  obtain ⟨⟨R', h1, h2⟩, hg, -⟩ := h.q
  have hR : ∀ k, R' k → R k := fun k hk => by
    rcases (h2 k hk).2.2 with e | e
    · exact e
    · have := (h2 k hk).2.1; omega
  have hX : ∀ k, lgX c v u k → R k := fun k hk => by
    rcases h.own k hk with e | e
    · exact e
    · have := h.hX k hk; omega
  refine ⟨RQ.mk ⟨R', h1.apart hc (fun k hk hR' => hF k (hR k hR') hk), fun k hk => ⟨(h2 k hk).1, Nat.lt_of_lt_of_le (h2 k hk).2.1 hc.size, Or.inl (hR k hk)⟩⟩ hg (Disk.Chg.refl _ _), hc.at h.box (hF c (hX c (Or.inl rfl))), row_kept h.rowN (toMem' hc) (fun g hg' => hF g (hX g (Or.inr (Or.inl hg')))), row_kept h.rowS (toMem' hc) (fun g hg' => hF g (hX g (Or.inr (Or.inr hg')))), h.nb, h.nu, h.ne, fun k hk => Or.inl (hX k hk), h.few⟩
theorem TL.on (h : TL w0 O R d m r j b c f v u M U fs l w) (hb : Below w.heap.size w w') : TL w0 O R d m r j b c f v u M U fs l w' :=
  ⟨h.pl.on hb, rl_other h.rl (F := fun _ => False) (Disk.Chg.of_below hb) (fun _ _ x => x), h.sub, h.low, h.old, h.below.trans (hb.mono h.below.size)⟩
/-- Behind the project's call. -/
theorem TL.own {f' : Value} (h : TL w0 O R d m r j b c f v u M U fs l w) (hp : PL O d m j b f' M' fs' w') (hs : Stays O w w') : TL w0 O R d m r j b c f' v u M' U fs' l w' :=
  ⟨hp, rl_other h.rl hs (fun k hk hx => hx (h.sub k hk)), h.sub, h.low, h.old, h.below.trans (Disk.Chg.below hs h.below.size (fun k hk hx => hx (h.old k hk)))⟩
/-- Behind the reference's call. -/
theorem TL.ref {c' : Nat} {v' u' : Value} (h : TL w0 O R d m r j b c f v u M U fs l w) (hr : RL R r c' U' l' w v' u' w') : ∃ O' R', TL w0 O' R' d m r j b c' f v' u' M U' fs l' w' ∧ (∀ k, O k → O' k) ∧ ∀ k, R' k → R k ∨ w.heap.size ≤ k := by
  have hc := hr.q.chg
  have hz := h.below.size
  obtain ⟨R1, h1, h2⟩ := rl_again hr
  refine ⟨_, R1, ⟨h.pl.side (F := R) (toMem' hc) (fun k hk _ => h.sub k hk), h1, fun k hk => ?_, fun k hk => ?_, fun k hk => Or.inl (h.old k hk), h.below.trans (Disk.Chg.below hc hz (fun k hk hx => by have := h.low k hx; omega))⟩, fun k hk => Or.inl hk, fun k hk => (h2 k hk).1⟩
  · rcases (h2 k hk).1 with e | e
    · exact Or.inl (h.sub k e)
    · exact Or.inr ⟨e, (h2 k hk).2⟩
  · rcases (h2 k hk).1 with e | e
    · exact h.low k e
    · omega
/-- The disks of two logs. -/
theorem TL.disks (h : TL w0 O R d m r j b c f v u M U fs l w) : TD w0 O R d m r M U w := by
  obtain ⟨⟨R', h1, h2⟩, hg, -⟩ := h.rl.q
  exact ⟨h.pl.seen, h1.mono (fun k hlt hk => by rcases (h2 k hk).2.2 with e | e; exact e; omega), h.sub, h.low, h.old, h.below, hg⟩
def Logs (w0 : World) (d m r j c : Nat) (M U : Mod) (fs : List Fr) (l : Lg) (w : World) : Prop := ∃ O R b f v u, TL w0 O R d m r j b c f v u M U fs l w
theorem Logs.on (h : Logs w0 d m r j c M U fs l w) (hb : Below w.heap.size w w') : Logs w0 d m r j c M U fs l w' := by
  obtain ⟨O, R, b, f, v, u, h⟩ := h
  exact ⟨O, R, b, f, v, u, h.on hb⟩
theorem Logs.below (h : Logs w0 d m r j c M U fs l w) : Below w0.heap.size w0 w := by
  obtain ⟨O, R, b, f, v, u, h⟩ := h
  exact h.below
theorem two_load (h : Two w0 d m r M U w) (x : ByteArray) (hl : x.size ≤ maxLen) :
    Calls Tryz.prog 43 #[ptr d, .string lS, .string x] w fun e w' => e = .returned (.int .i64 (M.load ln x.data.toList).1) ∧ Two w0 d m r (M.load ln x.data.toList).2 U w' := by
  obtain ⟨O, R, h⟩ := h
  refine (Disk.load_sees h.sees lS (by decide) x hl).mono ?_
  rintro e w' ⟨rfl, h1, h2⟩
  exact ⟨rfl, O, R, h.own h1 h2⟩
theorem two_rload (h : Two w0 d m r M U w) (x : ByteArray) (hl : x.size ≤ maxLen) :
    Calls Tryz.prog 44 #[ptr r, .string lS, .string x] w fun e w' => e = .returned (.int .i64 (U.load ln x.data.toList).1) ∧ Two w0 d m r M (U.load ln x.data.toList).2 w' := by
  obtain ⟨O, R, h⟩ := h
  refine (Ref.q_load h.start (fun _ x => x.elim) lS (by decide) x hl).mono ?_
  rintro e w' ⟨rfl, h1, -⟩
  obtain ⟨R', h2⟩ := h.ref h1
  exact ⟨rfl, _, R', h2⟩
/-- The project's log, the reference's disk. -/
structure TM (w0 : World) (O R : Nat → Prop) (d m r j b : Nat) (f : Value) (M U : Mod) (fs : List Fr) (w : World) : Prop where
  pl : PL O d m j b f M fs w
  refs : Refs R r U w
  sub : ∀ k, R k → O k
  low : ∀ k, R k → w0.heap.size ≤ k
  old : ∀ k, k < w0.heap.size → O k
  below : Below w0.heap.size w0 w
  good : Ref.Good U
def Half (w0 : World) (d m r j : Nat) (M U : Mod) (fs : List Fr) (w : World) : Prop := ∃ O R b f, TM w0 O R d m r j b f M U fs w
/-- Open, the project's, where it succeeds. -/
theorem two_open (h : Two w0 d m r M U w) {M1 : Mod} {fs : List Fr} (he : openP M = (0, some fs, M1)) :
    Calls Tryz.prog 10 #[ptr d] w fun e w' => ∃ j, e = .returned (.tuple #[ptr j, .int .i64 0]) ∧ Half w0 d m r j M1 U fs w' := by
  obtain ⟨O, R, h⟩ := h
  have ho := open_any_ h.sees
  rw [he] at ho
  refine ho.mono ?_
  rintro e w' ⟨_, j, b, f, rfl, hp, hs⟩
  exact ⟨j, rfl, O, R, b, f, hp, h.refs.apart hs (fun k hk hR => hk (h.sub k hR)), h.sub, h.low, h.old, h.below.trans (Disk.Chg.below hs h.below.size (fun k hk hx => hx (h.old k hk))), h.good⟩
/-- Open, the reference's. -/
theorem half_ropen (h : Half w0 d m r j M U fs w) {U1 : Mod} {l : Lg} (he : openM U = (0, some l, U1)) :
    Calls Tryz.prog 11 #[ptr r] w fun e w' => ∃ c, e = .returned (.tuple #[ptr c, .int .i64 0]) ∧ Logs w0 d m r j c M U1 fs l w' := by
  obtain ⟨O, R, b, f, h⟩ := h
  have hlt : ∀ k, R k → k < w.heap.size := fun k hk => h.pl.olt (h.sub k hk)
  have ho := Lr.ropen_log (RQ.start h.refs (fun k hk => ⟨fun x => (x : False), hlt k hk, hk⟩) h.good)
  rw [he] at ho
  refine ho.mono ?_
  rintro e w' ⟨c, v, u, rfl, hc, hrl⟩
  have hch := hrl.q.chg
  have hz := h.below.size
  obtain ⟨R1, h1, h2⟩ := rl_again hrl
  refine ⟨c, rfl, _, R1, b, f, v, u, ⟨h.pl.side (F := R) (toMem' hch) (fun k hk _ => h.sub k hk), h1, fun k hk => ?_, fun k hk => ?_, fun k hk => Or.inl (h.old k hk), h.below.trans (Disk.Chg.below hch hz (fun k hk hx => by have := h.low k hx; omega))⟩⟩
  · rcases (h2 k hk).1 with e | e
    · exact Or.inl (h.sub k e)
    · exact Or.inr ⟨e, (h2 k hk).2⟩
  · rcases (h2 k hk).1 with e | e
    · exact h.low k e
    · omega
theorem lg_size (h : Logs w0 d m r j c M U fs l w) : Calls Tryz.prog 38 #[ptr d, .string lS] w fun e w' => e = .returned (.int .i64 (M.size ln)) ∧ w = w' := by
  obtain ⟨O, R, b, f, v, u, h⟩ := h
  exact h.pl.size_
theorem lg_rsize (h : Logs w0 d m r j c M U fs l w) : Calls Tryz.prog 39 #[ptr r, .string lS] w fun e w' => e = .returned (.int .i64 (U.size ln)) ∧ w = w' := by
  obtain ⟨O, R, b, f, v, u, h⟩ := h
  exact h.rl.size
theorem lg_len (h : Logs w0 d m r j c M U fs l w) : Calls Tryz.prog 29 #[ptr j] w fun e w' => e = .returned (.int .i64 (fs.length : Nat)) ∧ w = w' := by
  obtain ⟨O, R, b, f, v, u, h⟩ := h
  exact len_any h.pl
theorem lg_rlen (h : Logs w0 d m r j c M U fs l w) : Calls Tryz.prog 30 #[ptr c] w fun e w' => e = .returned (.int .i64 (l.ns.length : Nat)) ∧ w = w' := by
  obtain ⟨O, R, b, f, v, u, h⟩ := h
  exact Lr.rlen_any h.rl
/-- A row of numbers, as it is read. -/
def NR (w : World) (v : Value) (q : List Nat) : Prop := ∃ ao cap, v = .slice ao q.length cap ∧ ∀ j (hj : j < q.length), ∃ g, ao = some ⟨g, 0, none⟩ ∧ (j : Int) < (cap : Int) ∧ g < w.heap.size ∧ w.cell? ⟨g, j, none⟩ = some (.int .i64 (q[j] : Nat))
theorem NR.on {q : List Nat} {v : Value} (h : NR w v q) (hb : Below w.heap.size w w') : NR w' v q := by
  obtain ⟨ao, cap, e, hx⟩ := h
  refine ⟨ao, cap, e, fun j hj => ?_⟩
  obtain ⟨g, e1, e2, e3, e4⟩ := hx j hj
  exact ⟨g, e1, e2, Nat.lt_of_lt_of_le e3 hb.size, (hb.cell (p := ⟨g, j, none⟩) e3).trans e4⟩
theorem nr_of {base : Nat} {q : List Nat} {v : Value} (h : w.ownsRow base tI 1 v q.length (q.map fun n : Nat => Value.int .i64 (n : Int))) : NR w v q := by
  by_cases hq : 0 < q.length
  · obtain ⟨g, cap, e, hc, hg, hx⟩ := int_at h hq
    exact ⟨_, cap, e, fun j hj => ⟨g, rfl, by omega, hg, hx j hj⟩⟩
  · obtain ⟨ao, cap, e, -⟩ := row_shape (row_zero h)
    exact ⟨ao, cap, e, fun j hj => absurd hj (by omega)⟩
theorem lg_pages (h : Logs w0 d m r j c M U fs l w) : Calls Tryz.prog 32 #[ptr j] w fun e w' => ∃ v, e = .returned v ∧ NR w' v (pagesM (fs.map (·.1))) ∧ Below w.heap.size w w' := by
  obtain ⟨O, R, b, f, v, u, h⟩ := h
  refine (pages_any h.pl).mono ?_
  rintro e w' ⟨v, rfl, hp⟩
  exact ⟨v, rfl, nr_of hp.row, hp.bel⟩
theorem lg_rpages (h : Logs w0 d m r j c M U fs l w) : Calls Tryz.prog 33 #[ptr c] w fun e w' => ∃ v, e = .returned v ∧ NR w' v (pagesM l.ns) ∧ Below w.heap.size w w' ∧ ∀ g, v.ownBlock = some g → w.heap.size ≤ g ∧ g < w'.heap.size := by
  obtain ⟨O, R, b, f, v, u, h⟩ := h
  refine (Lr.rpages_any h.rl).mono ?_
  rintro e w' ⟨v, rfl, hp⟩
  exact ⟨v, rfl, nr_of hp.row, hp.bel, fun g hg => ⟨hp.new g hg, (hp.row.lt g hg).2⟩⟩
/-- Both logs, beside blocks X of the call's own. -/
structure LX (w0 : World) (X : Nat → Prop) (d m r j c : Nat) (M U : Mod) (fs : List Fr) (l : Lg) (w : World) : Prop where
  ex : ∃ O R b f v u, TL w0 O R d m r j b c f v u M U fs l w ∧ ∀ k, X k → O k ∧ ¬ R k
variable {X : Nat → Prop}
theorem LX.below (h : LX w0 X d m r j c M U fs l w) : Below w0.heap.size w0 w := by
  obtain ⟨O, R, b, f, v, u, h, -⟩ := h.ex
  exact h.below
theorem LX.on (h : LX w0 X d m r j c M U fs l w) (hb : Below w.heap.size w w') : LX w0 X d m r j c M U fs l w' := by
  obtain ⟨O, R, b, f, v, u, h, hx⟩ := h.ex
  exact ⟨O, R, b, f, v, u, h.on hb, hx⟩
theorem lx_start (h : Logs w0 d m r j c M U fs l w) (hb : Below w.heap.size w w') : LX w0 (fun k => w.heap.size ≤ k ∧ k < w'.heap.size) d m r j c M U fs l w' := by
  obtain ⟨O, R, b, f, v, u, h⟩ := h
  refine ⟨_, R, b, f, v, u, ⟨h.pl.also hb, rl_other h.rl (F := fun _ => False) (Disk.Chg.of_below hb) (fun _ _ x => x), fun k hk => Or.inl (h.sub k hk), h.low, fun k hk => Or.inl (h.old k hk), h.below.trans (hb.mono h.below.size)⟩, fun k hk => ⟨Or.inr hk, fun hR => ?_⟩⟩
  have := h.pl.olt (h.sub k hR)
  omega
theorem lx_get (h : LX w0 X d m r j c M U fs l w) (n : Int) (hn : Wf n) : Calls Tryz.prog 17 #[ptr j, .int .i64 n] w fun e w' => e = .returned (.tuple #[.string (bs (getP fs n M).1), .bool (getP fs n M).2.1, .int .i64 (getP fs n M).2.2.1]) ∧ LX w0 X d m r j c (getP fs n M).2.2.2 U fs l w' ∧ Stays X w w' := by
  obtain ⟨O, R, b, f, v, u, h, hx⟩ := h.ex
  refine (get_any h.pl n hn).mono ?_
  rintro e w' ⟨rfl, hp, hs⟩
  exact ⟨rfl, ⟨O, R, b, f, v, u, h.own hp hs, hx⟩, fewer hs (fun k hk => (hx k hk).1)⟩
theorem lx_rget (h : LX w0 X d m r j c M U fs l w) (n : Int) : Calls Tryz.prog 18 #[ptr c, .int .i64 n] w fun e w' => e = .returned (.tuple #[.string (bs (getM l n U).1), .bool (getM l n U).2.1, .int .i64 (getM l n U).2.2.1]) ∧ LX w0 X d m r j c M (getM l n U).2.2.2 fs l w' ∧ Stays X w w' := by
  obtain ⟨O, R, b, f, v, u, h, hx⟩ := h.ex
  refine (Lr.rget_any h.rl n).mono ?_
  rintro e w' ⟨rfl, hr⟩
  obtain ⟨O', R', h', hO, hR⟩ := h.ref hr
  refine ⟨rfl, ⟨O', R', b, f, v, u, h', fun k hk => ⟨hO k (hx k hk).1, fun hRk => ?_⟩⟩, Disk.Chg.mono hr.q.chg (fun k _ hRk hXk => (hx k hXk).2 hRk)⟩
  rcases hR k hRk with e | e
  · exact (hx k hk).2 e
  · have := h.pl.olt (hx k hk).1; omega
theorem NR.stay {q : List Nat} {v : Value} (h : NR w v q) (hs : Stays X w w') (hX : ∀ g, v.ownBlock = some g → X g) : NR w' v q := by
  obtain ⟨ao, cap, rfl, hx⟩ := h
  refine ⟨ao, cap, rfl, fun j hj => ?_⟩
  obtain ⟨g, e1, e2, e3, e4⟩ := hx j hj
  have hg : X g := hX g (by rw [e1]; rfl)
  exact ⟨g, e1, e2, Nat.lt_of_lt_of_le e3 hs.size, (hs.cell e3 (fun x => x hg)).trans e4⟩
set_option maxRecDepth 100000 in
set_option maxHeartbeats 1000000 in
theorem same14_any {w : World} {v1 v2 : Value} {q : List Nat} (hl : q.length ≤ 100000) (h1 : NR w v1 q) (h2 : NR w v2 q) :
    Calls Tryz.prog 31 #[v1, v2] w fun e w' => e = .returned (.bool true) ∧ Below w.heap.size w w' := by
  have HX1 : Hid (∀ wr, Below w.heap.size w wr → NR wr v1 q) := hid fun wr hb => h1.on hb
  have HX2 : Hid (∀ wr, Below w.heap.size w wr → NR wr v2 q) := hid fun wr hb => h2.on hb
  obtain ⟨ao1, cap1, rfl, -⟩ := h1
  obtain ⟨ao2, cap2, rfl, -⟩ := h2
  go_enter Tryz.func31, Tryz.ntmps31
  go_wp2
  go_loopw [5] (fun i wr => ∃ k : Nat, k ≤ q.length ∧ i = .int .i64 k ∧ Hid (Below w.heap.size w wr)) (fun i _ => q.length - (intOf i).toNat)
  case atStart => exact ⟨0, Nat.zero_le _, rfl, hid (Below.refl _ _)⟩
  case round =>
    obtain ⟨k, hk, rfl, HB⟩ := hrel
    by_cases hlt : (k : Int) < (q.length : Int)
    · have hkl : k < q.length := by omega
      obtain ⟨ap1, cp1, e1, hx1⟩ := HX1.out wr HB.out
      obtain ⟨ap2, cp2, e2, hx2⟩ := HX2.out wr HB.out
      cases e1
      cases e2
      obtain ⟨g1, rfl, hc1, hg1, a1⟩ := hx1 k hkl
      obtain ⟨g2, rfl, hc2, hg2, b1⟩ := hx2 k hkl
      clear hx1 hx2
      have hw1 : wrap64 ((k : Int) + 1) = (k : Int) + 1 := by rw [Num.wrap_i]; omega
      generalize q[k] = x at *
      go_wp2_with fail
      go_quiet (fail)
      go_wp2
      all_goals
        go_roundw
        case rel => exact ⟨k + 1, by omega, by go_num, hid (below_dN HB.out _)⟩
        case measure => simp [intOf]; omega
    · obtain rfl : k = q.length := by omega
      go_wp2
      go_ret
      exact ⟨rfl, HB.out⟩
end Lt
end Go.Proofs.YtgmbiiocjhkpdaaGreat
