/-
  Put together: NodeAny, NodeDec.
-/
import Derived.Test.YtoifhcmgeackdaaGreatDoorNodeLeaf
import Derived.Test.YtoifhcmgeackdaaGreatDoorNodeInner
import Derived.Test.YtoifhcmgeackdaaGreatDoorGrpTrNoB
/-
  The reader's node at a mark that is none; and its contract, all marks together.
-/
namespace Go.Proofs.YtoifhcmgeackdaaGreatDoor
open Go.RowKit
namespace No
open Num (hid unvL unfF)
theorem St.begin_bad {b : Nat} {T : Bs} {e f : Bool} {w w2 : World} (hb : b < w.heap.size) (hr : Rn b T e w2) (ho : One b (w.alloc noObj) w2) : St b w2.heap.size w.heap.size (w2.heap.size + 1) nilV nilV nilV T true ⟨f, [], [], []⟩ w ((w2.setCell ⟨b, 1, none⟩ (.bool true)).alloc (.cells #[.bool f, .slice none 0 0, .slice none 0 0, .slice none 0 0] tN)) := by
  have h := St.begin (f := f) hb hr.fail (ho.set 1 (.bool true))
  have e : (w2.setCell ⟨b, 1, none⟩ (.bool true)).heap.size = w2.heap.size := by simp [World.setCell]
  rw [e] at h
  exact h
set_option maxRecDepth 100000 in
set_option maxHeartbeats 8000000 in
theorem node_bad (b : Nat) (S T1 T2 : Bs) (c m : Nat) (e1 e2 : Bool) (hm1 : m ≠ 1) (hm2 : m ≠ 2) (hc : c < 65536) (w : World) (hb : b < w.heap.size)
    (h1 : Calls Tryz.prog 149 #[ptr b, .int .i64 1] (w.alloc noObj) fun e w' => e = .returned (.int .i64 m) ∧ Rn b T1 e1 w' ∧ One b (w.alloc noObj) w')
    (h2 : ∀ w1, Rn b T1 e1 w1 → Calls Tryz.prog 149 #[ptr b, .int .i64 2] w1 fun e w' => e = .returned (.int .i64 c) ∧ Rn b T2 e2 w' ∧ One b w1 w')
    (hP : parse S = none) :
    Calls Tryz.prog 120 #[ptr b] w fun e w' => NodeGives S b w w' e := by
  have H1 := hid h1
  have H2 := hid h2
  have HP := hid hP
  have x1 : ((m : Int) != 1) = true := by simp; omega
  have x2 : ((m : Int) != 2) = true := by simp; omega
  have x3 : ((m : Int) == 1) = false := by rw [beq_eq_false_iff_ne]; omega
  obtain ⟨iI, hiI, h0I, h1I, h2I⟩ := info_parts infoI
  clear h1 h2 hP hm1 hm2
  go_enter Tryz.func120, Tryz.ntmps120
  go_wp2_with fail
  refine H1.out.mono ?_
  rintro e w1 ⟨rfl, hr, ho⟩
  have HR := hid hr
  have HO := hid ho
  clear hr ho
  go_wp2_with fail
  refine (H2.out _ HR.out).mono ?_
  rintro e w2 ⟨rfl, hr, ho⟩
  have S0 := hid (St.begin_bad (f := false) hb hr (HO.out.trans ho))
  obtain ⟨k0, k1⟩ := hr.cells
  obtain ⟨k2, k3⟩ := hr.free
  have hlb2 := hr.lt
  clear hr ho
  have HF := hid (fun w' (h : Rn b T2 true w') => fixed_dead b 4 T2 w' h)
  go_wp2
  go_upto_region 6 with fail
  go_cut [] (fun wx => ∃ (p : Value), Hid (St b w2.heap.size w.heap.size (w2.heap.size + 1) nilV nilV p T2 true ⟨false, [], [], [0]⟩ w wx))
  case first =>
    go_region_law (first
      | (go_simp; go_at_call 149; refine (HF.out _ S0.out.drew.rd).mono ?_; rintro e w7 ⟨rfl, hr7, ho7⟩; have HS4 := hid (S0.out.drew.call ho7 hr7); obtain ⟨d0, d1, d2, d3⟩ := HS4.out.bx.cells; have hl7 := HS4.out.bx.lt; unfold nilV at d3; clear hr7 ho7)
      | ((refine step_append_lies _ (by rfl) (.tmp 26) (.tmp 29) tIs (by rfl) (w2.heap.size + 1) tI iI _ 1 8 Tryz.underlying58 hiI h0I h1I h2I rfl (by decide) nilV 0 [] (by rfl) (HS4.out.alloc (.cells #[.int .i64 0] tI)).p ⟨w7.heap.size, 0, none⟩ 1 1 (iV 0) (by rfl) rfl (World.news_of_block (heap_alloc_new w7 _)) (iV_one _) Nat.one_pos (by unfold maxLen; omega) (by omega) (HS4.out.alloc (.cells #[.int .i64 0] tI)).hs (w7.heap.size + 1) (by simp) ?_; intro g'' cap'' w8 hown hgrow hat hlt8; obtain ⟨-, x2, -, -, -⟩ := (HS4.out.alloc (.cells #[.int .i64 0] tI)).grown hgrow (fun i hi => by simp [nilV, Value.ownBlock] at hi); obtain ⟨y0, y1, y2, y3⟩ := x2.cells; obtain ⟨z0, z1, z2, z3⟩ := x2.free; unfold nilV at y3; have HS5 := hid ((HS4.out.alloc (.cells #[.int .i64 0] tI)).pushP (OwnL.snoc (enc := iV) hown) hgrow (hat.imp_right fun h => by simp [h])); clear hown hgrow hat x2)))
    all_goals
      go_wp2_with fail
      go_meet
      exact ⟨_, HS5⟩
  case rest =>
  obtain ⟨p, S1⟩ := hcut
  clear HF S0 k0 k1 k2 k3
  go_wp2
  go_loopw [33] (fun i wr => i = .int .i64 0 ∧ wr = wc) (fun _ _ => 0)
  case atStart => exact ⟨rfl, rfl⟩
  case round =>
    obtain ⟨rfl, rfl⟩ := hrel
    obtain ⟨aoP, capP, rfl⟩ := S1.out.p.form
    obtain ⟨q0, q1⟩ := S1.out.rd.cells
    have hl := S1.out.rd.lt
    obtain ⟨b0, b1, b2, b3⟩ := S1.out.bx.cells
    obtain ⟨r0, r1, r2, r3⟩ := S1.out.rs.cells
    obtain ⟨f0, f1, f2, f3⟩ := S1.out.rs.free
    have hlb := S1.out.bx.lt
    have hlr := S1.out.rs.lt
    have HFin := hid (S1.out.fin (w' := (((wr.setCell ⟨w.heap.size, 0, none⟩ (.bool false)).setCell ⟨w.heap.size, 1, none⟩ nilV).setCell ⟨w.heap.size, 2, none⟩ nilV).setCell ⟨w.heap.size, 3, none⟩ (.slice aoP 1 capP)) (by decide) (by decide) (by decide) rfl)
    unfold nilV at b1 b2 r1 r2 r3
    have b3' : wr.cell? ⟨w2.heap.size, 3, none⟩ = some (.slice aoP 1 capP) := b3
    have b0' : wr.cell? ⟨w2.heap.size, 0, none⟩ = some (.bool false) := b0
    clear b0 b3
    by_cases hlt : 0 < c
    · have hlt' : (0 : Int) < c := by omega
      go_wp2
      obtain ⟨g1, g2, g3, g4⟩ := HFin.out
      unfold nilV at g1 g2 g3 g4
      obtain ⟨u0, u1, u2, u3⟩ := g4.cells
      refine @bodyPost_ret Tryz.prog Tryz.f120 (fun e w' => NodeGives S b w w' e) _ _ (nV false (.slice none 0 0) (.slice none 0 0) (.slice aoP 1 capP)) ?_ ?_ ?_
      · simp [results, nV, go_sem, u0, u1, u2, u3]
      · rfl
      · exact ⟨_, _, _, _, T2, true, rfl, g1, g2, g3, Or.inr ⟨rfl, HP.out⟩⟩
    · have hlt' : ¬ (0 : Int) < c := by omega
      go_wp2
      obtain ⟨g1, g2, g3, g4⟩ := HFin.out
      unfold nilV at g1 g2 g3 g4
      obtain ⟨u0, u1, u2, u3⟩ := g4.cells
      refine @bodyPost_ret Tryz.prog Tryz.f120 (fun e w' => NodeGives S b w w' e) _ _ (nV false (.slice none 0 0) (.slice none 0 0) (.slice aoP 1 capP)) ?_ ?_ ?_
      · simp [results, nV, go_sem, u0, u1, u2, u3]
      · rfl
      · exact ⟨_, _, _, _, T2, true, rfl, g1, g2, g3, Or.inr ⟨rfl, HP.out⟩⟩
theorem fixed_det (b n : Nat) (hn1 : 1 ≤ n) (hn4 : n ≤ 4) (S : Bs) (e0 : Bool) (hS : S.length ≤ 281474976710656) : ∃ (y : Nat) (T : Bs) (e1 : Bool), Ran S e0 (fxS S n) 0 y T e1 ∧ ∀ w, Rn b S e0 w →
    Calls Tryz.prog 149 #[ptr b, .int .i64 (n : Nat)] w fun e w' => e = .returned (.int .i64 y) ∧ Rn b T e1 w' ∧ One b w w' := by
  cases e0 with
  | true => exact ⟨0, S, true, Ran.no (fun h => by cases h), fun w h => fixed_dead b n S w h⟩
  | false =>
    cases hb : fxS S n with
    | none =>
      refine ⟨0, S, true, Ran.no (fun _ => rfl), fun w h => (fixed_live b n hn1 hn4 S hS w h).mono ?_⟩
      rintro e w' ⟨ho, hx⟩
      rw [hb] at hx
      obtain ⟨rfl, hr⟩ := hx
      exact ⟨rfl, hr, ho⟩
    | some x =>
      refine ⟨x.1, x.2, false, Ran.ok rfl (fxS_len hb), fun w h => (fixed_live b n hn1 hn4 S hS w h).mono ?_⟩
      rintro e w' ⟨ho, hx⟩
      rw [hb] at hx
      obtain ⟨rfl, hr⟩ := hx
      exact ⟨rfl, hr, ho⟩
theorem ran_small {S T : Bs} {e e1 : Bool} {y : Nat} (h : Ran S e (fxS S 2) 0 y T e1) : y < 65536 := by
  rcases h.2 with ⟨-, -, h⟩ | ⟨-, rfl, -⟩
  · exact (fxS_back h).2
  · decide
theorem node_any (b : Nat) (S : Bs) (hS : S.length ≤ 281474976710656) (w : World) (h : Rn b S false w) :
    Calls Tryz.prog 120 #[ptr b] w fun e w' => NodeGives S b w w' e := by
  obtain ⟨m, T1, e1, hr1, h1⟩ := fixed_det b 1 (by decide) (by decide) S false hS
  have l1 : T1.length ≤ 281474976710656 := Nat.le_trans hr1.1 hS
  obtain ⟨c, T2, e2, hr2, h2⟩ := fixed_det b 2 (by decide) (by decide) T1 e1 l1
  have l2 : T2.length ≤ 281474976710656 := Nat.le_trans hr2.1 l1
  have hc := ran_small hr2
  have hb := h.lt
  have h1' := h1 _ (h.alloc noObj)
  by_cases hm1 : m = 1
  · subst hm1
    have e1f : e1 = false := by
      rcases hr1.2 with ⟨_, he, _⟩ | ⟨_, he, _⟩
      · exact he
      · cases he
    subst e1f
    exact node_leaf b S T1 T2 c e2 hS hc w hb h1' h2 (Pr.start_leaf hS hr1 hr2)
  · by_cases hm2 : m = 2
    · subst hm2
      have e1f : e1 = false := by
        rcases hr1.2 with ⟨_, he, _⟩ | ⟨_, he, _⟩
        · exact he
        · cases he
      subst e1f
      exact node_inner b S T1 T2 c e2 hS hc w hb h1' h2 l2 (fun q T3 e3 h3 => Pr.start_inner hS hr1 hr2 h3)
    · have hP : parse S = none := by
        have := Pr.start_bad (c := 0) (q := 0) l2 hr1 hm1 hm2
        exact this.broke
      exact node_bad b S T1 T2 c m e1 e2 hm1 hm2 hc w hb h1' h2 hP
end No
end Go.Proofs.YtoifhcmgeackdaaGreatDoor

/-
  Contract of the project's Decode.
-/
namespace Go.Proofs.YtoifhcmgeackdaaGreatDoor
open Go.RowKit
namespace No
open Num (hid unvL unfF)
/-- What the project's Decode answers: rows of its own. -/
def DecOwn (x : Dr) (w w' : World) (e : Ending) : Prop := (∃ ks cs ps, e = .returned (.tuple #[nV x.n.f ks cs ps, .int .i64 x.e]) ∧ NOw w' w.heap.size ks cs ps x.n) ∧ Below w.heap.size w w'
theorem now_no (w : World) (B : Nat) : NOw w B (.slice none 0 0) (.slice none 0 0) (.slice none 0 0) noN := ⟨OwnL.empty _ _, OwnL.empty _ _, OwnL.empty _ _, fun i hi => by simp [Value.ownBlock] at hi, fun i hi => by simp [Value.ownBlock] at hi, fun i hi => by simp [Value.ownBlock] at hi, Nat.zero_le _, Nat.zero_le _, Nat.zero_le _⟩
theorem now_put {w : World} {B : Nat} {ks cs ps : Value} {n : N} (h : NOw w B ks cs ps n) {r : Nat} (hr : r < B) (f : Bool) (ks' cs' ps' : Value) : NOw ((((w.setCell ⟨r, 0, none⟩ (.bool f)).setCell ⟨r, 1, none⟩ ks').setCell ⟨r, 2, none⟩ cs').setCell ⟨r, 3, none⟩ ps') B ks cs ps n := (((h.set hr _ _).set hr _ _).set hr _ _).set hr _ _
/-- What Decode answers. -/
def DecGives (x : Dr) (w w' : World) (e : Ending) : Prop := (∃ ks cs ps, e = .returned (.tuple #[nV x.n.f ks cs ps, .int .i64 x.e]) ∧ NAt w' ks cs ps x.n) ∧ Below w.heap.size w w'
abbrev rObj (S : Bs) : Obj := .cells #[.string (bs S), .bool false] tRd
theorem nat_no (w : World) : NAt w (.slice none 0 0) (.slice none 0 0) (.slice none 0 0) noN := ⟨LAt.nil _ _ _, LAt.nil _ _ _, LAt.nil _ _ _⟩
theorem nat_slices {w : World} {ks cs ps : Value} {n : N} (h : NAt w ks cs ps n) : ∃ a1 c1 a2 c2 a3 c3, ks = .slice a1 n.ks.length c1 ∧ cs = .slice a2 n.cs.length c2 ∧ ps = .slice a3 n.ps.length c3 := by
  have hk := h.k
  have hc := h.c
  have hp := h.p
  obtain ⟨a1, c1, h1, -⟩ := SAt.ways1 hk
  obtain ⟨a2, c2, h2, -⟩ := CAt.ways3 hc
  obtain ⟨a3, c3, h3, -⟩ := IAt.ways1 hp
  exact ⟨a1, c1, a2, c2, a3, c3, h1, h2, h3⟩
theorem decR_short {S : Bs} (h : S.length ≠ 232) : decR S = ⟨noN, 1⟩ := by unfold decR; rw [if_pos h]
theorem decR_none {S : Bs} (h : S.length = 232) (hp : parse S = none) : decR S = ⟨noN, 4⟩ := by unfold decR; rw [if_neg (by simpa using h), hp]
theorem decR_some {S t : Bs} {n : N} (h : S.length = 232) (hp : parse S = some (n, t)) : decR S = if blank t && okN n then ⟨n, 0⟩ else ⟨noN, 4⟩ := by unfold decR; rw [if_neg (by simpa using h), hp]
/-- The lists of a node stand while a block that holds none of their cells turns. -/
theorem LAt.put {α : Type} {k : Nat} {enc : α → List Value} {w : World} {x : Value} {l : List α} (h : LAt k enc w x l) {g : Nat} (hg : ∀ b o n c, x = .slice (some ⟨b, o, none⟩) n c → 0 < l.length → b ≠ g) (j : Nat) (u : Value) : LAt k enc (w.setCell ⟨g, j, none⟩ u) x l := by
  obtain ⟨h1, h2⟩ := h
  refine ⟨?_, h2⟩
  rcases h1 with h1 | ⟨b, o, cap, hv, hc, hlt, hj⟩
  · exact Or.inl h1
  · refine Or.inr ⟨b, o, cap, hv, hc, by simpa [World.setCell] using hlt, fun j' h i hi => ?_⟩
    rw [World.cell?_setCell_other _ _ _ _ (by intro e; simp only [Addr.mk.injEq] at e; exact hg b o _ _ hv (by omega) e.1.symm)]
    exact hj j' h i hi
theorem LAt.apart {α : Type} {k : Nat} {enc : α → List Value} {w : World} {x : Value} {l : List α} (h : LAt k enc w x l) (hk : 0 < k) (he : ∀ a, ∃ v, (enc a)[0]? = some v ∧ (∀ f, v ≠ .bool f) ∧ (∀ a n c, v ≠ .slice a n c)) {g : Nat} (hb : Nb g false nilV nilV nilV w) : ∀ b o n c, x = .slice (some ⟨b, o, none⟩) n c → 0 < l.length → b ≠ g := by
  intro b o n c hx hl e
  subst e
  obtain ⟨ao, cap, hv, -, -, hj⟩ := h.ways
  rw [hx] at hv
  cases hv
  obtain ⟨b', o', e', -, hc⟩ := hj 0 hl
  cases e'
  have h0 := hc 0 hk
  rw [Nat.zero_mul] at h0
  obtain ⟨v, hv, h1, h2⟩ := he l[0]
  rw [hv] at h0
  unfold Nb at hb
  have hcell : w.cell? ⟨b, o + 0 + 0, none⟩ = (#[Value.bool false, nilV, nilV, nilV])[o + 0 + 0]? := by simp [World.cell?, hb]
  rw [hcell] at h0
  match o, h0 with
  | 0, h0 => simp at h0; exact h1 _ h0.symm
  | 1, h0 => simp [nilV] at h0; exact h2 _ _ _ h0.symm
  | 2, h0 => simp [nilV] at h0; exact h2 _ _ _ h0.symm
  | 3, h0 => simp [nilV] at h0; exact h2 _ _ _ h0.symm
  | o + 4, h0 => simp at h0
theorem bput {B : Nat} {w0 w : World} (h : Below B w0 w) {g : Nat} (hg : B ≤ g) (j : Nat) (u : Value) : Below B w0 (w.setCell ⟨g, j, none⟩ u) :=
  ⟨h.os, h.tape, h.output, by simpa [World.setCell] using h.size, fun k hk => by rw [Below.heap_setCell _ _ _ _ (show k ≠ g by omega)]; exact h.block k hk⟩
theorem sV_first (a : Bs) : ∃ v, (sV a)[0]? = some v ∧ (∀ f, v ≠ .bool f) ∧ (∀ a n c, v ≠ .slice a n c) := ⟨_, rfl, (fun _ e => by cases e), (fun _ _ _ e => by cases e)⟩
theorem iV_first (a : Int) : ∃ v, (iV a)[0]? = some v ∧ (∀ f, v ≠ .bool f) ∧ (∀ a n c, v ≠ .slice a n c) := ⟨_, rfl, (fun _ e => by cases e), (fun _ _ _ e => by cases e)⟩
theorem vals_first (a : C) : ∃ v, (a.vals)[0]? = some v ∧ (∀ f, v ≠ .bool f) ∧ (∀ a n c, v ≠ .slice a n c) := ⟨_, rfl, (fun _ e => by cases e), (fun _ _ _ e => by cases e)⟩
theorem Nb.set0 {g : Nat} {f : Bool} {ks cs ps : Value} {w : World} (h : Nb g f ks cs ps w) (f' : Bool) : Nb g f' ks cs ps (w.setCell ⟨g, 0, none⟩ (.bool f')) := by
  unfold Nb at h ⊢
  simp [World.setCell, Array.getElem?_modify, h]
abbrev put4 (w : World) (r : Nat) (f : Bool) (ks cs ps : Value) : World := (((w.setCell ⟨r, 0, none⟩ (.bool f)).setCell ⟨r, 1, none⟩ ks).setCell ⟨r, 2, none⟩ cs).setCell ⟨r, 3, none⟩ ps
/-- The answer's box is filled: the node's lists stand. -/
theorem nat_put {w : World} {ks cs ps : Value} {n : N} (h : NAt w ks cs ps n) {r : Nat} (hb : Nb r false nilV nilV nilV w) : NAt (put4 w r n.f ks cs ps) ks cs ps n := by
  have a1 := h.k.apart (by decide) sV_first hb
  have a2 := h.c.apart (by decide) vals_first hb
  have a3 := h.p.apart (by decide) iV_first hb
  exact ⟨(((h.k.put a1 0 _).put a1 1 _).put a1 2 _).put a1 3 _, (((h.c.put a2 0 _).put a2 1 _).put a2 2 _).put a2 3 _, (((h.p.put a3 0 _).put a3 1 _).put a3 2 _).put a3 3 _⟩
theorem one_put {b r : Nat} {w0 w : World} (h : One b w0 w) (hr : w0.heap.size ≤ r) (f : Bool) (ks cs ps : Value) : One b w0 (put4 w r f ks cs ps) := (((h.high hr 0 _).high hr 1 _).high hr 2 _).high hr 3 _
/-- Decode's state behind node(): the reader b, the answer's box r. -/
structure Dst (S : Bs) (ks cs ps : Value) (n : N) (T : Bs) (e1 : Bool) (w wr : World) : Prop where
  na : NOw wr (w.heap.size + 1) ks cs ps n
  rd : Rn (w.heap.size + 1) T e1 wr
  rs : Nb w.heap.size false nilV nilV nilV wr
  one : One (w.heap.size + 1) w wr
theorem Dst.on {S : Bs} {ks cs ps : Value} {n : N} {T : Bs} {e1 : Bool} {w wr w' : World} (h : Dst S ks cs ps n T e1 w wr) (hb : Below wr.heap.size wr w') : Dst S ks cs ps n T e1 w w' := ⟨h.na.on hb, h.rd.on hb, h.rs.on hb, h.one.trans (.of_below hb)⟩
theorem Dst.new {S : Bs} {ks cs ps : Value} {n : N} {T : Bs} {e1 : Bool} {w w' : World} (h1 : NOw w' (w.heap.size + 1) ks cs ps n) (h2 : Rn (w.heap.size + 1) T e1 w') (h3 : One (w.heap.size + 1) ((w.alloc noObj).alloc (rObj S)) w') : Dst S ks cs ps n T e1 w w' := by
  refine ⟨h1, h2, ?_, ?_⟩
  · exact ((Nb.new false nilV nilV nilV w).on ((Below.refl _ _).alloc (Nat.le_refl _) (rObj S))).one h3 (by omega)
  · refine One.trans (One.of_below ?_) h3
    exact ((Below.refl w.heap.size w).alloc (Nat.le_refl _) _).alloc (by simp) _
theorem Dst.fin {S : Bs} {ks cs ps : Value} {n : N} {T : Bs} {e1 : Bool} {w wr : World} (h : Dst S ks cs ps n T e1 w wr) : NOw (put4 wr w.heap.size n.f ks cs ps) w.heap.size ks cs ps n ∧ Nb w.heap.size n.f ks cs ps (put4 wr w.heap.size n.f ks cs ps) ∧ Below w.heap.size w (put4 wr w.heap.size n.f ks cs ps) :=
  ⟨(now_put h.na (Nat.lt_succ_self _) _ _ _ _).lower (Nat.le_succ _), h.rs.put _ _ _ _, (one_put h.one (Nat.le_refl _) _ _ _ _).below (by omega) (Nat.le_refl _)⟩
theorem Dst.nil {S : Bs} {ks cs ps : Value} {n : N} {T : Bs} {e1 : Bool} {w wr : World} (h : Dst S ks cs ps n T e1 w wr) : Nb w.heap.size false nilV nilV nilV (put4 wr w.heap.size false nilV nilV nilV) ∧ Below w.heap.size w (put4 wr w.heap.size false nilV nilV nilV) :=
  ⟨h.rs.put _ _ _ _, (one_put h.one (Nat.le_refl _) _ _ _ _).below (by omega) (Nat.le_refl _)⟩
theorem node_at (S : Bs) (hS : S.length ≤ 281474976710656) (w : World) :
    Calls Tryz.prog 120 #[ptr (w.heap.size + 1)] ((w.alloc noObj).alloc (rObj S)) fun e w' => ∃ (n : N) (ks cs ps : Value) (T : Bs) (e1 : Bool), e = .returned (.agg #[.bool n.f, ks, cs, ps]) ∧ Dst S ks cs ps n T e1 w w' ∧ ((e1 = false ∧ parse S = some (n, T)) ∨ (e1 = true ∧ parse S = none)) := by
  have e : (w.alloc noObj).heap.size = w.heap.size + 1 := by simp
  have h := Rn.new S false (w.alloc noObj)
  rw [e] at h
  refine (node_any (w.heap.size + 1) S hS _ h).mono ?_
  rintro e w' ⟨n, ks, cs, ps, T, e1, rfl, ⟨B, hB, h1⟩, h2, h3, h4⟩
  exact ⟨n, ks, cs, ps, T, e1, rfl, Dst.new (h1.lower (by simp at hB; omega)) h2 h3, h4⟩
abbrev gObj (n : N) (ks cs ps : Value) : Obj := .cells #[.bool n.f, ks, cs, ps] tN
set_option maxRecDepth 100000 in
set_option maxHeartbeats 4000000 in
theorem decode_own (S : Bs) (w : World) :
    Calls Tryz.prog 83 #[.string (bs S)] w fun e w' => DecOwn (decR S) w w' e := by
  have hz := bs_size S
  by_cases hl : S.length = 232
  · have hS : S.length ≤ 281474976710656 := by omega
    have hl2 : (((bs S).size : Int) != 232) = false := by simp only [bne, Bool.not_eq_false', beq_iff_eq]; omega
    have HN := hid (node_at S hS w)
    clear hS
    have HD1 := hid (fun hp => decR_none (S := S) hl hp)
    have HD2 := hid (fun n t hp => decR_some (S := S) (n := n) (t := t) hl hp)
    have HL := hid hl
    generalize hX : decR S = X at *
    have HX := hid hX
    clear hz hl hX
    go_enter Tryz.func83, Tryz.ntmps83
    go_wp2_with fail
    refine HN.out.mono ?_
    rintro e w3 ⟨n, ks, cs, ps, T, e1, rfl, hd, hp⟩
    obtain ⟨a1, k1, a2, k2, a3, k3, rfl, rfl, rfl⟩ := nat_slices hd.na.nat
    have D1 := hid (hd.on ((Below.refl w3.heap.size w3).alloc (Nat.le_refl _) (gObj n (.slice a1 n.ks.length k1) (.slice a2 n.cs.length k2) (.slice a3 n.ps.length k3))))
    have G1 := hid (Nb.new n.f (.slice a1 n.ks.length k1) (.slice a2 n.cs.length k2) (.slice a3 n.ps.length k3) w3)
    clear hd
    rcases hp with ⟨rfl, hp⟩ | ⟨rfl, hp⟩
    · obtain ⟨-, -, -, p4, -, p6⟩ := parse_back hp
      have hSl := HL.out
      have hT : T.length ≤ 9223372036854775807 := by omega
      have hks : n.ks.length ≤ 1000000 := by omega
      have hps : n.ps.length ≤ 4000 := by omega
      have HT := hid (fun w => trim_any T w hT)
      have HG := hid (fun w h => good_any (.slice a1 n.ks.length k1) (.slice a2 n.cs.length k2) (.slice a3 n.ps.length k3) n hps hks w h)
      have HV := hid (HD2.out n T hp)
      obtain ⟨q0, q1⟩ := D1.out.rd.cells
      have hlr := D1.out.rd.lt
      clear p4 p6 hSl hT hks hps hp HD1 HD2 HL
      go_wp2_with fail
      refine (HT.out _).mono ?_
      rintro e w4 ⟨⟨Y, rfl, hY⟩, hb⟩
      have D2 := hid (D1.out.on hb)
      have G2 := hid (G1.out.on hb)
      have hYb := (bs_nil_iff Y).trans hY
      clear hb hY q0 q1 hlr D1 G1
      obtain ⟨s0, s1, s2, s3⟩ := D2.out.rs.free
      obtain ⟨r0, r1, r2, r3⟩ := D2.out.rs.cells
      have hls := D2.out.rs.lt
      obtain ⟨b0, b1, b2, b3⟩ := G2.out.cells
      cases hbl : blank T with
      | false =>
        rw [hbl] at hYb HV
        simp only [Bool.false_and, Bool.false_eq_true, if_false] at HV
        have hxe : X = ⟨noN, 4⟩ := HV.out
        subst hxe
        clear hbl HV
        have HF := hid D2.out.nil
        go_wp2
        obtain ⟨g4, g5⟩ := HF.out
        obtain ⟨u0, u1, u2, u3⟩ := g4.cells
        unfold nilV at u0 u1 u2 u3
        refine @bodyPost_ret Tryz.prog Tryz.f83 (fun e w' => DecOwn ⟨noN, 4⟩ w w' e) _ _ (.tuple #[nV false nilV nilV nilV, .int .i64 4]) ?_ ?_ ?_
        · simp [results, nV, nilV, go_sem, u0, u1, u2, u3]
        · rfl
        · exact ⟨⟨nilV, nilV, nilV, rfl, now_no _ _⟩, g5⟩
      | true =>
        rw [hbl] at hYb HV
        simp only [Bool.true_and] at HV
        clear hbl
        go_wp2_with fail
        refine (HG.out _ D2.out.na.nat).mono ?_
        rintro e w5 ⟨rfl, hb⟩
        have D3 := hid (D2.out.on hb)
        have G3 := hid (G2.out.on hb)
        clear hb s0 s1 s2 s3 hls b0 b1 b2 b3 D2 G2
        clear r0 r1 r2 r3
        obtain ⟨s0, s1, s2, s3⟩ := D3.out.rs.free
        obtain ⟨r0, r1, r2, r3⟩ := D3.out.rs.cells
        have hls := D3.out.rs.lt
        obtain ⟨b0, b1, b2, b3⟩ := G3.out.cells
        cases ho : okN n with
        | false =>
          rw [ho] at HV
          simp only [Bool.false_eq_true, if_false] at HV
          have hxe : X = ⟨noN, 4⟩ := HV.out
          subst hxe
          clear ho HV HG
          have HF := hid D3.out.nil
          go_wp2
          obtain ⟨g4, g5⟩ := HF.out
          obtain ⟨u0, u1, u2, u3⟩ := g4.cells
          unfold nilV at u0 u1 u2 u3
          refine @bodyPost_ret Tryz.prog Tryz.f83 (fun e w' => DecOwn ⟨noN, 4⟩ w w' e) _ _ (.tuple #[nV false nilV nilV nilV, .int .i64 4]) ?_ ?_ ?_
          · simp [results, nV, nilV, go_sem, u0, u1, u2, u3]
          · rfl
          · exact ⟨⟨nilV, nilV, nilV, rfl, now_no _ _⟩, g5⟩
        | true =>
          rw [ho] at HV
          simp only [if_true] at HV
          have hxe : X = ⟨n, 0⟩ := HV.out
          subst hxe
          clear ho HV HG
          have HF := hid D3.out.fin
          go_wp2
          obtain ⟨g1, g4, g5⟩ := HF.out
          obtain ⟨u0, u1, u2, u3⟩ := g4.cells
          refine @bodyPost_ret Tryz.prog Tryz.f83 (fun e w' => DecOwn ⟨n, 0⟩ w w' e) _ _ (.tuple #[nV n.f (.slice a1 n.ks.length k1) (.slice a2 n.cs.length k2) (.slice a3 n.ps.length k3), .int .i64 0]) ?_ ?_ ?_
          · simp [results, nV, go_sem, u0, u1, u2, u3]
          · rfl
          · exact ⟨⟨_, _, _, rfl, g1⟩, g5⟩
    · have hxe : X = ⟨noN, 4⟩ := HD1.out hp
      subst hxe
      obtain ⟨q0, q1⟩ := D1.out.rd.cells
      have hlr := D1.out.rd.lt
      have hls := D1.out.rs.lt
      obtain ⟨s0, s1, s2, s3⟩ := D1.out.rs.free
      obtain ⟨r0, r1, r2, r3⟩ := D1.out.rs.cells
      clear hp HD1 HD2
      have HF := hid D1.out.nil
      go_wp2
      obtain ⟨g4, g5⟩ := HF.out
      obtain ⟨u0, u1, u2, u3⟩ := g4.cells
      unfold nilV at u0 u1 u2 u3
      refine @bodyPost_ret Tryz.prog Tryz.f83 (fun e w' => DecOwn ⟨noN, 4⟩ w w' e) _ _ (.tuple #[nV false nilV nilV nilV, .int .i64 4]) ?_ ?_ ?_
      · simp [results, nV, nilV, go_sem, u0, u1, u2, u3]
      · rfl
      · exact ⟨⟨nilV, nilV, nilV, rfl, now_no _ _⟩, g5⟩
  · have hl2 : (((bs S).size : Int) != 232) = true := by simp only [bne, Bool.not_eq_true', beq_eq_false_iff_ne]; omega
    rw [decR_short hl]
    have N0 := hid (Nb.new false nilV nilV nilV w)
    have B0 := hid ((Below.refl w.heap.size w).alloc (Nat.le_refl _) noObj)
    obtain ⟨s0, s1, s2, s3⟩ := N0.out.free
    obtain ⟨r0, r1, r2, r3⟩ := N0.out.cells
    have hls := N0.out.lt
    clear hz hl
    go_enter Tryz.func83, Tryz.ntmps83
    go_wp2
    obtain ⟨u0, u1, u2, u3⟩ := N0.out.cells
    unfold nilV at u0 u1 u2 u3
    refine @bodyPost_ret Tryz.prog Tryz.f83 (fun e w' => DecOwn ⟨noN, 1⟩ w w' e) _ _ (.tuple #[nV false nilV nilV nilV, .int .i64 1]) ?_ ?_ ?_
    · simp [results, nV, nilV, go_sem, u0, u1, u2, u3]
    · rfl
    · exact ⟨⟨nilV, nilV, nilV, rfl, now_no _ _⟩, B0.out⟩
theorem decode_any (S : Bs) (_hS : S.length ≤ 281474976710656) (w : World) :
    Calls Tryz.prog 83 #[.string (bs S)] w fun e w' => DecGives (decR S) w w' e := by
  refine (decode_own S w).mono ?_
  rintro e w' ⟨⟨ks, cs, ps, rfl, h⟩, hb⟩
  exact ⟨⟨ks, cs, ps, rfl, h.nat⟩, hb⟩
end No
end Go.Proofs.YtoifhcmgeackdaaGreatDoor
