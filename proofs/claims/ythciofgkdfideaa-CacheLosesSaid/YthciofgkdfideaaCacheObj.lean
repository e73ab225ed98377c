/-
  A cache in memory; New, find, Len, Clean, Forget, Clear.
-/
import Derived.Test.YthciofgkdfideaaCacheRg
namespace Go.Proofs.Ythciofgkdfideaa
open Go.RowKit
namespace Ca
open Num (hid)
open Mem (Bs bs tI tS Chg Row ptr blk_cell blk_free blk_new blk_set blk_other blk_alloc)
structure CaIn (R : Nat → Prop) (w : World) (c size m z : Nat) (B : List Nat) (f : Nat → One) (nx pv : Fn) : Prop where
  box : w.heap[c]? = some (.cells #[.int .i64 (size : Int), .map (some m), ptr z] tC (0, 0))
  rg : Rg w z B f nx pv
  mp : MapAt w m B f
  own : R c ∧ R m ∧ ∀ k, k = z ∨ k ∈ B → R k
  wf : ∀ k ∈ B, Wf (f k).n
/-- The cache at c: its pages, the one used last at the end. -/
def CA (R : Nat → Prop) (w : World) (c size : Nat) (l : Row) : Prop := ∃ m z B f nx pv, CaIn R w c size m z B f nx pv ∧ l = B.map f
variable {R : Nat → Prop} {w w' : World} {c size m z s : Nat} {B L r : List Nat} {f : Nat → One} {nx pv : Fn} {l : Row} {n : Int}
theorem CaIn.apart {F : Nat → Prop} (h : CaIn R w c size m z B f nx pv) (hc : Chg F w w') (hF : ∀ k, F k → ¬ R k) : CaIn R w' c size m z B f nx pv :=
  ⟨hc.at h.box (fun e => hF c e h.own.1), h.rg.apart hc (fun k hk e => hF k e (h.own.2.2 k hk)), h.mp.apart hc (fun e => hF m e h.own.2.1), h.own, h.wf⟩
theorem CA.apart {F : Nat → Prop} (h : CA R w c size l) (hc : Chg F w w') (hF : ∀ k, F k → ¬ R k) : CA R w' c size l := by
  obtain ⟨m, z, B, f, nx, pv, h, e⟩ := h
  exact ⟨m, z, B, f, nx, pv, h.apart hc hF, e⟩
theorem CA.on (h : CA R w c size l) (hb : Below w.heap.size w w') : CA R w' c size l := h.apart (F := fun _ => False) (Chg.of_below hb) (fun _ h => h.elim)
theorem CaIn.on (h : CaIn R w c size m z B f nx pv) (hb : Below w.heap.size w w') : CaIn R w' c size m z B f nx pv := h.apart (F := fun _ => False) (Chg.of_below hb) (fun _ h => h.elim)
theorem CaIn.ne (h : CaIn R w c size m z B f nx pv) : (∀ k, k = z ∨ k ∈ B → k ≠ c ∧ k ≠ m) ∧ m ≠ c := by
  obtain ⟨es, clock, hm⟩ := h.mp.obj
  refine ⟨fun k hk => ⟨?_, ?_⟩, ?_⟩
  · rintro rfl
    have := h.rg.sl k hk
    unfold Sl at this
    rw [h.box] at this
    simp only [sObj, Option.some.injEq, Obj.cells.injEq] at this
    exact absurd this.2.1 (by decide)
  · rintro rfl
    have := h.rg.sl k hk
    unfold Sl at this
    rw [hm] at this
    cases this
  · rintro rfl
    have := h.box
    rw [hm] at this
    cases this
theorem CaIn.lt (h : CaIn R w c size m z B f nx pv) : c < w.heap.size ∧ m < w.heap.size := ⟨lt_of_block h.box, h.mp.lt⟩
theorem CA.mono {R' : Nat → Prop} (h : CA R w c size l) (hR : ∀ g, g < w.heap.size → R g → R' g) : CA R' w c size l := by
  obtain ⟨m, z, B, f, nx, pv, h, e⟩ := h
  exact ⟨m, z, B, f, nx, pv, ⟨h.box, h.rg, h.mp, ⟨hR c h.lt.1 h.own.1, hR m h.lt.2 h.own.2.1, fun k hk => hR k (h.rg.lt hk) (h.own.2.2 k hk)⟩, h.wf⟩, e⟩
theorem CA.lt (h : CA R w c size l) : c < w.heap.size := by
  obtain ⟨m, z, B, f, nx, pv, h, e⟩ := h
  exact h.lt.1
theorem CaIn.cells (h : CaIn R w c size m z B f nx pv) : w.cell? ⟨c, 0, none⟩ = some (.int .i64 (size : Int)) ∧ w.cell? ⟨c, 1, none⟩ = some (.map (some m)) ∧ w.cell? ⟨c, 2, none⟩ = some (ptr z) ∧ c < w.heap.size ∧ w.frozen? ⟨c, 1, none⟩ = false ∧ w.frozen? ⟨c, 2, none⟩ = false :=
  ⟨blk_cell h.box 0, blk_cell h.box 1, blk_cell h.box 2, h.lt.1, blk_free h.box 1, blk_free h.box 2⟩
/-- The ring and the map have turned, nothing else. -/
theorem CaIn.turn {F : Nat → Prop} {B' : List Nat} {f' : Nat → One} {nx' pv' : Fn} (h : CaIn R w c size m z B f nx pv) (hc : Chg F w w') (hF : ¬ F c) (hr : Rg w' z B' f' nx' pv') (hm : MapAt w' m B' f') (hB : ∀ k ∈ B', R k ∧ Wf (f' k).n) : CaIn R w' c size m z B' f' nx' pv' :=
  ⟨hc.at h.box hF, hr, hm, ⟨h.own.1, h.own.2.1, fun k hk => hk.elim (fun e => h.own.2.2 k (Or.inl e)) (fun e => (hB k e).1)⟩, fun k hk => (hB k hk).2⟩
/-! ### plain: where a page stands -/
theorem nos_map (B : List Nat) (f : Nat → One) : nos (B.map f) = B.map (fun k => (f k).n) := by unfold nos; rw [List.map_map]; rfl
theorem get_here {y : One} (h : get? n (B.map f) = some y) : ∃ L s r, B = L ++ s :: r ∧ f s = y ∧ (f s).n = n := by
  obtain ⟨h1, h2⟩ := get_mem h
  obtain ⟨s, hs, rfl⟩ := List.mem_map.1 h1
  obtain ⟨L, r, e⟩ := List.append_of_mem hs
  exact ⟨L, s, r, e, rfl, h2⟩
theorem get_away (h : get? n (B.map f) = none) : ∀ k ∈ B, (f k).n ≠ n := by
  intro k hk e
  exact get_none.1 h (by rw [nos_map]; exact e ▸ List.mem_map_of_mem (f := fun k => (f k).n) hk)
theorem others (h : (nos ((L ++ s :: r).map f)).Nodup) : ∀ k ∈ L ++ r, (f k).n ≠ (f s).n := by
  rw [nos_map] at h
  have h2 : ((L ++ s :: r).map (fun k => (f k).n)).Perm ((f s).n :: (L ++ r).map (fun k => (f k).n)) := (List.perm_middle.map _)
  have h3 := (List.nodup_cons.1 (h2.nodup_iff.1 h)).1
  intro k hk e
  exact h3 (e ▸ List.mem_map_of_mem (f := fun k => (f k).n) hk)
theorem wo_here (h : (nos ((L ++ s :: r).map f)).Nodup) : wo (f s).n ((L ++ s :: r).map f) = (L ++ r).map f := by
  have h2 := others h
  unfold wo
  rw [List.map_append, List.map_cons, List.filter_append, List.filter_cons_of_neg (by simp), List.map_append, ← List.filter_append, ← List.map_append, List.filter_eq_self]
  intro x hx
  obtain ⟨k, hk, rfl⟩ := List.mem_map.1 hx
  simpa using h2 k hk
/-! ### alone, New -/
theorem alone_any (n : Int) (w : World) : Calls Try.prog 23 #[.int .i64 n] w fun e w' => e = .returned (ptr w.heap.size) ∧ w'.heap[w.heap.size]? = some (sObj ⟨n, [], false⟩ w.heap.size w.heap.size) ∧ Below w.heap.size w w' := by
  have HB := hid ((Below.refl _ w).alloc (Nat.le_refl _) (sObj ⟨n, [], false⟩ w.heap.size w.heap.size))
  have HS := hid (blk_new w (sObj ⟨n, [], false⟩ w.heap.size w.heap.size))
  go_enter Try.func23, Try.ntmps23
  go_wp2
  go_ret
  exact ⟨rfl, HS.out, HB.out⟩
theorem clamp_ways (s : Int) : (¬ 1 ≤ s ∧ clamp s = 1) ∨ (1 ≤ s ∧ 256 < s ∧ clamp s = 256) ∨ (1 ≤ s ∧ ¬ 256 < s ∧ ((clamp s : Nat) : Int) = s) := by
  unfold clamp
  split
  · omega
  · split <;> omega
theorem chg_then {F : Nat → Prop} {a b c : World} (h : Below a.heap.size a b) (k : Below b.heap.size b c) : Chg F a c := (Chg.of_below h : Chg F a b).trans (Chg.of_below k)
set_option maxRecDepth 100000 in
set_option maxHeartbeats 2000000 in
theorem new_fin {w w1 : World} (y : Nat) (hs : w1.heap[w.heap.size + 1]? = some (sObj ⟨0, [], false⟩ (w.heap.size + 1) (w.heap.size + 1))) (hb : Below (w.heap.size + 1) (w.alloc (.map #[] 0)) w1) :
    w.heap.size ≤ w1.heap.size ∧ CA (fun k => w.heap.size ≤ k) (w1.alloc (.cells #[.int .i64 (y : Int), .map (some w.heap.size), ptr (w.heap.size + 1)] tC)) w1.heap.size y [] ∧ Below w.heap.size w (w1.alloc (.cells #[.int .i64 (y : Int), .map (some w.heap.size), ptr (w.heap.size + 1)] tC)) := by
  have s1 : (w.alloc (.map #[] 0)).heap.size = w.heap.size + 1 := by simp
  have h1 := hb.size
  have b2 : Below w.heap.size w w1 := ((Below.refl w.heap.size w).alloc (Nat.le_refl _) (.map #[] 0)).trans (hb.mono (by omega))
  have hz : w.heap.size ≤ w1.heap.size := by omega
  have b3 : Below w1.heap.size w1 (w1.alloc (.cells #[.int .i64 (y : Int), .map (some w.heap.size), ptr (w.heap.size + 1)] tC)) := (Below.refl _ w1).alloc (Nat.le_refl _) _
  have hm : MapAt w1 w.heap.size [] (fun _ => (⟨0, [], false⟩ : One)) := (MapAt.new w (fun _ => (⟨0, [], false⟩ : One))).apart (F := fun _ => False) (Chg.of_below (hb.mono (by omega))) id
  refine ⟨hz, ⟨w.heap.size, w.heap.size + 1, [], fun _ => ⟨0, [], false⟩, fun _ => w.heap.size + 1, fun _ => w.heap.size + 1, ⟨blk_new w1 _, ⟨by simp, ⟨rfl, rfl⟩, fun k hk => ?_⟩, hm.apart (F := fun _ => False) (Chg.of_below b3) id, ⟨hz, Nat.le_refl _, fun k hk => ?_⟩, fun k hk => (by cases hk)⟩, rfl⟩, b2.trans (b3.mono hz)⟩
  · rcases hk with rfl | hk
    · exact blk_alloc hs _
    · cases hk
  · rcases hk with rfl | hk
    · exact Nat.le_succ _
    · cases hk
set_option maxRecDepth 100000 in
set_option maxHeartbeats 2000000 in
theorem new_any (x : Int) (w : World) : Calls Try.prog 7 #[.int .i64 x] w fun e w' => ∃ c, e = .returned (ptr c) ∧ w.heap.size ≤ c ∧ CA (fun k => w.heap.size ≤ k) w' c (clamp x) [] ∧ Below w.heap.size w w' := by
  have HA := hid (alone_any 0 (w.alloc (.map #[] 0)))
  rw [show (w.alloc (.map #[] 0)).heap.size = w.heap.size + 1 by simp] at HA
  have hmk := run_makeMap (P := Try.prog) tMp w
  have hcl := clamp_ways x
  obtain ⟨y, hy⟩ : ∃ y, clamp x = y := ⟨_, rfl⟩
  rw [hy] at hcl ⊢
  have HF := hid (fun w1 h1 h2 => new_fin (w := w) (w1 := w1) y h1 h2)
  clear hy
  rcases hcl with ⟨h1, rfl⟩ | ⟨h1, h2, rfl⟩ | ⟨h1, h2, e⟩
  · go_enter Try.func7, Try.ntmps7
    go_wp2_with fail
    refine HA.out.mono ?_
    rintro e w1 ⟨rfl, hs, hb⟩
    have HG := hid (HF.out w1 hs hb)
    clear hs hb
    go_wp2
    go_ret
    exact ⟨_, rfl, HG.out⟩
  · go_enter Try.func7, Try.ntmps7
    go_wp2_with fail
    refine HA.out.mono ?_
    rintro e w1 ⟨rfl, hs, hb⟩
    have HG := hid (HF.out w1 hs hb)
    clear hs hb
    go_wp2
    go_ret
    exact ⟨_, rfl, HG.out⟩
  · subst e
    go_enter Try.func7, Try.ntmps7
    go_wp2_with fail
    refine HA.out.mono ?_
    rintro e w1 ⟨rfl, hs, hb⟩
    have HG := hid (HF.out w1 hs hb)
    clear hs hb
    go_wp2
    go_ret
    exact ⟨_, rfl, HG.out⟩
/-! ### find, Len, Clean, Forget, Clear -/
set_option maxRecDepth 100000 in
theorem find_yes (h : CaIn R w c size m z B f nx pv) (hs : s ∈ B) : Calls Try.prog 24 #[ptr c, .int .i64 (f s).n] w fun e w' => e = .returned (ptr s) ∧ w = w' := by
  obtain ⟨-, c1, -, lc, -, -⟩ := h.cells
  have hk := h.mp.look_yes hs (h.wf s hs)
  generalize (f s).n = x at *
  clear h hs
  go_enter Try.func24, Try.ntmps24
  go_wp2
  go_ret
  exact ⟨rfl, rfl⟩
set_option maxRecDepth 100000 in
theorem find_no (h : CaIn R w c size m z B f nx pv) (hs : ∀ k ∈ B, (f k).n ≠ n) (hn : Wf n) : Calls Try.prog 24 #[ptr c, .int .i64 n] w fun e w' => e = .returned (.pointer none) ∧ w = w' := by
  obtain ⟨-, c1, -, lc, -, -⟩ := h.cells
  have hk := h.mp.look_no hs hn
  clear h hs hn
  go_enter Try.func24, Try.ntmps24
  go_wp2
  go_ret
  exact ⟨rfl, rfl⟩
set_option maxRecDepth 100000 in
theorem len_any (h : CA R w c size l) : Calls Try.prog 19 #[ptr c] w fun e w' => e = .returned (.int .i64 (l.length : Nat)) ∧ w = w' := by
  obtain ⟨m, z, B, f, nx, pv, h, rfl⟩ := h
  rw [List.length_map]
  obtain ⟨-, c1, -, lc, -, -⟩ := h.cells
  have hk := fun ty => h.mp.len ty
  generalize B.length = x at *
  clear h
  go_enter Try.func19, Try.ntmps19
  go_wp2
  go_ret
  exact ⟨rfl, rfl⟩
theorem len_nil (w : World) : Calls Try.prog 19 #[.pointer none] w fun e w' => e = .returned (.int .i64 0) ∧ w = w' := by
  go_enter Try.func19, Try.ntmps19
  go_wp2
  go_ret
  exact ⟨rfl, rfl⟩
/-! ### a slot's page turned -/
def updf (f : Nat → One) (s : Nat) (x : One) : Nat → One := fun k => if k = s then x else f k
theorem updf_same (f : Nat → One) (s : Nat) (x : One) : updf f s x s = x := if_pos rfl
theorem updf_other {f : Nat → One} {s k : Nat} {x : One} (h : k ≠ s) : updf f s x k = f k := if_neg h
theorem updf_map {B : List Nat} {f : Nat → One} {s : Nat} {x : One} (h : s ∉ B) : B.map (updf f s x) = B.map f := List.map_congr_left (fun _ hk => updf_other (fun e => h (e ▸ hk)))
theorem Sl.w_set {k : Nat} (h : Sl w f nx pv k) (s : Nat) (b : Bool) : Sl (w.setCell ⟨s, 2, none⟩ (.bool b)) (updf f s { f s with w := b }) nx pv k := by
  unfold Sl at h ⊢
  by_cases e : k = s
  · subst e
    rw [updf_same]
    exact blk_set h 2 _
  · rw [updf_other e]
    exact blk_other h e _
theorem Sl.d_set {k : Nat} (h : Sl w f nx pv k) (s : Nat) (d : Bs) : Sl (w.setCell ⟨s, 1, none⟩ (.string (bs d))) (updf f s { f s with d := d }) nx pv k := by
  unfold Sl at h ⊢
  by_cases e : k = s
  · subst e
    rw [updf_same]
    exact blk_set h 1 _
  · rw [updf_other e]
    exact blk_other h e _
theorem updf_n {f : Nat → One} {s : Nat} {x : One} (hx : x.n = (f s).n) (k : Nat) : (updf f s x k).n = (f k).n := by
  unfold updf
  split
  · rename_i e
    rw [e, hx]
  · rfl
theorem CaIn.clean (h : CaIn R w c size m z B f nx pv) (hs : s ∈ B) : CaIn R (w.setCell ⟨s, 2, none⟩ (.bool false)) c size m z B (updf f s { f s with w := false }) nx pv ∧ Chg (· = s) w (w.setCell ⟨s, 2, none⟩ (.bool false)) := by
  have hc : Chg (· = s) w (w.setCell ⟨s, 2, none⟩ (.bool false)) := (Chg.refl _ w).root 2 _
  have hne := h.ne.1 s (Or.inr hs)
  have hn := updf_n (f := f) (s := s) (x := { f s with w := false }) rfl
  refine ⟨h.turn hc (fun e => hne.1 e.symm) ⟨h.rg.nd, h.rg.lk, fun k hk => (h.rg.sl k hk).w_set s false⟩ ((h.mp.apart hc (fun e => hne.2 e.symm)).perm (List.Perm.refl _) (fun k _ => hn k)) (fun k hk => ⟨h.own.2.2 k (Or.inr hk), (hn k).symm ▸ h.wf k hk⟩), hc⟩
theorem clean_here {y : One} {L r : List Nat} (h : (nos ((L ++ s :: r).map f)).Nodup) (hz : (L ++ s :: r).Nodup) (hy : f s = y) : cleanM y.n ((L ++ s :: r).map f) = (L ++ s :: r).map (updf f s { f s with w := false }) := by
  subst hy
  unfold cleanM
  rw [List.map_map]
  apply List.map_congr_left
  intro k hk
  show (if (f k).n = (f s).n then { f k with w := false } else f k : One) = _
  by_cases e : k = s
  · subst e
    rw [if_pos rfl, updf_same]
  · rw [updf_other e, if_neg]
    refine others h k ?_
    rcases List.mem_append.1 hk with h1 | h1
    · exact List.mem_append_left _ h1
    · exact List.mem_append_right _ ((List.mem_cons.1 h1).resolve_left e)
theorem clean_away (h : ∀ k ∈ B, (f k).n ≠ n) : cleanM n (B.map f) = B.map f := by
  unfold cleanM
  rw [List.map_map]
  apply List.map_congr_left
  intro k hk
  exact if_neg (h k hk)
set_option maxRecDepth 100000 in
theorem clean_any (h : CA R w c size l) (hd : (nos l).Nodup) (hn : Wf n) : Calls Try.prog 14 #[ptr c, .int .i64 n] w fun e w' => e = .returned (.tuple #[]) ∧ CA R w' c size (cleanM n l) ∧ Chg R w w' := by
  obtain ⟨m, z, B, f, nx, pv, h, rfl⟩ := h
  cases hg : get? n (B.map f) with
  | none =>
    rw [clean_away (get_away hg)]
    have HF := hid (find_no h (get_away hg) hn)
    have HH := hid (⟨m, z, B, f, nx, pv, h, rfl⟩ : CA R w c size (B.map f))
    clear h hd hg hn
    go_enter Try.func14, Try.ntmps14
    go_wp2_with fail
    refine HF.out.mono ?_
    rintro e w1 ⟨rfl, rfl⟩
    go_wp2
    go_end0
    exact ⟨rfl, HH.out, Chg.refl _ _⟩
  | some y =>
    obtain ⟨L, s, r, rfl, hy, e⟩ := get_here hg
    have hs : s ∈ L ++ s :: r := List.mem_append_right _ List.mem_cons_self
    have hcl := clean_here hd (List.nodup_cons.1 h.rg.nd).2 hy
    have HF := find_yes h hs
    have hsl := h.rg.sl s (Or.inr hs)
    rw [e] at HF
    rw [← hy, e] at hcl
    rw [hcl]
    have HF := hid HF
    obtain ⟨h1, h2⟩ := h.clean hs
    have HH := hid (And.intro (⟨m, z, _, _, nx, pv, h1, rfl⟩ : CA R (w.setCell ⟨s, 2, none⟩ (.bool false)) c size ((L ++ s :: r).map (updf f s { f s with w := false }))) (h2.mono (G := R) (fun _ _ e => e ▸ h.own.2.2 s (Or.inr hs))))
    unfold Sl at hsl
    obtain ⟨-, -, c2, -, -, l0⟩ := sObj_cells hsl
    obtain ⟨-, -, f2, -, -⟩ := sObj_free hsl
    generalize (L ++ s :: r).map (updf f s { f s with w := false }) = l2 at *
    generalize (f s).w = fw at *
    clear h hd hg hn hy hsl h1 h2 hcl e hs
    go_enter Try.func14, Try.ntmps14
    go_wp2_with fail
    refine HF.out.mono ?_
    rintro e w1 ⟨rfl, rfl⟩
    go_wp2
    go_end0
    exact ⟨rfl, HH.out⟩
set_option maxRecDepth 100000 in
set_option maxHeartbeats 2000000 in
theorem drop_any {L r : List Nat} (h : CaIn R w c size m z (L ++ s :: r) f nx pv) (hd : (nos ((L ++ s :: r).map f)).Nodup) :
    Calls Try.prog 29 #[ptr c, ptr s] w fun e w' => e = .returned (.tuple #[]) ∧ (∃ nx' pv', CaIn R w' c size m z (L ++ r) f nx' pv') ∧ w'.heap[s]? = w.heap[s]? ∧ Chg R w w' := by
  have HL := hid h.rg.leave
  have HH := hid h
  have HD := hid (others hd)
  clear h hd
  go_enter Try.func29, Try.ntmps29
  go_wp2_with fail
  refine HL.out.mono ?_
  rintro e w1 ⟨rfl, ⟨nx', pv', hr⟩, hs, hc⟩
  have hin : ∀ k, k = z ∨ k ∈ L ++ r → k = z ∨ k ∈ L ++ s :: r := fun k hk => in_more hk
  have hmp : MapAt w1.drew m (L ++ s :: r) f := HH.out.mp.apart hc.drew (fun e => (HH.out.ne.1 m (hin m e)).2 rfl)
  have hcb := hc.at HH.out.box (fun e => (HH.out.ne.1 c (hin c e)).1 rfl)
  have hsm := HH.out.rg.sl s in_mid
  unfold Sl at hsm
  rw [← hs] at hsm
  obtain ⟨w2, hrun, hm2, hc2⟩ := hmp.del HD.out (HH.out.wf s (List.mem_append_right _ List.mem_cons_self)) 0
  have HF : Hid ((∃ nx' pv', CaIn R w2 c size m z (L ++ r) f nx' pv') ∧ w2.heap[s]? = w.heap[s]? ∧ Chg R w w2) := by
    have hcw : Chg R w w1 := hc.mono (fun k _ e => HH.out.own.2.2 k (hin k e))
    have hne := HH.out.ne
    have hc3 : Chg (fun k => k = m) w1 w2 := ⟨hc2.os, hc2.tape, hc2.output, hc2.size, hc2.block⟩
    refine hid ⟨⟨nx', pv', hc3.at hcb (fun e => hne.2 e.symm), hr.apart hc3 (fun k hk => (hne.1 k (hin k hk)).2), hm2, ⟨HH.out.own.1, HH.out.own.2.1, fun k hk => HH.out.own.2.2 k (hin k hk)⟩, fun k hk => ?_⟩, ?_, hcw.trans (hc3.mono (fun k _ e => e ▸ HH.out.own.2.1))⟩
    · rcases hin k (Or.inr hk) with rfl | h1
      · exact absurd hk (List.nodup_cons.1 hr.nd).1
      · exact HH.out.wf k h1
    · rw [hc3.block s (lt_of_block hsm) (hne.1 s in_mid).2, hs]
  have c1 := blk_cell hcb 1
  have lc := lt_of_block hcb
  obtain ⟨s0, -, -, -, -, ls⟩ := sObj_cells hsm
  simp only [List.getElem?_toArray, List.getElem?_cons_succ, List.getElem?_cons_zero] at c1
  generalize (f s).n = n at *
  clear hs hc hr hmp hcb hsm hm2 hc2 HD HL HH
  go_wp2
  go_region
  go_wp2
  go_end0
  exact ⟨rfl, HF.out⟩
theorem wo_away (h : ∀ k ∈ B, (f k).n ≠ n) : wo n (B.map f) = B.map f := by
  refine wo_none (fun e => ?_)
  rw [nos_map] at e
  obtain ⟨k, hk, e⟩ := List.mem_map.1 e
  exact h k hk e
set_option maxRecDepth 100000 in
theorem forget_any (h : CA R w c size l) (hd : (nos l).Nodup) (hn : Wf n) : Calls Try.prog 16 #[ptr c, .int .i64 n] w fun e w' => e = .returned (.tuple #[]) ∧ CA R w' c size (wo n l) ∧ Chg R w w' := by
  obtain ⟨m, z, B, f, nx, pv, h, rfl⟩ := h
  cases hg : get? n (B.map f) with
  | none =>
    rw [wo_away (get_away hg)]
    have HF := hid (find_no h (get_away hg) hn)
    have HH := hid (⟨m, z, B, f, nx, pv, h, rfl⟩ : CA R w c size (B.map f))
    clear h hd hg hn
    go_enter Try.func16, Try.ntmps16
    go_wp2_with fail
    refine HF.out.mono ?_
    rintro e w1 ⟨rfl, rfl⟩
    go_wp2
    go_end0
    exact ⟨rfl, HH.out, Chg.refl _ _⟩
  | some y =>
    obtain ⟨L, s, r, rfl, hy, e⟩ := get_here hg
    have HF := find_yes h (List.mem_append_right _ List.mem_cons_self)
    have hw := wo_here hd
    rw [e] at HF hw
    rw [hw]
    have HF := hid HF
    have HD := hid (drop_any h hd)
    clear h hd hg hn hy e hw
    go_enter Try.func16, Try.ntmps16
    go_wp2_with fail
    refine HF.out.mono ?_
    rintro e w1 ⟨rfl, rfl⟩
    go_wp2_with fail
    refine HD.out.mono ?_
    rintro e w1 ⟨rfl, ⟨nx', pv', h2⟩, -, h3⟩
    have HH := hid (And.intro (⟨m, z, _, _, nx', pv', h2, rfl⟩ : CA R w1 c size ((L ++ r).map f)) h3)
    clear h2 h3
    go_wp2
    go_end0
    exact ⟨rfl, HH.out⟩
theorem clear_fin {w1 : World} (h : CaIn R w c size m z B f nx pv) (hR : ∀ k, w.heap.size ≤ k → R k) (hs : w1.heap[w.heap.size + 1]? = some (sObj ⟨0, [], false⟩ (w.heap.size + 1) (w.heap.size + 1))) (hb : Below (w.heap.size + 1) ((w.setCell ⟨c, 1, none⟩ (.map (some w.heap.size))).alloc (.map #[] 0)) w1) :
    CA R (w1.setCell ⟨c, 2, none⟩ (ptr (w.heap.size + 1))) c size [] ∧ Chg R w (w1.setCell ⟨c, 2, none⟩ (ptr (w.heap.size + 1))) ∧ w1.cell? ⟨c, 2, none⟩ = some (ptr z) ∧ w1.frozen? ⟨c, 2, none⟩ = false ∧ c < w1.heap.size := by
  have s1 : ((w.setCell ⟨c, 1, none⟩ (.map (some w.heap.size))).alloc (.map #[] 0)).heap.size = w.heap.size + 1 := by simp [World.setCell]
  have hlc := h.lt.1
  have ca : Chg R w ((w.setCell ⟨c, 1, none⟩ (.map (some w.heap.size))).alloc (.map #[] 0)) := ((Chg.refl R w).setCell (p := ⟨c, 1, none⟩) (Or.inr h.own.1) _).alloc (.map #[] 0)
  have cb : Chg R w w1 := ca.trans (Chg.of_below (by rw [s1]; exact hb))
  have hbox : ((w.setCell ⟨c, 1, none⟩ (.map (some w.heap.size))).alloc (.map #[] 0)).heap[c]? = some (.cells #[.int .i64 (size : Int), .map (some w.heap.size), ptr z] tC (0, 0)) := blk_alloc (blk_set h.box 1 _) _
  have hbox1 := (hb.block c (by omega)).trans hbox
  have hmp : MapAt ((w.setCell ⟨c, 1, none⟩ (.map (some w.heap.size))).alloc (.map #[] 0)) w.heap.size [] f := by
    have := MapAt.new (w.setCell ⟨c, 1, none⟩ (.map (some w.heap.size))) f
    rwa [Mem.set_size] at this
  have hmp1 : MapAt w1 w.heap.size [] f := hmp.apart (F := fun _ => False) (Chg.of_below (by rw [s1]; exact hb)) id
  have hc2 : Chg (· = c) w1 (w1.setCell ⟨c, 2, none⟩ (ptr (w.heap.size + 1))) := (Chg.refl _ _).root 2 _
  have hlt := lt_of_block hs
  refine ⟨⟨w.heap.size, w.heap.size + 1, [], fun _ => ⟨0, [], false⟩, fun _ => w.heap.size + 1, fun _ => w.heap.size + 1, ⟨blk_set hbox1 2 _, ⟨by simp, ⟨rfl, rfl⟩, fun k hk => ?_⟩, (hmp1.apart hc2 (fun e => by omega)).perm (List.Perm.refl _) (fun k hk => (by cases hk)), ⟨h.own.1, hR _ (Nat.le_refl _), fun k hk => ?_⟩, fun k hk => (by cases hk)⟩, rfl⟩, cb.trans (hc2.mono (fun k _ e => e ▸ h.own.1)), blk_cell hbox1 2, blk_free hbox1 2, lt_of_block hbox1⟩
  · rcases hk with rfl | hk
    · exact hc2.at hs (by omega)
    · cases hk
  · rcases hk with rfl | hk
    · exact hR _ (Nat.le_succ _)
    · cases hk
set_option maxRecDepth 100000 in
theorem clear_any (h : CA R w c size l) (hR : ∀ k, w.heap.size ≤ k → R k) : Calls Try.prog 18 #[ptr c] w fun e w' => e = .returned (.tuple #[]) ∧ CA R w' c size [] ∧ Chg R w w' := by
  obtain ⟨m, z, B, f, nx, pv, h, rfl⟩ := h
  have hmk := run_makeMap (P := Try.prog) tMp w
  obtain ⟨-, c1, c2, lc, f1, f2⟩ := h.cells
  have s1 : ((w.setCell ⟨c, 1, none⟩ (.map (some w.heap.size))).alloc (.map #[] 0)).heap.size = w.heap.size + 1 := by simp [World.setCell]
  have HA := alone_any 0 ((w.setCell ⟨c, 1, none⟩ (.map (some w.heap.size))).alloc (.map #[] 0))
  rw [s1] at HA
  have HA := hid HA
  have HF := hid (fun w1 h1 h2 => clear_fin (w1 := w1) h hR h1 h2)
  clear h s1 hR
  go_enter Try.func18, Try.ntmps18
  go_wp2_with fail
  refine HA.out.mono ?_
  rintro e w1 ⟨rfl, hs, hb⟩
  obtain ⟨g1, g2, g3, g4, g5⟩ := HF.out w1 hs hb
  have HG := hid (And.intro g1 g2)
  clear hs hb g1 g2 c1 c2 f1 f2 lc hmk
  go_wp2
  go_end0
  exact ⟨rfl, HG.out⟩
end Ca
end Go.Proofs.Ythciofgkdfideaa
