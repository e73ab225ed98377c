/-
  The cache's Get, shrink and Put.
-/
import Derived.Test.YthciofgkdfideaaCacheObj
import Derived.Test.YthciofgkdfideaaCacheShelf
import Derived.Test.YthciofgkdfideaaCacheRefWo
import Derived.Deep.LoopGhost
namespace Go.Proofs.Ythciofgkdfideaa
open Go.RowKit
namespace Ca
open Num (hid)
open Mem (Bs bs tI tS Chg Row ptr blk_cell blk_free blk_new blk_set blk_other blk_alloc wpList_append_run)
variable {R : Nat → Prop} {w w' : World} {c size m z s : Nat} {B L r : List Nat} {f : Nat → One} {nx pv : Fn} {l : Row} {n : Int}
/-- What any string of a page may have. -/
def Fits (d : Bs) : Prop := d.length ≤ 281474976710656
set_option maxRecDepth 100000 in
theorem clone_any (d : Bs) (hd : Fits d) (w : World) : Calls Try.prog 26 #[.string (bs d)] w fun e w' => e = .returned (.string (bs d)) ∧ Below w.heap.size w w' := by
  have HC := hid (AnyPu.stringslite_Clone Try.cloneL (bs d) w (show (bs d).size ≤ _ from hd))
  clear hd
  go_enter Try.func26, Try.ntmps26
  go_wp2_with fail
  refine HC.out.mono ?_
  rintro e w3 ⟨rfl, hb⟩
  have HB := hid hb
  clear hb
  go_wp2
  go_ret
  exact ⟨rfl, HB.out⟩
theorem mid_perm : (L ++ s :: r).Perm ((L ++ r) ++ [s]) := List.perm_middle.trans (List.perm_append_comm (l₁ := [s]) (l₂ := L ++ r))
theorem CaIn.used {nx' pv' : Fn} (h : CaIn R w c size m z (L ++ s :: r) f nx pv) (hr : Rg w' z ((L ++ r) ++ [s]) f nx' pv') (hc : Chg (fun k => k = z ∨ k ∈ L ++ s :: r) w w') : CaIn R w' c size m z ((L ++ r) ++ [s]) f nx' pv' ∧ Chg R w w' := by
  have hp : (L ++ s :: r).Perm ((L ++ r) ++ [s]) := mid_perm
  exact ⟨h.turn hc (fun e => (h.ne.1 c e).1 rfl) hr ((h.mp.apart hc (fun e => (h.ne.1 m e).2 rfl)).perm hp (fun _ _ => rfl)) (fun k hk => ⟨h.own.2.2 k (Or.inr (hp.mem_iff.2 hk)), h.wf k (hp.mem_iff.2 hk)⟩), hc.mono (fun k _ e => h.own.2.2 k e)⟩
set_option maxRecDepth 100000 in
set_option maxHeartbeats 2000000 in
theorem get_any (h : CA R w c size l) (hd : (nos l).Nodup) (hf : ∀ x ∈ l, Fits x.d) (hn : Wf n) :
    Calls Try.prog 9 #[ptr c, .int .i64 n] w fun e w' => e = .returned (.tuple #[.string (bs (foundM n l).1.d), .bool (foundM n l).2]) ∧ CA R w' c size (getM n l) ∧ Chg R w w' := by
  obtain ⟨m, z, B, f, nx, pv, h, rfl⟩ := h
  cases hg : get? n (B.map f) with
  | none =>
    have e1 : foundM n (B.map f) = (zeroO, false) := by unfold foundM; rw [hg]
    rw [e1, getM_no hg]
    have HF := hid (find_no h (get_away hg) hn)
    have HH := hid (⟨m, z, B, f, nx, pv, h, rfl⟩ : CA R w c size (B.map f))
    clear h hd hg hn e1 hf
    go_enter Try.func9, Try.ntmps9
    go_wp2_with fail
    refine HF.out.mono ?_
    rintro e w1 ⟨rfl, rfl⟩
    go_wp2
    go_ret2
    exact ⟨rfl, HH.out, Chg.refl _ _⟩
  | some y =>
    have e1 : foundM n (B.map f) = (y, true) := by unfold foundM; rw [hg]
    obtain ⟨L, s, r, rfl, hy, e⟩ := get_here hg
    have e2 : getM n ((L ++ s :: r).map f) = ((L ++ r) ++ [s]).map f := by
      have hw := wo_here hd
      rw [e] at hw
      rw [getM_yes hg, hw, List.map_append (l₁ := L ++ r), List.map_singleton, hy]
    rw [e1, e2]
    have hs : s ∈ L ++ s :: r := List.mem_append_right _ List.mem_cons_self
    have HF := find_yes h hs
    rw [e] at HF
    have hfy : Fits y.d := hf y (hy ▸ List.mem_map_of_mem hs)
    have HF := hid HF
    have HU := hid h.rg.use_in
    have HC := hid (fun w => clone_any y.d hfy w)
    have HH := hid h
    have HY := hid hy
    obtain ⟨-, -, c2, lc, -, -⟩ := h.cells
    clear h hd hg hn hy e hf hfy e1 e2 hs
    go_enter Try.func9, Try.ntmps9
    go_wp2_with fail
    refine HF.out.mono ?_
    rintro e w1 ⟨rfl, rfl⟩
    go_wp2_with fail
    refine HU.out.mono ?_
    rintro e w1 ⟨rfl, ⟨nx', pv', hr⟩, hc⟩
    have hsl := hr.sl s (Or.inr (List.mem_append_right _ List.mem_cons_self))
    unfold Sl at hsl
    rw [HY.out] at hsl
    obtain ⟨-, s1, -, -, -, ls⟩ := sObj_cells hsl
    obtain ⟨h2, h3⟩ := HH.out.used hr hc
    have HG := hid (And.intro (⟨m, z, _, _, nx', pv', h2, rfl⟩ : CA R w1 c size (((L ++ r) ++ [s]).map f)) h3)
    clear hr hc hsl h2 h3 c2 lc
    go_wp2_with fail
    refine (HC.out _).mono ?_
    rintro e w2 ⟨rfl, hb⟩
    have HB := hid hb
    clear hb s1 ls
    go_wp2
    go_ret2
    exact ⟨rfl, CA.on HG.out.1 HB.out, HG.out.2.trans (Chg.of_below HB.out)⟩
theorem get_nil (w : World) (n : Int) : Calls Try.prog 9 #[.pointer none, .int .i64 n] w fun e w' => e = .returned (.tuple #[.string ⟨#[]⟩, .bool false]) ∧ w = w' := by
  have HF : Hid (Calls Try.prog 24 #[.pointer none, .int .i64 n] w fun e w' => e = .returned (.pointer none) ∧ w = w') := by
    refine hid ?_
    go_enter Try.func24, Try.ntmps24
    go_wp2
    go_ret
    exact ⟨rfl, rfl⟩
  go_enter Try.func9, Try.ntmps9
  go_wp2_with fail
  refine HF.out.mono ?_
  rintro e w1 ⟨rfl, rfl⟩
  go_wp2
  go_ret2
  exact ⟨rfl, rfl⟩
/-! ### shrink -/
/-- What goes of the first k pages. -/
def goneP (k : Nat) (l : Row) : List Pg := ((l.take k).filter One.w).map pgOf
theorem goneP_no {k : Nat} {l : Row} (h : k < l.length) (e : l[k].w = false) : goneP (k + 1) l = goneP k l := by
  unfold goneP
  rw [List.take_add_one, List.getElem?_eq_getElem h, List.filter_append]
  simp [e]
theorem goneP_yes {k : Nat} {l : Row} (h : k < l.length) (e : l[k].w = true) : goneP (k + 1) l = goneP k l ++ [pgOf l[k]] := by
  unfold goneP
  rw [List.take_add_one, List.getElem?_eq_getElem h, List.filter_append]
  simp [e]
theorem goneP_len (k : Nat) (l : Row) : (goneP k l).length ≤ l.length := by
  unfold goneP
  rw [List.length_map]
  exact Nat.le_trans (List.length_filter_le _ _) (by rw [List.length_take]; omega)
structure ShS (R : Nat → Prop) (w : World) (c size m z : Nat) (B : List Nat) (f : Nat → One) (k : Nat) (vo : Value) (wr : World) : Prop where
  ca : ∃ nx pv, CaIn (fun g => R g ∧ g < w.heap.size) wr c size m z (B.drop k) f nx pv
  row : PR (fun g => w.heap.size ≤ g) wr vo (goneP k (B.map f))
  chg : Chg (fun g => R g ∧ g < w.heap.size) w wr
theorem drop_cons {B : List Nat} {k : Nat} (h : k < B.length) : B.drop k = B[k] :: B.drop (k + 1) := List.drop_eq_getElem_cons h
theorem CaIn.low (h : CaIn R w c size m z B f nx pv) : CaIn (fun g => R g ∧ g < w.heap.size) w c size m z B f nx pv :=
  ⟨h.box, h.rg, h.mp, ⟨⟨h.own.1, h.lt.1⟩, ⟨h.own.2.1, h.lt.2⟩, fun k hk => ⟨h.own.2.2 k hk, h.rg.lt hk⟩⟩, h.wf⟩
theorem CaIn.drew (h : CaIn R w c size m z B f nx pv) : CaIn R w.drew c size m z B f nx pv := ⟨h.box, ⟨h.rg.nd, h.rg.lk, h.rg.sl⟩, h.mp, h.own, h.wf⟩
theorem goneP_at {k : Nat} (h : k < B.length) : ((f B[k]).w = false → goneP (k + 1) (B.map f) = goneP k (B.map f)) ∧ ((f B[k]).w = true → goneP (k + 1) (B.map f) = goneP k (B.map f) ++ [((f B[k]).n, (f B[k]).d)]) := by
  have h2 : k < (B.map f).length := by rw [List.length_map]; exact h
  have e : (B.map f)[k] = f B[k] := List.getElem_map f
  exact ⟨fun h3 => goneP_no h2 (by rw [e]; exact h3), fun h3 => by rw [goneP_yes h2 (by rw [e]; exact h3), e]; rfl⟩
/-- A round whose page was clean; one whose page was dirty. -/
theorem ShS.next {k : Nat} {vo : Value} {wr w1 : World} (h : ShS R w c size m z B f k vo wr) (hc : Chg (fun g => R g ∧ g < w.heap.size) wr.drew w1) :
    PR (fun g => w.heap.size ≤ g) w1 vo (goneP k (B.map f)) ∧ Chg (fun g => R g ∧ g < w.heap.size) w w1 := by
  have hc2 : Chg (fun g => R g ∧ g < w.heap.size) wr w1 := (Chg.refl _ wr).drew.trans hc
  exact ⟨h.row.kept hc2 (fun g hg e => by have := h.row.2 g hg; omega), h.chg.trans hc2⟩
set_option maxRecDepth 100000 in
set_option maxHeartbeats 4000000 in
theorem shrink_any (h : CaIn R w c size m z B f nx pv) (hd : (nos (B.map f)).Nodup) (hB : B.length ≤ 900) :
    Calls Try.prog 28 #[ptr c] w fun e w' => ∃ vp, e = .returned vp ∧ PR (fun g => w.heap.size ≤ g) w' vp (goneP (B.length - size) (B.map f)) ∧ CA R w' c size ((B.map f).drop (B.length - size)) ∧ Chg R w w' := by
  have S0 : Hid (ShS R w c size m z B f 0 (.slice none 0 0) w) := hid ⟨⟨nx, pv, by rw [List.drop_zero]; exact h.low⟩, ⟨World.ownsRow_nil w 0 tP 2, fun g hg => by simp [Value.ownBlock] at hg⟩, Chg.refl _ _⟩
  have HD := hid hd
  have HB := hid hB
  clear h hd hB
  go_enter Try.func28, Try.ntmps28
  go_wp2_with fail
  go_loopg [3] (B.length - size) (fun gk vo wr => ∃ k : Nat, gk = B.length - size - k ∧ k ≤ B.length - size ∧ Hid (ShS R w c size m z B f k vo wr))
  case atStart => exact ⟨0, rfl, Nat.zero_le _, S0⟩
  case round =>
    obtain ⟨k, hgk, hk, HS⟩ := hrel
    clear S0
    obtain ⟨nx1, pv1, hca⟩ := HS.out.ca
    obtain ⟨c0, c1, c2, lc, -, -⟩ := hca.cells
    have hmp : MapAt wr.drew m (B.drop k) f := hca.mp
    have hlen := fun ty => hmp.len ty
    rw [List.length_drop] at hlen
    obtain ⟨nl, hnl⟩ : ∃ x, B.length - k = x := ⟨_, rfl⟩
    rw [hnl] at hlen
    have HNL := hid hnl
    have HK := hid (And.intro hgk hk)
    have HW := hid (show wr.heap.size = wr.drew.heap.size from rfl)
    by_cases hlt : size < nl
    · have hlt1 : (size : Int) < (nl : Int) := by omega
      have hkl : k < B.length := by omega
      have hc2 : CaIn (fun g => R g ∧ g < w.heap.size) wr.drew c size m z ([] ++ B[k] :: B.drop (k + 1)) f nx1 pv1 := by
        rw [List.nil_append, ← drop_cons hkl]
        exact hca.drew
      have hnx : nx1 z = B[k] := hc2.rg.lk.1
      have hsz := hc2.rg.sl z (Or.inl rfl)
      have hss := hc2.rg.sl B[k] in_mid
      unfold Sl at hsz hss
      rw [hnx] at hsz
      obtain ⟨-, -, -, -, z4, lz⟩ := sObj_cells hsz
      have hnd : (nos (([] ++ B[k] :: B.drop (k + 1)).map f)).Nodup := by
        rw [List.nil_append, ← drop_cons hkl, List.map_drop]
        exact HD.out.sublist (List.Sublist.map One.n (List.drop_sublist _ _))
      have HDR := hid (drop_any hc2 hnd)
      have HSS := hid hss
      have HX := hid (goneP_at (f := f) hkl)
      have HGL := hid (goneP_len k (B.map f))
      rw [List.length_map] at HGL
      have HK2 : Hid (gk - 1 < gk ∧ gk - 1 = B.length - size - (k + 1) ∧ k + 1 ≤ B.length - size) := hid (by omega)
      generalize B[k] = s at *
      clear hca hmp hc2 hnx hsz hss hnd hgk hk hnl hkl HK HNL
      go_wp2_with fail
      go_region
      go_wp2_with fail
      refine HDR.out.mono ?_
      rintro e w1 ⟨rfl, ⟨nx2, pv2, hca2⟩, hs2, hch⟩
      obtain ⟨hrow, hchg⟩ := HS.out.next hch
      rw [List.nil_append] at hca2
      rw [HSS.out] at hs2
      obtain ⟨p0, p1, p2, -, -, lp⟩ := sObj_cells hs2
      cases hw : (f s).w with
      | false =>
        have HH : Hid (ShS R w c size m z B f (k + 1) u3 w1) := hid ⟨⟨nx2, pv2, hca2⟩, by rw [HX.out.1 hw]; exact hrow, hchg⟩
        rw [hw] at p2
        clear hca2 hs2 hch hrow hchg hw HDR HS HX HSS HGL c0 c1 c2 z4 lz p0 p1 hlen
        go_wp2
        go_roundg (gk - 1)
        case rel => exact ⟨k + 1, HK2.out.2.1, HK2.out.2.2, HH⟩
        case measure => exact HK2.out.1
      | true =>
        obtain ⟨v2, w2, hr2, ho2, hc3, hk3⟩ := push_p hrow (fun j hj => by have := hchg.size; show w.heap.size ≤ j; omega) ((f s).n, (f s).d) (by have := HGL.out; have := HB.out; omega)
        have HH : Hid (ShS R w c size m z B f (k + 1) v2 w2) := hid ⟨⟨nx2, pv2, hca2.apart hc3 (fun j hj e => by have := hrow.2 j hj; omega)⟩, by rw [HX.out.2 hw]; exact ho2, hchg.then hc3 (fun j _ e => Or.inl (hrow.2 j e))⟩
        have HR2 := hid hr2
        rw [hw] at p2
        generalize (f s).n = q0 at *
        generalize (f s).d = q1 at *
        clear hca2 hs2 hch hrow hchg hw HDR HS HX HSS HGL c0 c1 c2 z4 lz hlen hr2 ho2 hc3 hk3
        go_wp2_with (at_builtin; refine wpList_append_run rfl (.tmp 29) (.tmp 34) tPs tPs rfl _ _ (by simp [Act.eval]) (by simp [Act.eval]) HR2.out ?_)
        go_roundg (gk - 1)
        case rel => exact ⟨k + 1, HK2.out.2.1, HK2.out.2.2, HH⟩
        case measure => exact HK2.out.1
    · have hlt1 : ¬ (size : Int) < (nl : Int) := by omega
      have hke : k = B.length - size := by omega
      have hrow := HS.out.row
      have hch := HS.out.chg
      have HF : Hid (PR (fun g => w.heap.size ≤ g) wr.drew u3 (goneP (B.length - size) (B.map f)) ∧ CA R wr.drew c size ((B.map f).drop (B.length - size)) ∧ Chg R w wr.drew) := by
        rw [← hke]
        refine hid ⟨⟨hrow.1, hrow.2⟩, ⟨m, z, B.drop k, f, nx1, pv1, ⟨hca.drew.box, hca.drew.rg, hca.drew.mp, ⟨hca.own.1.1, hca.own.2.1.1, fun j hj => (hca.own.2.2 j hj).1⟩, hca.wf⟩, List.map_drop.symm⟩, (hch.mono (fun _ _ e => e.1)).drew⟩
      clear hca hmp hrow hch hgk hk hnl hke HK HNL HS HB HD
      go_wp2_with fail
      go_region
      go_wp2
      go_ret
      exact ⟨_, rfl, HF.out⟩
/-! ### Put -/
theorem clone_fit {d : Bs} (hd : Fits d) : ∀ w, Calls Try.prog 26 #[.string (bs d)] w fun e w' => e = .returned (.string (bs d)) ∧ Below w.heap.size w w' := fun w => clone_any d hd w
/-- The two stores into a slot. -/
theorem Rg.store {w : World} {z s : Nat} {B : List Nat} {f : Nat → One} {nx pv : Fn} (h : Rg w z B f nx pv) (d : Bs) (b : Bool) : Rg ((w.setCell ⟨s, 1, none⟩ (.string (bs d))).setCell ⟨s, 2, none⟩ (.bool b)) z B (updf f s ⟨(f s).n, d, b⟩) nx pv := by
  refine ⟨h.nd, h.lk, fun k hk => ?_⟩
  have h1 := ((h.sl k hk).d_set s d).w_set s b
  have e : updf (updf f s { f s with d := d }) s { updf f s { f s with d := d } s with w := b } = updf f s ⟨(f s).n, d, b⟩ := by
    funext j
    unfold updf
    by_cases e : j = s
    · simp [e]
    · simp [e]
  rw [e] at h1
  exact h1
theorem chg_two (w : World) (s : Nat) (d : Bs) (b : Bool) : Chg (· = s) w ((w.setCell ⟨s, 1, none⟩ (.string (bs d))).setCell ⟨s, 2, none⟩ (.bool b)) := ((Chg.refl _ w).root 1 _).root 2 _
theorem CaIn.store (h : CaIn R w c size m z B f nx pv) (hs : s ∈ B) (d : Bs) (b : Bool) : CaIn R ((w.setCell ⟨s, 1, none⟩ (.string (bs d))).setCell ⟨s, 2, none⟩ (.bool b)) c size m z B (updf f s ⟨(f s).n, d, b⟩) nx pv := by
  have hc := chg_two w s d b
  have hne := h.ne.1 s (Or.inr hs)
  have hn := updf_n (f := f) (s := s) (x := ⟨(f s).n, d, b⟩) rfl
  exact h.turn hc (fun e => hne.1 e.symm) (h.rg.store d b) ((h.mp.apart hc (fun e => hne.2 e.symm)).perm (List.Perm.refl _) (fun k _ => hn k)) (fun k hk => ⟨h.own.2.2 k (Or.inr hk), (hn k).symm ▸ h.wf k hk⟩)
/-- The page is put: what stands at hand ahead of shrink. -/
theorem put_here {y : One} {L r : List Nat} {s : Nat} {f : Nat → One} {d : Bs} {b : Bool} (h : (nos ((L ++ s :: r).map f)).Nodup) (hz : (L ++ s :: r).Nodup) (_hy : f s = y) : ((L ++ r) ++ [s]).map (updf f s ⟨(f s).n, d, b⟩) = onto (f s).n d b ((L ++ s :: r).map f) := by
  have hs : s ∉ L ++ r := by
    have h2 : (s :: (L ++ r)).Nodup := (List.perm_middle.nodup_iff (l₁ := L ++ s :: r)).1 hz
    exact (List.nodup_cons.1 h2).1
  unfold onto
  rw [wo_here h, List.map_append (l₁ := L ++ r), updf_map hs, List.map_singleton, updf_same]
/-- A block that is none of the ring's: it may be told anything of. -/
theorem Rg.more (h : Rg w z B f nx pv) (hs : s ∉ z :: B) (x : One) : Rg w z B (updf f s x) (upd nx s s) (upd pv s s) := by
  have hne : ∀ k, k = z ∨ k ∈ B → k ≠ s := fun k hk e => hs (by
    rcases hk with h1 | h1
    · rw [← e, h1]; exact List.mem_cons_self
    · rw [← e]; exact List.mem_cons_of_mem _ h1)
  refine ⟨h.nd, h.lk.same (fun y hy => upd_other (hne y hy)) (fun y hy => upd_other (hne y hy)), fun k hk => ?_⟩
  have := h.sl k hk
  unfold Sl at this ⊢
  rw [updf_other (hne k hk), upd_other (hne k hk), upd_other (hne k hk)]
  exact this
theorem updf_twice (f : Nat → One) (s : Nat) (x y : One) : updf (updf f s x) s y = updf f s y := by
  funext k
  unfold updf
  split <;> rfl
/-- A slot of a page that wasn't at hand: in the map, filled, not yet in the ring. -/
theorem CaIn.fresh {w1 w2 w3 : World} {d : Bs} {dt : Bool} (h : CaIn R w c size m z B f nx pv) (hs : w1.heap[w.heap.size]? = some (sObj ⟨n, [], false⟩ w.heap.size w.heap.size)) (hb : Below w.heap.size w w1) (hm2 : MapAt w2 m (B ++ [w.heap.size]) (updf f w.heap.size ⟨n, [], false⟩)) (hc2 : Chg (· = m) w1 w2) (hb3 : Below w2.heap.size w2 w3) :
    Rg ((w3.setCell ⟨w.heap.size, 1, none⟩ (.string (bs d))).setCell ⟨w.heap.size, 2, none⟩ (.bool dt)) z B (updf f w.heap.size ⟨n, d, dt⟩) (upd nx w.heap.size w.heap.size) (upd pv w.heap.size w.heap.size) ∧
      Sl ((w3.setCell ⟨w.heap.size, 1, none⟩ (.string (bs d))).setCell ⟨w.heap.size, 2, none⟩ (.bool dt)) (updf f w.heap.size ⟨n, d, dt⟩) (upd nx w.heap.size w.heap.size) (upd pv w.heap.size w.heap.size) w.heap.size ∧
      MapAt ((w3.setCell ⟨w.heap.size, 1, none⟩ (.string (bs d))).setCell ⟨w.heap.size, 2, none⟩ (.bool dt)) m (B ++ [w.heap.size]) (updf f w.heap.size ⟨n, d, dt⟩) ∧
      w.heap.size ∉ z :: B ∧ Chg (fun k => k = m) w ((w3.setCell ⟨w.heap.size, 1, none⟩ (.string (bs d))).setCell ⟨w.heap.size, 2, none⟩ (.bool dt)) ∧
      w3.heap[w.heap.size]? = some (sObj ⟨n, [], false⟩ w.heap.size w.heap.size) := by
  have hsz : w.heap.size ∉ z :: B := fun e => by
    have := h.rg.lt (k := w.heap.size) (List.mem_cons.1 e)
    omega
  have hlm := h.lt.2
  have hl1 := lt_of_block hs
  have hs3 : w3.heap[w.heap.size]? = some (sObj ⟨n, [], false⟩ w.heap.size w.heap.size) := (hb3.block _ (Nat.lt_of_lt_of_le hl1 hc2.size)).trans (hc2.at hs (by omega))
  have hcm : Chg (fun k => k = m) w w3 := ((Chg.of_below hb : Chg (fun k => k = m) w w1).then hc2 (fun k _ e => Or.inr e)).trans (Chg.of_below hb3)
  have hr3 : Rg w3 z B f nx pv := h.rg.apart hcm (fun k hk => (h.ne.1 k hk).2)
  have hr4 := (hr3.more hsz ⟨n, [], false⟩).store (s := w.heap.size) d dt
  rw [updf_twice, updf_same] at hr4
  have hm3 : MapAt w3 m (B ++ [w.heap.size]) (updf f w.heap.size ⟨n, [], false⟩) := hm2.apart (F := fun _ => False) (Chg.of_below hb3) id
  have hct := chg_two w3 w.heap.size d dt
  refine ⟨hr4, ?_, (hm3.apart hct (fun e => by omega)).perm (List.Perm.refl _) (fun k _ => ?_), hsz, hcm.then hct (fun k _ e => Or.inl (Nat.le_of_eq e.symm)), hs3⟩
  · unfold Sl
    rw [updf_same, upd_same, upd_same]
    exact blk_set (blk_set hs3 1 _) 2 _
  · by_cases e : k = w.heap.size
    · rw [e, updf_same, updf_same]
    · rw [updf_other e, updf_other e]
/-- .. and in the ring. -/
theorem CaIn.joined {w4 w5 : World} {d : Bs} {dt : Bool} {nx' pv' : Fn} (h : CaIn R w c size m z B f nx pv) (hR : ∀ k, w.heap.size ≤ k → R k) (hn : Wf n) (hm : MapAt w4 m (B ++ [w.heap.size]) (updf f w.heap.size ⟨n, d, dt⟩)) (hc : Chg (fun k => k = m) w w4) (hr : Rg w5 z (B ++ [w.heap.size]) (updf f w.heap.size ⟨n, d, dt⟩) nx' pv') (hc5 : Chg (fun k => k = z ∨ k ∈ w.heap.size :: B) w4 w5) :
    CaIn R w5 c size m z (B ++ [w.heap.size]) (updf f w.heap.size ⟨n, d, dt⟩) nx' pv' ∧ Chg R w w5 := by
  have hl := h.lt
  have hin : ∀ k, k < w.heap.size → (k = z ∨ k ∈ w.heap.size :: B) → k = z ∨ k ∈ B := fun k hk e => e.imp_right (fun e => (List.mem_cons.1 e).resolve_left (by omega))
  have hcw : Chg (fun k => k = m ∨ k = z ∨ k ∈ B) w w5 := (hc.mono (fun k _ e => Or.inl e)).then hc5 (fun k _ e => by
    by_cases hk : k < w.heap.size
    · exact Or.inr (Or.inr (hin k hk e))
    · exact Or.inl (by omega))
  refine ⟨⟨hcw.at h.box (fun e => ?_), hr, hm.apart hc5 (fun e => (h.ne.1 m (hin m hl.2 e)).2 rfl), ⟨h.own.1, h.own.2.1, fun k hk => ?_⟩, fun k hk => ?_⟩, hcw.mono (fun k _ e => ?_)⟩
  · rcases e with e | e
    · exact h.ne.2 e.symm
    · exact (h.ne.1 c e).1 rfl
  · rcases hk with e | e
    · exact h.own.2.2 k (Or.inl e)
    · rcases List.mem_append.1 e with e | e
      · exact h.own.2.2 k (Or.inr e)
      · rw [List.mem_singleton] at e
        exact hR k (Nat.le_of_eq e.symm)
  · by_cases e : k = w.heap.size
    · rw [e, updf_same]
      exact hn
    · rw [updf_other e]
      rcases List.mem_append.1 hk with e2 | e2
      · exact h.wf k e2
      · exact absurd (List.mem_singleton.1 e2) e
  · rcases e with e | e
    · exact e ▸ h.own.2.1
    · exact h.own.2.2 k e
set_option maxRecDepth 100000 in
set_option maxHeartbeats 4000000 in
theorem put_any (h : CA R w c size l) (hd : (nos l).Nodup) (hl : l.length ≤ 800) (hR : ∀ k, w.heap.size ≤ k → R k) (hn : Wf n) {d : Bs} (hf : Fits d) (dt : Bool) :
    Calls Try.prog 12 #[ptr c, .int .i64 n, .string (bs d), .bool dt] w fun e w' => ∃ vp, e = .returned vp ∧ PR (fun g => w.heap.size ≤ g) w' vp (outM size n d dt l) ∧ CA R w' c size (putM size n d dt l) ∧ Chg R w w' := by
  obtain ⟨m, z, B, f, nx, pv, h, rfl⟩ := h
  have HC := hid (clone_fit hf)
  cases hg : get? n (B.map f) with
  | some y =>
    obtain ⟨L, s, r, rfl, hy, e⟩ := get_here hg
    have hs : s ∈ L ++ s :: r := List.mem_append_right _ List.mem_cons_self
    have hlook := h.mp.look_yes hs (h.wf s hs)
    rw [e] at hlook
    obtain ⟨-, c1, c2, lc, -, -⟩ := h.cells
    have HON := hid (put_here (d := d) (b := dt) hd (List.nodup_cons.1 h.rg.nd).2 hy)
    rw [e] at HON
    have HH := hid h
    have HE := hid e
    have HO := hid (nodup_onto n d dt hd)
    have HLEN : Hid ((onto n d dt ((L ++ s :: r).map f)).length ≤ 801) := hid (by rw [onto_len]; have := wo_len n ((L ++ s :: r).map f); omega)
    unfold putM outM
    generalize onto n d dt ((L ++ s :: r).map f) = O at *
    clear hg hy hd hl hf hn hR e h
    go_enter Try.func12, Try.ntmps12
    go_wp2_with fail
    refine (HC.out _).mono ?_
    rintro e w1 ⟨rfl, hb⟩
    have h1 := HH.out.on hb
    have hsl := h1.rg.sl s in_mid
    unfold Sl at hsl
    obtain ⟨-, s1, s2, -, -, ls⟩ := sObj_cells hsl
    obtain ⟨-, f1, f2, -, -⟩ := sObj_free hsl
    obtain ⟨-, d1, d2, ld, -, -⟩ := h1.cells
    have hsc : ¬ s = c := (h1.ne.1 s in_mid).1
    have hcs : ¬ c = s := fun e => hsc e.symm
    have hst := h1.store hs d dt
    rw [HE.out] at hst
    have HS := hid hst
    have HU := hid HS.out.rg.use_in
    have HCH := hid ((Chg.of_below hb : Chg R w w1).trans ((chg_two w1 s d dt).mono (fun k _ e => e ▸ h1.own.2.2 s in_mid)))
    clear hb h1 hsl hs c1 c2 lc hlook hst
    go_wp2_with fail
    refine HU.out.mono ?_
    rintro e w2 ⟨rfl, ⟨nx2, pv2, hr2⟩, hc2⟩
    obtain ⟨h2, h3⟩ := HS.out.used hr2 hc2
    have hnd := HO.out
    have hlen := HLEN.out
    rw [← HON.out] at hnd hlen
    rw [List.length_map] at hlen
    have HSH := shrink_any h2 hnd (by omega)
    rw [show ((L ++ r) ++ [s]).length = (((L ++ r) ++ [s]).map (updf f s ⟨n, d, dt⟩)).length by rw [List.length_map], HON.out] at HSH
    have HSH := hid HSH
    have HCH2 := hid (HCH.out.trans h3)
    clear hr2 hc2 h2 h3 hnd hlen s1 s2 ls f1 f2 d1 d2 ld
    go_wp2_with fail
    refine HSH.out.mono ?_
    rintro e w3 ⟨vp, rfl, hp, hca, hch⟩
    have HF := hid (And.intro (hp.mono (fun g _ e => (Nat.le_trans HCH2.out.size e : w.heap.size ≤ g))) (And.intro hca (HCH2.out.trans hch)))
    obtain ⟨ao, cap, hv, -⟩ := Mem.row_shape hp.1
    clear hp hca hch
    subst hv
    go_wp2
    go_ret
    exact ⟨_, rfl, HF.out⟩
  | none =>
    have hga := get_away hg
    have hlook := h.mp.look_no hga hn
    obtain ⟨-, c1, c2, lc, -, -⟩ := h.cells
    have HA := hid (alone_any n w)
    have HH := hid h
    have HGA := hid hga
    have HN := hid hn
    have HRR := hid hR
    have hl2 : B.length ≤ 800 := by rw [List.length_map] at hl; exact hl
    have HO := hid (nodup_onto n d dt hd)
    have HON : Hid (∀ s, s ∉ B → (B ++ [s]).map (updf f s ⟨n, d, dt⟩) = onto n d dt (B.map f)) := hid (fun s hs => by
      unfold onto
      rw [wo_away hga, List.map_append, updf_map hs, List.map_singleton, updf_same])
    have HL := hid hl2
    unfold putM outM
    generalize onto n d dt (B.map f) = O at *
    clear hg hga hd hl hf hn hR h hl2
    go_enter Try.func12, Try.ntmps12
    go_wp2_with fail
    refine HA.out.mono ?_
    rintro e w1 ⟨rfl, hs, hb⟩
    have h1 := HH.out.on hb
    obtain ⟨-, d1, d2, ld, -, -⟩ := h1.cells
    have hsz : w.heap.size ∉ B := fun e => by have := HH.out.rg.lt (Or.inr e); omega
    obtain ⟨w2, hrun, hm2, hc2⟩ := h1.mp.put (f' := updf f w.heap.size ⟨n, [], false⟩) (b := w.heap.size) HGA.out HN.out (by have := HL.out; omega) (fun k hk => by rw [updf_other (fun e : k = w.heap.size => hsz (e ▸ hk))]) (by rw [updf_same])
    have hcb2 := hc2.at h1.box (fun e => h1.ne.2 e.symm)
    have HB1 := hid hb
    have HS1 := hid hs
    have HM2 := hid hm2
    have HC2 := hid hc2
    have HSZ := hid hsz
    have g1 := blk_cell hcb2 1
    have g2 := blk_cell hcb2 2
    have lg := lt_of_block hcb2
    simp only [List.getElem?_toArray, List.getElem?_cons_succ, List.getElem?_cons_zero] at g1 g2
    have HCB := hid hcb2
    clear hs hb h1 hm2 hc2 hsz hcb2 c1 c2 lc hlook
    go_wp2_with fail
    refine (HC.out _).mono ?_
    rintro e w3 ⟨rfl, hb3⟩
    obtain ⟨k1, k2, k3, k4, k5, k6⟩ := HH.out.fresh (d := d) (dt := dt) HS1.out HB1.out HM2.out HC2.out hb3
    obtain ⟨-, s1, s2, -, -, ls⟩ := sObj_cells k6
    obtain ⟨-, f1, f2, -, -⟩ := sObj_free k6
    have hcb3 := (hb3.block c (lt_of_block HCB.out)).trans HCB.out
    have e2 := blk_cell hcb3 2
    have le := lt_of_block hcb3
    simp only [List.getElem?_toArray, List.getElem?_cons_succ, List.getElem?_cons_zero] at e2
    have hsc : ¬ w.heap.size = c := by have := HH.out.lt.1; omega
    have hcs : ¬ c = w.heap.size := fun e => hsc e.symm
    have HU := hid (k1.use_new k2 (upd_same _ _ _) (upd_same _ _ _) k4)
    have HK := hid (And.intro k3 (And.intro k4 k5))
    clear hb3 k1 k2 k3 k4 k5 k6 hcb3 hrun d1 d2 ld g1 g2 lg
    go_wp2_with fail
    refine HU.out.mono ?_
    rintro e w5 ⟨rfl, ⟨nx5, pv5, hr5⟩, hc5⟩
    obtain ⟨h5, hch⟩ := HH.out.joined HRR.out HN.out HK.out.1 HK.out.2.2 hr5 hc5
    have hon := HON.out w.heap.size HSZ.out
    have hnd := HO.out
    rw [← hon] at hnd
    have HSH := shrink_any h5 hnd (by rw [List.length_append, List.length_singleton]; have := HL.out; omega)
    rw [show (B ++ [w.heap.size]).length = ((B ++ [w.heap.size]).map (updf f w.heap.size ⟨n, d, dt⟩)).length by rw [List.length_map], hon] at HSH
    have HSH := hid HSH
    have HCH2 := hid hch
    clear h5 hch hon hnd hr5 hc5 s1 s2 ls f1 f2 e2 le hsc hcs HK HU HCB HSZ HM2 HC2 HS1 HB1
    go_wp2_with fail
    refine HSH.out.mono ?_
    rintro e w6 ⟨vp, rfl, hp, hca, hch⟩
    have HF := hid (And.intro (hp.mono (fun g _ e => (Nat.le_trans HCH2.out.size e : w.heap.size ≤ g))) (And.intro hca (HCH2.out.trans hch)))
    obtain ⟨ao, cap, hv, -⟩ := Mem.row_shape hp.1
    clear hp hca hch
    subst hv
    go_wp2
    go_ret
    exact ⟨_, rfl, HF.out⟩
theorem put_nil (w : World) (n : Int) (d : ByteArray) (b : Bool) : Calls Try.prog 12 #[.pointer none, .int .i64 n, .string d, .bool b] w fun e w' => e = .returned (.slice none 0 0) ∧ w = w' := by
  go_enter Try.func12, Try.ntmps12
  go_wp2
  go_ret
  exact ⟨rfl, rfl⟩
end Ca
end Go.Proofs.Ythciofgkdfideaa
