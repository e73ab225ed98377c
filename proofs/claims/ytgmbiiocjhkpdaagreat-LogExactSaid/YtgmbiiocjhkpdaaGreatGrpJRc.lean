/-
  Put together: RefMade, RefCut, RefBox.
-/
import Derived.Test.YtgmbiiocjhkpdaaGreatGrpJRb
/-
  Contract of the reference's made: a file that is there, or one that is made in its place.
-/
namespace Go.Proofs.YtgmbiiocjhkpdaaGreat
open Go.RowKit
namespace Ref
open Disk
open Num (hid bcells)

theorem less_before : ∀ a b : List UInt8, Op.bytesLess a b = bytesBefore a b
  | [], [] => rfl
  | [], _ :: _ => rfl
  | _ :: _, [] => rfl
  | a :: r, b :: s => by
    have := less_before r s
    simp only [Op.bytesLess, bytesBefore, this]
/-- Where a name comes in. -/
theorem insB_at {α : Type} (x : Nam × α) : ∀ (L : List (Nam × α)) (p : Nat) (_ : p ≤ L.length), (∀ i (h : i < p), bytesBefore x.1 (L[i]'(by omega)).1 = false) → (∀ h : p < L.length, bytesBefore x.1 L[p].1 = true) → insB x L = L.take p ++ x :: L.drop p
  | [], p, hp, _, _ => by
    obtain rfl : p = 0 := by simpa using hp
    rfl
  | y :: r, 0, _, _, h => by
    have := h (by simp)
    simp only [List.getElem_cons_zero] at this
    simp only [insB, this, if_true, List.take_zero, List.drop_zero, List.nil_append]
  | y :: r, p + 1, hp, hb, h => by
    have h0 := hb 0 (by omega)
    simp only [List.getElem_cons_zero] at h0
    have ih := insB_at x r p (by simpa using hp) (fun i hi => by have := hb (i + 1) (by omega); simpa using this) (fun hh => by have := h (by simpa using hh); simpa using this)
    simp only [insB, h0, Bool.false_eq_true, if_false, List.take_succ_cons, List.drop_succ_cons, List.cons_append, ih]

/-- A file without sectors. -/
def newR (s : ByteArray) : FR := ⟨s, .slice none 0 0, .slice none 0 0, .slice none 0 0, false⟩
def newE (s : ByteArray) : FR × (Nam × Fil) := (newR s, (s.data.toList, emptyFil))
theorem newE_file (R : Nat → Prop) (w : World) (s : ByteArray) : FileR R w (newE s).1 (newE s).2.1 (newE s).2.2 :=
  ⟨rfl, rfl, ⟨World.ownsRow_nil _ _ _ _, fun g h => by cases h⟩, ⟨World.ownsRow_nil _ _ _ _, fun g h => by cases h⟩, ⟨World.ownsRow_nil _ _ _ _, fun g h => by cases h⟩⟩
/-- The row with the new file at p, of the first k. -/
def mid (E : Ens) (x : FR × (Nam × Fil)) (p k : Nat) : Ens := E.take p ++ x :: (E.take k).drop p
theorem mid_next (E : Ens) (x : FR × (Nam × Fil)) {p k : Nat} (hp : p ≤ k) (hk : k < E.length) : mid E x p (k + 1) = mid E x p k ++ [E[k]] := by
  unfold mid
  rw [List.take_succ_eq_append_getElem hk, List.drop_append_of_le_length (by rw [List.length_take]; omega), List.append_assoc, List.cons_append]
theorem mid_self (E : Ens) (x : FR × (Nam × Fil)) {k : Nat} (_ : k ≤ E.length) : mid E x k k = E.take k ++ [x] := by
  unfold mid
  rw [List.drop_of_length_le (by rw [List.length_take]; omega)]
/-- What has been laid behind k files. -/
def MidAt (w : World) (E : Ens) (s : ByteArray) (k : Nat) (at_ : Int) (o : Value) (wr : World) : Prop :=
  Below w.heap.size w wr ∧ (∀ g, o.ownBlock = some g → w.heap.size ≤ g) ∧
    ((at_ = -1 ∧ wr.ownsRow 0 tF 5 o k (Ens.cells (E.take k)) ∧ ∀ i (h : i < E.length), i < k → bytesBefore s.data.toList E[i].2.1 = false) ∨
      ∃ p : Nat, p < k ∧ ∃ h : p < E.length, at_ = p ∧ wr.ownsRow 0 tF 5 o (k + 1) (Ens.cells (mid E (newE s) p k)) ∧ bytesBefore s.data.toList E[p].2.1 = true ∧ ∀ i (h : i < E.length), i < p → bytesBefore s.data.toList E[i].2.1 = false)
theorem mid_end {E : Ens} {s : ByteArray} {p : Nat} (hp : p ≤ E.length) (hb : ∀ i (h : i < E.length), i < p → bytesBefore s.data.toList E[i].2.1 = false) (ht : ∀ h : p < E.length, bytesBefore s.data.toList E[p].2.1 = true) (F : Fil) :
    (Ens.dir E).take p ++ (s.data.toList, F) :: (Ens.dir E).drop p = insB (s.data.toList, F) (Ens.dir E) := by
  rw [insB_at (s.data.toList, F) (Ens.dir E) p (by rw [dir_len]; exact hp) (fun i hi => by rw [dir_at E i (by omega)]; exact hb i (by omega) hi) (fun h => by rw [dir_at E p (by rw [dir_len] at h; exact h)]; exact ht (by rw [dir_len] at h; exact h))]

theorem mid_get (E : Ens) (x : FR × (Nam × Fil)) {p k : Nat} (hp : p ≤ E.length) : ∃ h : p < (mid E x p k).length, (mid E x p k)[p] = x := by
  have hl : (E.take p).length = p := by rw [List.length_take]; omega
  refine ⟨by unfold mid; rw [List.length_append, hl, List.length_cons]; omega, ?_⟩
  unfold mid
  rw [List.getElem_append_right (by omega)]
  simp [hl]
theorem mid_set (E : Ens) (x y : FR × (Nam × Fil)) {p k : Nat} (hp : p ≤ E.length) : (mid E x p k).set p y = mid E y p k := by
  have hl : (E.take p).length = p := by rw [List.length_take]; omega
  unfold mid
  rw [List.set_append_right _ _ (by omega), hl, Nat.sub_self, List.set_cons_zero]
theorem mid_dir (E : Ens) (y : FR × (Nam × Fil)) (p : Nat) : Ens.dir (mid E y p E.length) = (Ens.dir E).take p ++ y.2 :: (Ens.dir E).drop p := by
  unfold mid Ens.dir
  rw [List.take_of_length_le (Nat.le_refl _), List.map_append, List.map_cons, List.map_take, List.map_drop]
theorem mid_len (E : Ens) (y : FR × (Nam × Fil)) {p : Nat} (hp : p ≤ E.length) : (mid E y p E.length).length = E.length + 1 := by
  unfold mid
  rw [List.take_of_length_le (Nat.le_refl _), List.length_append, List.length_take, List.length_cons, List.length_drop]
  omega
theorem mid_mem {E : Ens} {y x : FR × (Nam × Fil)} {p k : Nat} (h : x ∈ mid E y p k) : x = y ∨ x ∈ E := by
  unfold mid at h
  rcases List.mem_append.1 h with h | h
  · exact Or.inr (List.mem_of_mem_take h)
  · rcases List.mem_cons.1 h with h | h
    · exact Or.inl h
    · exact Or.inr (List.mem_of_mem_take (List.mem_of_mem_drop h))
theorem push {w wr : World} {o : Value} {n : Nat} {xs : List Value} (hbel : Below w.heap.size w wr) (hlow : ∀ g, o.ownBlock = some g → w.heap.size ≤ g) (ho : wr.ownsRow 0 tF 5 o n xs) (f : FR) (hf : f.One) (hn : n ≤ 1000) :
    ∃ v' w', (Builtin.append_ #[tFs, tFs] tFs #[o, .slice (some ⟨wr.heap.size, 0, none⟩) 1 1]).run Tryz.prog (wr.alloc (.cells #[.string f.name, f.now, f.safe, f.wait, .bool f.sure] tF)) = .ok v' w' ∧ Below w.heap.size w w' ∧ (∀ g, v'.ownBlock = some g → w.heap.size ≤ g) ∧ w'.ownsRow 0 tF 5 v' (n + 1) (xs ++ f.cells) := by
  obtain ⟨v', w', hr, ho', hc, hw⟩ := push_file ho f hf hn
  refine ⟨v', w', hr, hbel.trans (hc.below hbel.size (fun k hk e => by have := hlow k e; omega)), fun g hg => ?_, ho'⟩
  rcases hw g hg with h | h
  · exact hlow g h
  · have := hbel.size; omega
theorem cells_snoc (L : Ens) (x : FR × (Nam × Fil)) : Ens.cells (L ++ [x]) = Ens.cells L ++ x.1.cells := by
  rw [Ens.cells_append]
  unfold Ens.cells
  simp

section
variable {R : Nat → Prop} {w : World} {r : Nat} {v : Value} {E : Ens} {c : Ctl} {a k m : Int}
/-- Behind made. -/
def MadeOut (R : Nat → Prop) (w : World) (r : Nat) (E : Ens) (c : Ctl) (a k m : Int) (s : ByteArray) (e : Ending) (w' : World) : Prop :=
  ∃ (j : Nat) (v2 : Value) (E2 : Ens), e = .returned (.int .i64 j) ∧ DiskR R w' r v2 E2 c a k m ∧ (∃ h : j < E2.length, E2[j].2 = (s.data.toList, (get? (Ens.dir E) s.data.toList).getD emptyFil)) ∧ (∀ f F, Ens.dir (E2.set j (f, (s.data.toList, F))) = ins (Ens.dir E) s.data.toList F) ∧ E2.length ≤ E.length + 1 ∧ Chg R w w'

set_option maxRecDepth 100000 in
set_option maxHeartbeats 2000000 in
theorem made_any (h : DiskR R w r v E c a k m) (hR : ∀ b, w.heap.size ≤ b → R b) (hE : E.length ≤ 50) (hrise : (Ens.dir E).Pairwise fun p q => bytesBefore p.1 q.1 = true) (s : ByteArray) :
    Calls Tryz.prog 87 #[ptr r, .string s] w (MadeOut R w r E c a k m s) := by
  have H := hid h
  obtain ⟨q0, -⟩ := h.roots
  obtain ⟨ao, cap, hv, hao⟩ := row_shape h.row.1
  subst hv
  clear h
  go_enter Tryz.func87, Tryz.ntmps87
  go_wp2_with fail
  refine (place_any H.out (by omega) s).mono ?_
  rintro e w1 ⟨⟨i, rfl, hp⟩, rfl⟩
  rcases place_get hp with ⟨j, hj, rfl, hget, hn⟩ | ⟨rfl, hget⟩
  · have hout : Hid (MadeOut R w r E c a k m s (.returned (.int .i64 j)) w) := hid ⟨j, _, E, rfl, H.out, ⟨hj, by rw [hget]; exact Prod.ext hn rfl⟩, fun f F => by
      rw [dir_set]
      exact set_ins hrise (by rw [dir_len]; exact hj) (by rw [dir_at E j hj]; exact hn) F, by omega, Chg.refl _ _⟩
    clear hget hp hn
    go_wp2
    go_ret
    exact hout.out
  · have hdel : Hid (del (Ens.dir E) s.data.toList = Ens.dir E) := hid (del_self (get?_none hget))
    have hst : Hid (MidAt w E s 0 (-1) (.slice (some ⟨w.heap.size, 0, none⟩) 0 0) (w.alloc (.cells #[] tF))) := hid ⟨(Below.refl _ _).alloc (Nat.le_refl _) _, fun g hg => by simp [Value.ownBlock] at hg; omega, Or.inl ⟨rfl, World.ownsRow_made w #[] 0 (Nat.zero_le _) (by decide) rfl, fun i h hi => absurd hi (Nat.not_lt_zero _)⟩⟩
    have HG := hid hget
    clear hp hget q0
    go_wp2
    go_loopw [6, 7, 8] (fun o t i wr => ∃ (k : Nat) (z : Int), k ≤ E.length ∧ i = .int .i64 k ∧ t = .int .i64 z ∧ MidAt w E s k z o wr) (fun _ _ i _ => E.length - (intOf i).toNat)
    case atStart => exact ⟨0, -1, Nat.zero_le _, rfl, rfl, hst.out⟩
    case round =>
      obtain ⟨k, z, hk, rfl, rfl, hM⟩ := hrel
      have HM := hid hM
      obtain ⟨hbel, hlow, hcase⟩ := hM
      have D := H.out.kept (F := fun _ => False) (Chg.of_below hbel) (fun h => h) (fun _ _ h => h) (Apart.none w)
      obtain ⟨q0, -⟩ := D.roots
      by_cases hlt : k < E.length
      · obtain ⟨g, rfl, hg⟩ := hao (by omega)
        obtain ⟨aN, cN, aS, cS, aW, cW, eN, eS, eW, x0, x1, x2, x3, x4⟩ := D.file hlt
        have hf := D.files E[k] (List.getElem_mem hlt)
        have hnm := hf.name
        have hone := hf.one
        generalize hX : E[k].1 = X at *
        obtain ⟨xn, xv, xs, xw, xu⟩ := X
        simp only at eN eS eW x0 x4 hnm
        subst eN eS eW
        have hgr : g < wr.heap.size := Nat.lt_of_lt_of_le hg hbel.size
        have hrr := lt_of_block D.blk
        have eX : E[k] = (⟨xn, .slice aN E[k].2.2.ps.length cN, .slice aS E[k].2.2.ps.length cS, .slice aW E[k].2.2.ps.length cW, xu⟩, E[k].2) := by rw [← hX]
        rcases hcase with ⟨rfl, ho, hbf⟩ | ⟨p, hpk, hpl, rfl, ho, hpt, hbf⟩
        · by_cases hless : bytesBefore s.data.toList E[k].2.1 = true
          · have hq : Op.bytesLess s.toList xn.toList = true := by rw [less_before, ByteArray.toList_eq, ByteArray.toList_eq, hnm]; exact hless
            obtain ⟨v2, w2, hr2, hb2, hl2, ho2⟩ := push hbel hlow ho (newR s) ⟨rfl, rfl, rfl⟩ (by omega)
            obtain ⟨v3, w3, hr3, hb3, hl3, ho3⟩ := push hb2 hl2 ho2 ⟨xn, .slice aN E[k].2.2.ps.length cN, .slice aS E[k].2.2.ps.length cS, .slice aW E[k].2.2.ps.length cW, xu⟩ hone (by omega)
            obtain ⟨ao2, cap2, e2, -⟩ := row_shape ho2
            obtain ⟨ao1, cap1, e1, -⟩ := row_shape ho
            obtain ⟨ao3, cap3, e3, -⟩ := row_shape ho3
            have HM' : Hid (MidAt w E s (k + 1) k v3 w3) := hid ⟨hb3, hl3, Or.inr ⟨k, by omega, hlt, rfl, by
              rw [mid_next E _ (Nat.le_refl k) hlt, mid_self E _ hk, cells_snoc, cells_snoc, eX]
              exact ho3, hless, fun i h hi => hbf i h hi⟩⟩
            have HR2 : Hid ((Builtin.append_ #[tFs, tFs] tFs #[u6, .slice (some ⟨wr.heap.size, 0, none⟩) 1 1]).run Tryz.prog (wr.alloc (.cells #[.string s, .slice none 0 0, .slice none 0 0, .slice none 0 0, .bool false] tF)) = .ok v2 w2) := hid hr2
            have HR3 := hid hr3
            have hsub := H.out.kept (F := fun _ => False) (Chg.of_below hb2) (fun h => h) (fun _ _ h => h) (Apart.none w)
            obtain ⟨q2, -⟩ := hsub.roots
            obtain ⟨y0, y1, y2, y3, y4⟩ := hsub.at hlt
            rw [hX] at y0 y1 y2 y3 y4
            simp only at y0 y1 y2 y3 y4
            subst e1 e2 e3
            clear hr2 hr3 hb2 hb3 hl2 hl3 ho2 ho3 ho hsub D hf hone hlow hbel eX HM
            go_wp2_with (at_builtin; first | refine wpList_append_run rfl (.tmp 41) (.tmp 44) tFs tFs rfl _ _ (by simp [Act.eval]) (by simp [Act.eval]) HR2.out ?_ | refine wpList_append_run rfl (.tmp 46) (.tmp 54) tFs tFs rfl _ _ (by simp [Act.eval]) (by simp [Act.eval]) HR3.out ?_)
            go_roundw
            case rel => exact ⟨k + 1, k, by omega, by go_num, rfl, HM'.out⟩
            case measure => simp [intOf]; omega
          · have hless' : bytesBefore s.data.toList E[k].2.1 = false := by simpa using hless
            have hq : Op.bytesLess s.toList xn.toList = false := by rw [less_before, ByteArray.toList_eq, ByteArray.toList_eq, hnm]; exact hless'
            obtain ⟨v3, w3, hr3, hb3, hl3, ho3⟩ := push hbel hlow ho ⟨xn, .slice aN E[k].2.2.ps.length cN, .slice aS E[k].2.2.ps.length cS, .slice aW E[k].2.2.ps.length cW, xu⟩ hone (by omega)
            obtain ⟨ao1, cap1, e1, -⟩ := row_shape ho
            obtain ⟨ao3, cap3, e3, -⟩ := row_shape ho3
            have HM' : Hid (MidAt w E s (k + 1) (-1) v3 w3) := hid ⟨hb3, hl3, Or.inl ⟨rfl, by
              rw [List.take_succ_eq_append_getElem hlt, cells_snoc, eX]
              exact ho3, fun i h hi => by
                by_cases hik : i < k
                · exact hbf i h hik
                · obtain rfl : i = k := by omega
                  exact hless'⟩⟩
            have HR3 := hid hr3
            subst e1 e3
            clear hr3 hb3 hl3 ho3 ho D hf hone hlow hbel eX HM hless
            go_wp2_with (at_builtin; refine wpList_append_run rfl (.tmp 46) (.tmp 54) tFs tFs rfl _ _ (by simp [Act.eval]) (by simp [Act.eval]) HR3.out ?_)
            go_roundw
            case rel => exact ⟨k + 1, -1, by omega, by go_num, rfl, HM'.out⟩
            case measure => simp [intOf]; omega
        · obtain ⟨v3, w3, hr3, hb3, hl3, ho3⟩ := push hbel hlow ho ⟨xn, .slice aN E[k].2.2.ps.length cN, .slice aS E[k].2.2.ps.length cS, .slice aW E[k].2.2.ps.length cW, xu⟩ hone (by omega)
          obtain ⟨ao1, cap1, e1, -⟩ := row_shape ho
          obtain ⟨ao3, cap3, e3, -⟩ := row_shape ho3
          have HM' : Hid (MidAt w E s (k + 1) p v3 w3) := hid ⟨hb3, hl3, Or.inr ⟨p, by omega, hpl, rfl, by
            rw [mid_next E _ (by omega) hlt, cells_snoc, eX]
            exact ho3, hpt, hbf⟩⟩
          have HR3 := hid hr3
          subst e1 e3
          clear hr3 hb3 hl3 ho3 ho D hf hone hlow hbel eX HM
          go_wp2_with (at_builtin; refine wpList_append_run rfl (.tmp 46) (.tmp 54) tFs tFs rfl _ _ (by simp [Act.eval]) (by simp [Act.eval]) HR3.out ?_)
          go_roundw
          case rel => exact ⟨k + 1, p, by omega, by go_num, rfl, HM'.out⟩
          case measure => simp [intOf]; omega
      · obtain rfl : k = E.length := by omega
        have z0 := blk_free D.blk 0
        have hget := HG.out
        have hRl : ∀ {o' : Value}, (∀ g, o'.ownBlock = some g → w.heap.size ≤ g) → ∀ g, o'.ownBlock = some g → R g := fun h g hg => hR g (h g hg)
        have hfiles : ∀ {wx : World}, Below w.heap.size w wx → ∀ p, ∀ x ∈ mid E (newE s) p E.length, FileR R wx x.1 x.2.1 x.2.2 := fun hb p x hx => by
          rcases mid_mem hx with rfl | hx
          · exact newE_file R _ s
          · exact (H.out.files x hx).kept (F := fun _ => False) (Chg.of_below hb) (Apart.none w)
        rcases hcase with ⟨rfl, ho, hbf⟩ | ⟨p, hpk, hpl, rfl, ho, hpt, hbf⟩
        · obtain ⟨v2, w2, hr2, hb2, hl2, ho2⟩ := push hbel hlow ho (newR s) ⟨rfl, rfl, rfl⟩ (by omega)
          obtain ⟨ao1, cap1, e1, -⟩ := row_shape ho
          have D2 := H.out.kept (F := fun _ => False) (Chg.of_below hb2) (fun h => h) (fun _ _ h => h) (Apart.none w)
          have ho2' : w2.ownsRow 0 tF 5 v2 (mid E (newE s) E.length E.length).length (Ens.cells (mid E (newE s) E.length E.length)) := by
            rw [mid_len E _ (Nat.le_refl _), mid_self E _ (Nat.le_refl _), cells_snoc]
            exact ho2
          obtain ⟨D3, C3⟩ := D2.rowed ⟨ho2', hRl hl2⟩ (hfiles hb2 E.length)
          obtain ⟨ao2, cap2, e2, -⟩ := row_shape ho2
          obtain ⟨hml, hmg⟩ := mid_get E (newE s) (k := E.length) (Nat.le_refl E.length)
          have hout : Hid (MadeOut R w r E c a k m s (.returned (.int .i64 E.length)) (w2.setCell ⟨r, 0, none⟩ v2)) := hid ⟨E.length, v2, _, rfl, D3, ⟨hml, by rw [hmg, hget]; rfl⟩, fun f F => by
            rw [mid_set E _ _ (Nat.le_refl _), mid_dir, mid_end (Nat.le_refl _) (fun i h hi => hbf i h hi) (fun h => absurd h (Nat.lt_irrefl _))]
            unfold ins
            rw [hdel.out], by rw [mid_len E _ (Nat.le_refl _)]; exact Nat.le_refl _, (Chg.of_below hb2 : Chg R w w2).trans (C3.mono (fun k _ e => by rw [e]; exact H.out.own))⟩
          have HR2 : Hid ((Builtin.append_ #[tFs, tFs] tFs #[u6, .slice (some ⟨wr.heap.size, 0, none⟩) 1 1]).run Tryz.prog (wr.alloc (.cells #[.string s, .slice none 0 0, .slice none 0 0, .slice none 0 0, .bool false] tF)) = .ok v2 w2) := hid hr2
          have z2 := blk_free D2.blk 0
          have r2 := D2.roots.1
          subst e1 e2
          clear hr2 hb2 hl2 ho2 ho2' D3 C3 D2 ho D hlow hbel HM hget hmg hml hRl hfiles
          go_wp2_with (at_builtin; refine wpList_append_run rfl (.tmp 60) (.tmp 63) tFs tFs rfl _ _ (by simp [Act.eval]) (by simp [Act.eval]) HR2.out ?_)
          go_ret
          exact hout.out
        · have ho' : wr.ownsRow 0 tF 5 u6 (mid E (newE s) p E.length).length (Ens.cells (mid E (newE s) p E.length)) := by
            rw [mid_len E _ (by omega)]
            exact ho
          obtain ⟨ao1, cap1, e1, -⟩ := row_shape ho
          obtain ⟨D3, C3⟩ := D.rowed ⟨ho', hRl hlow⟩ (hfiles hbel p)
          obtain ⟨hml, hmg⟩ := mid_get E (newE s) (k := E.length) (p := p) (by omega)
          have hout : Hid (MadeOut R w r E c a k m s (.returned (.int .i64 p)) (wr.setCell ⟨r, 0, none⟩ u6)) := hid ⟨p, u6, _, rfl, D3, ⟨hml, by rw [hmg, hget]; rfl⟩, fun f F => by
            rw [mid_set E _ _ (by omega), mid_dir, mid_end (by omega) (fun i h hi => hbf i h hi) (fun h => hpt)]
            unfold ins
            rw [hdel.out], by rw [mid_len E _ (by omega)]; exact Nat.le_refl _, (Chg.of_below hbel : Chg R w wr).trans (C3.mono (fun k _ e => by rw [e]; exact H.out.own))⟩
          subst e1
          clear ho' D3 C3 ho D hlow hbel HM hget hmg hml hRl hfiles
          go_wp2
          go_ret
          exact hout.out
end
end Ref
end Go.Proofs.YtgmbiiocjhkpdaaGreat

/-
  Contract of the reference's Cut.
-/
namespace Go.Proofs.YtgmbiiocjhkpdaaGreat
open Go.RowKit
namespace Ref
open Disk
open Num (hid bcells)

theorem nows_take (ps : List Plc) (n : Nat) : nowsC (ps.take n) = (nowsC ps).take (n * 3) := by
  induction ps generalizing n with
  | nil => simp [nowsC]
  | cons x r ih =>
    cases n with
    | zero => simp [nowsC]
    | succ n =>
      have hl : (nowC x.now).length = 3 := rfl
      have := ih n
      unfold nowsC at this ⊢
      have e : (nowC x.now).take ((n + 1) * 3) = nowC x.now := List.take_of_length_le (by rw [hl]; omega)
      rw [List.take_succ_cons, List.flatMap_cons, List.flatMap_cons, this, List.take_append, hl, show (n + 1) * 3 - 3 = n * 3 by omega, e]
theorem safeC_len (s : Option Sec) : (safeC s).length = 3 := by cases s <;> rfl
theorem safes_take (ps : List Plc) (n : Nat) : safesC (ps.take n) = (safesC ps).take (n * 3) := by
  induction ps generalizing n with
  | nil => simp [safesC]
  | cons x r ih =>
    cases n with
    | zero => simp [safesC]
    | succ n =>
      have hl := safeC_len x.safe
      have := ih n
      unfold safesC at this ⊢
      have e : (safeC x.safe).take ((n + 1) * 3) = safeC x.safe := List.take_of_length_le (by rw [hl]; omega)
      rw [List.take_succ_cons, List.flatMap_cons, List.flatMap_cons, this, List.take_append, hl, show (n + 1) * 3 - 3 = n * 3 by omega, e]
theorem waits_take (ps : List Plc) (n : Nat) : waitsC (ps.take n) = (waitsC ps).take (n * 1) := by
  unfold waitsC
  rw [Nat.mul_one, List.map_take]
/-- The first n of a row, as the walk spells it. -/
theorem slice_first {w : World} {e : TypeId} {size : Nat} {ao : Option Addr} {n cap : Nat} {xs : List Value} (h : w.ownsRow 0 e size (.slice ao n cap) n xs) : (if cap = 0 then ao else Option.map (fun x => x.add 0) ao) = ao := by
  rcases h.2 with ⟨hv, hn⟩ | ⟨g, cap', cur, hv, hb, hh, h1, h2, h3, h4⟩
  · cases hv; simp
  · cases hv; simp [Addr.add]

theorem row_cap {w : World} {e : TypeId} {size : Nat} {ao : Option Addr} {n cap : Nat} {xs : List Value} (h : w.ownsRow 0 e size (.slice ao n cap) n xs) : n ≤ cap := by
  rcases h.2 with ⟨hv, hn⟩ | ⟨g, cap', cur, hv, hb, hh, h1, h2, h3, h4⟩
  · omega
  · cases hv; exact h1

section
variable {R : Nat → Prop} {w : World} {r : Nat} {v : Value} {E : Ens} {c : Ctl} {a k m : Int}
set_option maxRecDepth 100000 in
set_option maxHeartbeats 2000000 in
theorem rcut_any {M : Mod} (hG : Good M) (h : Refs R r M w) (hR : ∀ b, w.heap.size ≤ b → R b) (s : ByteArray) (hs : s.size ≤ maxLen) (n : Int) :
    Calls Tryz.prog 55 #[ptr r, .string s, .int .i64 n] w fun e w' => e = .returned (.int .i64 (M.cut s.data.toList n).1) ∧ RefOut R w r (M.cut s.data.toList n).2 w' := by
  obtain ⟨v, E, a, k, m, D, hE⟩ := h
  have hRr := D.own
  obtain ⟨bad, hbad⟩ : ∃ b : Bool, b = decide (n < 0) := ⟨_, rfl⟩
  have hfit : (decide (0 ≤ n) && nameFit s.data.toList) = (nameFit s.data.toList && !bad) := by
    rw [hbad, Bool.and_comm]
    congr 1
    by_cases h0 : n < 0
    · simp [h0]
    · simp [h0]; omega
  have hb := begin_any D hG.ok s hs bad (decide (0 ≤ n) && nameFit s.data.toList) hfit
  have HBG := hid hb
  have h8 := hG.len hE
  clear hb D
  by_cases hr : M.c.refusal (decide (0 ≤ n) && nameFit s.data.toList) = 0
  · have e1 : M.cut s.data.toList n = ((cutD s.data.toList n M.fs).1, ⟨M.c.begun (decide (0 ≤ n) && nameFit s.data.toList), (cutD s.data.toList n M.fs).2⟩) := run_good hr
    have h0 : 0 ≤ n := by
      by_cases h0 : 0 ≤ n
      · exact h0
      · exfalso
        rw [decide_eq_false h0, Bool.false_and] at hr
        simp [Ctl.refusal] at hr
    obtain ⟨q, rfl⟩ := Int.eq_ofNat_of_zero_le h0
    have hbf : bad = false := by rw [hbad]; exact decide_eq_false (by omega)
    subst hbf
    have hbad' : (decide ((q : Int) < 0)) = false := hbad.symm
    have HE1 := hid e1
    have HRF := hid hr
    clear e1 hr hfit hbad
    go_enter Tryz.func55, Tryz.ntmps55
    go_wp2_with fail
    refine HBG.out.mono ?_
    rintro e w1 ⟨rfl, hbeg⟩
    have HB := hid hbeg
    obtain ⟨a', k', m', D1, hc1⟩ := hbeg
    rw [HRF.out]
    have H := hid D1
    have HC1 := hid hc1
    clear D1 HBG hc1
    go_wp2_with fail
    refine (place_any H.out (by omega) s).mono ?_
    rintro e w2 ⟨⟨j, rfl, hp⟩, rfl⟩
    rcases place_get hp with ⟨j, hj, rfl, hget, hn⟩ | ⟨rfl, hget⟩
    · rw [hE] at hget
      obtain ⟨ao, cap, hv, hao⟩ := row_shape H.out.row.1
      obtain ⟨g, hg, -⟩ := hao (by omega)
      subst hg
      subst hv
      have hlj := hG.at hE hj
      obtain ⟨q0, -⟩ := H.out.roots
      obtain ⟨aN, cN, aS, cS, aW, cW, eN, eS, eW, x0, x1, x2, x3, x4⟩ := H.out.file hj
      clear hao hp
      by_cases hlt : E[j].2.2.ps.length < q
      · have hsd : Hid (cutD s.data.toList q M.fs = (14, M.fs)) := hid (by unfold cutD onD; rw [hget]; simp only []; rw [if_pos (by omega)])
        clear hget hn
        go_wp2
        go_ret
        exact ⟨ret_i (by rw [HE1.out, hsd.out]), HB.out.out (by rw [HE1.out, hsd.out]; exact hE) hRr (by rw [HE1.out])⟩
      · have hsd : Hid (cutD s.data.toList q M.fs = (0, ins M.fs s.data.toList (E[j].2.2.cut q))) := hid (by unfold cutD onD; rw [hget]; simp only []; rw [if_neg (by omega)]; rfl)
        have hst : Hid (∀ f, Ens.dir (E.set j (f, (E[j].2.1, E[j].2.2.cut q))) = ins M.fs s.data.toList (E[j].2.2.cut q)) := hid (fun f => by
          rw [dir_set, hn, hE]
          exact set_ins hG.rise (by rw [← hE, dir_len]; exact hj) (by have := dir_at E j hj; simp only [hE] at this; rw [this]; exact hn) _)
        have hq : q ≤ E[j].2.2.ps.length := by omega
        clear hget hn hlt
        have hf := H.out.files E[j] (List.getElem_mem hj)
        have iN := slice_first (by rw [← eN]; exact hf.now.1)
        have iS := slice_first (by rw [← eS]; exact hf.safe.1)
        have iW := slice_first (by rw [← eW]; exact hf.wait.1)
        have jN := row_cap (by rw [← eN]; exact hf.now.1)
        have jS := row_cap (by rw [← eS]; exact hf.safe.1)
        have jW := row_cap (by rw [← eW]; exact hf.wait.1)
        have lN : (q : Int) ≤ (cN : Int) := by omega
        have lS : (q : Int) ≤ (cS : Int) := by omega
        have lW : (q : Int) ≤ (cW : Int) := by omega
        have kN : q ≤ cN := by omega
        have kS : q ≤ cS := by omega
        have kW : q ≤ cW := by omega
        clear jN jS jW
        generalize hX : E[j].1 = X at *
        obtain ⟨xn, xv, xs, xw, xu⟩ := X
        simp only at eN eS eW x0 x4
        subst eN eS eW
        have B1 : FBox w1.heap.size ⟨xn, .slice aN E[j].2.2.ps.length cN, .slice aS E[j].2.2.ps.length cS, .slice aW E[j].2.2.ps.length cW, xu⟩ (w1.alloc (.cells #[.string xn, .slice aN E[j].2.2.ps.length cN, .slice aS E[j].2.2.ps.length cS, .slice aW E[j].2.2.ps.length cW, .bool xu] tF)) := blk_new w1 _
        generalize hW1 : (w1.alloc (.cells #[.string xn, .slice aN E[j].2.2.ps.length cN, .slice aS E[j].2.2.ps.length cS, .slice aW E[j].2.2.ps.length cW, .bool xu] tF)) = W1 at *
        have hb1 : Below w1.heap.size w1 W1 := by rw [← hW1]; exact (Below.refl _ _).alloc (Nat.le_refl _) _
        have hs1 : W1.heap.size = w1.heap.size + 1 := by rw [← hW1]; simp
        obtain ⟨vN, W2, hr2, ho2, hb2, hw2⟩ := copy_cells (row_take (row_kept hf.now.1 (F := fun _ => False) (Chg.of_below hb1) (fun _ _ h => h)) hq) (fun u hu => nows_one _ u (List.mem_of_mem_take hu)) (by omega)
        obtain ⟨aN2, cN2, eN2, -⟩ := row_shape ho2
        subst eN2
        have B2 := B1.on hb2
        have B3 := B2.now (.slice aN2 q cN2)
        have hs3 : (W2.setCell ⟨w1.heap.size, 1, none⟩ (.slice aN2 q cN2)).heap.size = W2.heap.size := set_size ..
        have hlo2 : w1.heap.size + 1 ≤ W2.heap.size := by have := hb2.size; omega
        have BB2 : Below w1.heap.size w1 W2 := hb1.trans (hb2.mono (by omega))
        have BB3 : Below w1.heap.size w1 (W2.setCell ⟨w1.heap.size, 1, none⟩ (.slice aN2 q cN2)) := BB2.setCell (p := ⟨w1.heap.size, 1, none⟩) (Nat.le_refl _) _
        obtain ⟨vS, W4, hr4, ho4, hb4, hw4⟩ := copy_cells (row_take (row_kept hf.safe.1 (F := fun _ => False) (Chg.of_below BB3) (fun _ _ h => h)) hq) (fun u hu => safes_one _ u (List.mem_of_mem_take hu)) (by omega)
        obtain ⟨aS2, cS2, eS2, -⟩ := row_shape ho4
        subst eS2
        rw [hs3] at hr4 hw4
        have hlo4 : W2.heap.size ≤ W4.heap.size := by have := hb4.size; rw [hs3] at this; exact this
        have B4 := B3.on hb4
        have B5 := B4.safe (.slice aS2 q cS2)
        have hs5 : (W4.setCell ⟨w1.heap.size, 2, none⟩ (.slice aS2 q cS2)).heap.size = W4.heap.size := set_size ..
        have BB4 : Below w1.heap.size w1 W4 := BB3.trans (hb4.mono (by rw [hs3]; omega))
        have BB5 : Below w1.heap.size w1 (W4.setCell ⟨w1.heap.size, 2, none⟩ (.slice aS2 q cS2)) := BB4.setCell (p := ⟨w1.heap.size, 2, none⟩) (Nat.le_refl _) _
        obtain ⟨vW, W6, hr6, ho6, hb6, hw6⟩ := copy_bools (row_take (row_kept hf.wait.1 (F := fun _ => False) (Chg.of_below BB5) (fun _ _ h => h)) hq) (fun u hu => waits_one _ u (List.mem_of_mem_take hu)) (by omega)
        obtain ⟨aW2, cW2, eW2, -⟩ := row_shape ho6
        subst eW2
        rw [hs5] at hr6 hw6
        rw [hs1] at hr2 hw2
        have hlo6 : W4.heap.size ≤ W6.heap.size := by have := hb6.size; rw [hs5] at this; exact this
        have B6 := B5.on hb6
        have B7 := (B6.wait (.slice aW2 q cW2)).sure true
        have BB6 : Below w1.heap.size w1 W6 := BB5.trans (hb6.mono (by rw [hs5]; omega))
        have BB7 : Below w1.heap.size w1 ((W6.setCell ⟨w1.heap.size, 3, none⟩ (.slice aW2 q cW2)).setCell ⟨w1.heap.size, 4, none⟩ (.bool true)) := (BB6.setCell (p := ⟨w1.heap.size, 3, none⟩) (Nat.le_refl _) _).setCell (p := ⟨w1.heap.size, 4, none⟩) (Nat.le_refl _) _
        have C67 : Chg (· = w1.heap.size) W6 ((W6.setCell ⟨w1.heap.size, 3, none⟩ (.slice aW2 q cW2)).setCell ⟨w1.heap.size, 4, none⟩ (.bool true)) := ((Chg.refl _ _).root _ _).root _ _
        have C47 : Chg (· = w1.heap.size) W4 ((W6.setCell ⟨w1.heap.size, 3, none⟩ (.slice aW2 q cW2)).setCell ⟨w1.heap.size, 4, none⟩ (.bool true)) := (((Chg.refl _ W4).root 2 _).trans (Chg.of_below hb6)).trans C67
        have C27 : Chg (· = w1.heap.size) W2 ((W6.setCell ⟨w1.heap.size, 3, none⟩ (.slice aW2 q cW2)).setCell ⟨w1.heap.size, 4, none⟩ (.bool true)) := (((Chg.refl _ W2).root 1 _).trans (Chg.of_below hb4)).trans C47
        have hR1 : ∀ b, w1.heap.size ≤ b → R b := fun b hb => hR b (Nat.le_trans HC1.out.size hb)
        have hcl : (E[j].2.2.cut q).ps.length = q := by unfold Fil.cut; rw [List.length_take, Nat.min_eq_left hq]
        have N7 : FileR R ((W6.setCell ⟨w1.heap.size, 3, none⟩ (.slice aW2 q cW2)).setCell ⟨w1.heap.size, 4, none⟩ (.bool true)) ⟨xn, .slice aN2 q cN2, .slice aS2 q cS2, .slice aW2 q cW2, true⟩ E[j].2.1 (E[j].2.2.cut q) := by
          refine ⟨hf.name, rfl, ?_, ?_, ?_⟩
          · rw [hcl]
            show Row R _ tC 3 _ q (nowsC (E[j].2.2.ps.take q))
            rw [nows_take]
            exact ⟨row_kept ho2 C27 (fun k hk e => by have := hw2 k hk; omega), fun k hk => hR1 k (by have := hw2 k hk; omega)⟩
          · rw [hcl]
            show Row R _ tC 3 _ q (safesC (E[j].2.2.ps.take q))
            rw [safes_take]
            exact ⟨row_kept ho4 C47 (fun k hk e => by have := hw4 k hk; omega), fun k hk => hR1 k (by have := hw4 k hk; omega)⟩
          · rw [hcl]
            show Row R _ tB 1 _ q (waitsC (E[j].2.2.ps.take q))
            rw [waits_take]
            exact ⟨row_kept ho6 C67 (fun k hk e => by have := hw6 k hk; omega), fun k hk => hR1 k (by have := hw6 k hk; omega)⟩
        have D7 := H.out.kept (F := fun _ => False) (Chg.of_below BB7) (fun h => h) (fun _ _ h => h) (Apart.none w1)
        have hg := (H.out.row.1.lt g rfl).2
        have hr := lt_of_block H.out.blk
        have zg := fun i => World.ownsRow.frozenAt D7.row.1 i
        have zg2 : ∀ i, W6.frozen? ⟨g, i, none⟩ = false := fun i => by
          have := zg i
          rw [set_frozen_other (by show g ≠ w1.heap.size; omega), set_frozen_other (by show g ≠ w1.heap.size; omega)] at this
          exact this
        have zg0 := zg2 (j * 5)
        have zg1 := zg2 (j * 5 + 1)
        have zg3 := zg2 (j * 5 + 2)
        have zg4 := zg2 (j * 5 + 3)
        have zg5 := zg2 (j * 5 + 4)
        have p0 := (BB6.cell (p := ⟨g, j * 5, none⟩) hg).trans x0
        have p1 := (BB6.cell (p := ⟨g, j * 5 + 1, none⟩) hg).trans x1
        have p2 := (BB6.cell (p := ⟨g, j * 5 + 2, none⟩) hg).trans x2
        have p3 := (BB6.cell (p := ⟨g, j * 5 + 3, none⟩) hg).trans x3
        have p4 := (BB6.cell (p := ⟨g, j * 5 + 4, none⟩) hg).trans x4
        have r6 := (BB6.cell (p := ⟨r, 0, none⟩) hr).trans q0
        have HP := hid (D7.put hj N7)
        have HC := hid ((HC1.out.mono (fun k _ e => by rw [e]; exact hRr) : Chg R w w1).trans ((Chg.of_below BB7 : Chg R w1 _).trans ((putW_chg _ g j ⟨xn, .slice aN2 q cN2, .slice aS2 q cS2, .slice aW2 q cW2, true⟩).mono (fun k _ e => by rw [e]; exact H.out.row.2 g rfl))))
        obtain ⟨y0, y1, y2, y3, y4⟩ := B1.cells
        obtain ⟨l0, l1, l2, l3, l4⟩ := B2.cells
        obtain ⟨m0, m1, m2, m3, m4⟩ := B2.frees
        obtain ⟨t0, t1, t2, t3, t4⟩ := B4.cells
        obtain ⟨u0, u1, u2, u3, u4⟩ := B4.frees
        obtain ⟨s0, s1, s2, s3, s4⟩ := B6.cells
        obtain ⟨f0, f1, f2, f3, f4⟩ := B6.frees
        have hlt2 : w1.heap.size < W2.heap.size := by omega
        have hlt4 : w1.heap.size < W4.heap.size := by omega
        have hlt6 : w1.heap.size < W6.heap.size := by omega
        have HR2 := hid hr2
        have HR4 := hid hr4
        have HR6 := hid hr6
        clear hr2 hr4 hr6 ho2 ho4 ho6 hw2 hw4 hw6 hb2 hb4 hb6 BB2 BB3 BB4 BB5 BB6 BB7 C67 C47 C27 N7 D7 hf B1 B2 B3 B4 B5 B6 B7 zg zg2 hcl hR1
        go_wp2_with (at_builtin; first | refine wpList_append_run rfl (.tmp 43) (.tmp 47) tCs tCs rfl _ _ (by simp [Act.eval]) (by simp [Act.eval]) HR2.out ?_ | refine wpList_append_run rfl (.tmp 50) (.tmp 54) tCs tCs rfl _ _ (by simp [Act.eval]) (by simp [Act.eval]) HR4.out ?_ | refine wpList_append_run rfl (.tmp 57) (.tmp 61) tBs tBs rfl _ _ (by simp [Act.eval]) (by simp [Act.eval]) HR6.out ?_)
        go_region
        go_wp2
        go_ret
        refine ⟨ret_i (by rw [HE1.out, hsd.out]), ⟨_, _, _, _, _, by rw [HE1.out]; exact HP.out.drew, ?_⟩, HC.out.drew⟩
        rw [HE1.out, hsd.out]
        exact hst.out _
    · rw [hE] at hget
      have hsd : Hid (cutD s.data.toList q M.fs = (14, M.fs)) := hid (by unfold cutD onD; rw [hget])
      clear hget hp
      go_wp2
      go_ret
      exact ⟨ret_i (by rw [HE1.out, hsd.out]), HB.out.out (by rw [HE1.out, hsd.out]; exact hE) hRr (by rw [HE1.out])⟩
  · have e1 : M.cut s.data.toList n = (M.c.refusal (decide (0 ≤ n) && nameFit s.data.toList), ⟨M.c.begun (decide (0 ≤ n) && nameFit s.data.toList), M.fs⟩) := run_bad hr
    have HE1 := hid e1
    generalize hq : M.c.refusal (decide (0 ≤ n) && nameFit s.data.toList) = q at *
    have hq0 : (q != 0) = true := by simpa using hr
    have hbad' := hbad.symm
    clear e1 hr hq hfit hbad
    go_enter Tryz.func55, Tryz.ntmps55
    go_wp2_with fail
    try rw [hbad']
    refine HBG.out.mono ?_
    rintro e w1 ⟨rfl, hbeg⟩
    have HB := hid hbeg
    clear hbeg HBG
    go_wp2
    go_ret
    exact ⟨ret_i (by rw [HE1.out]), HB.out.out (by rw [HE1.out]; exact hE) hRr (by rw [HE1.out])⟩
end
end Ref
end Go.Proofs.YtgmbiiocjhkpdaaGreat

/-
  A file of the reference's in a block of the call's own, whose rows are copied, grown, and written on.
-/
namespace Go.Proofs.YtgmbiiocjhkpdaaGreat
open Go.RowKit
namespace Ref
open Disk
open Num (hid bcells)

/-- The file f in the block behind w2; its rows, whatever they hold. -/
structure Box (R : Nat → Prop) (w2 W : World) (f : FR) (nN nS nW : Nat) (xN xS xW : List Value) : Prop where
  box : FBox w2.heap.size f W
  bel : Below w2.heap.size w2 W
  now : Row R W tC 3 f.now nN xN
  safe : Row R W tC 3 f.safe nS xS
  wait : Row R W tB 1 f.wait nW xW
  oN : ∀ u ∈ xN, u.oneCell' = true
  oS : ∀ u ∈ xS, u.oneCell' = true
  oW : ∀ u ∈ xW, u.oneCell' = true

section
variable {R : Nat → Prop} {w2 W W' : World} {f : FR} {nN nS nW : Nat} {xN xS xW : List Value}
theorem Box.lt (h : Box R w2 W f nN nS nW xN xS xW) : w2.heap.size < W.heap.size := lt_of_block h.box
theorem Row.on {t : TypeId} {k : Nat} {v : Value} {n : Nat} {xs : List Value} (h : Row R W t k v n xs) (hb : Below W.heap.size W W') : Row R W' t k v n xs := h.kept (F := fun _ => False) (Chg.of_below hb) (fun _ _ h => h)
theorem Box.on (h : Box R w2 W f nN nS nW xN xS xW) (hb : Below W.heap.size W W') : Box R w2 W' f nN nS nW xN xS xW :=
  ⟨h.box.on hb, h.bel.trans (hb.mono h.bel.size), h.now.on hb, h.safe.on hb, h.wait.on hb, h.oN, h.oS, h.oW⟩
/-- A row is no file. -/
theorem Box.ne (h : Box R w2 W f nN nS nW xN xS xW) {t : TypeId} {k : Nat} {v : Value} {n : Nat} {xs : List Value} (hv : W.ownsRow 0 t k v n xs) (ht : t ≠ tF) : ∀ g, v.ownBlock = some g → ¬ g = w2.heap.size := by
  rintro g hg rfl
  obtain ⟨cur, hh⟩ := row_type hv hg
  have := h.box
  unfold FBox at this
  rw [this] at hh
  simp only [Option.some.injEq, Obj.cells.injEq] at hh
  exact ht hh.2.1.symm
theorem Row.set (h : Box R w2 W f nN nS nW xN xS xW) {t : TypeId} {k : Nat} {v : Value} {n : Nat} {xs : List Value} (hv : Row R W t k v n xs) (ht : t ≠ tF) (i : Nat) (u : Value) : Row R (W.setCell ⟨w2.heap.size, i, none⟩ u) t k v n xs :=
  hv.kept (F := (· = w2.heap.size)) ((Chg.refl _ W).root i u) (h.ne hv.1 ht)
theorem Box.setN (h : Box R w2 W f nN nS nW xN xS xW) {v : Value} {n : Nat} {xs : List Value} (hv : Row R W tC 3 v n xs) (ho : ∀ u ∈ xs, u.oneCell' = true) : Box R w2 (W.setCell ⟨w2.heap.size, 1, none⟩ v) { f with now := v } n nS nW xs xS xW :=
  ⟨h.box.now v, h.bel.setCell (Nat.le_refl _) _, Row.set h hv (by decide) 1 v, Row.set h h.safe (by decide) 1 v, Row.set h h.wait (by decide) 1 v, ho, h.oS, h.oW⟩
theorem Box.setS (h : Box R w2 W f nN nS nW xN xS xW) {v : Value} {n : Nat} {xs : List Value} (hv : Row R W tC 3 v n xs) (ho : ∀ u ∈ xs, u.oneCell' = true) : Box R w2 (W.setCell ⟨w2.heap.size, 2, none⟩ v) { f with safe := v } nN n nW xN xs xW :=
  ⟨h.box.safe v, h.bel.setCell (Nat.le_refl _) _, Row.set h h.now (by decide) 2 v, Row.set h hv (by decide) 2 v, Row.set h h.wait (by decide) 2 v, h.oN, ho, h.oW⟩
theorem Box.setW (h : Box R w2 W f nN nS nW xN xS xW) {v : Value} {n : Nat} {xs : List Value} (hv : Row R W tB 1 v n xs) (ho : ∀ u ∈ xs, u.oneCell' = true) : Box R w2 (W.setCell ⟨w2.heap.size, 3, none⟩ v) { f with wait := v } nN nS n xN xS xs :=
  ⟨h.box.wait v, h.bel.setCell (Nat.le_refl _) _, Row.set h h.now (by decide) 3 v, Row.set h h.safe (by decide) 3 v, Row.set h hv (by decide) 3 v, h.oN, h.oS, ho⟩
/-- One sector more, behind a row of the call's own. -/
theorem push_cell {w : World} {v : Value} {n : Nat} {xs : List Value} (hown : w.ownsRow 0 tC 3 v n xs) {x y z : Value} (hx : x.oneCell' = true) (hy : y.oneCell' = true) (hz : z.oneCell' = true) (hn : n ≤ 100000) :
    ∃ v' w', (Builtin.append_ #[tCs, tCs] tCs #[v, .slice (some ⟨w.heap.size, 0, none⟩) 1 1]).run Tryz.prog (w.alloc (.cells #[x, y, z] tC)) = .ok v' w' ∧ w'.ownsRow 0 tC 3 v' (n + 1) (xs ++ [x, y, z]) ∧ Chg (fun k => v.ownBlock = some k) w w' ∧ (∀ k, v'.ownBlock = some k → v.ownBlock = some k ∨ w.heap.size ≤ k) := by
  obtain ⟨i, hi, h0, h1, h2⟩ := cellInfo
  obtain ⟨v', w', hr, ho, hc, hw⟩ := append_from tCs tC i _ 3 32 Tryz.underlying106 hi h0 h1 h2 rfl (by decide) (by decide) (hown.alloc (.cells #[x, y, z] tC)) (b := w.heap.size) (o := 0) (m := 1) (c := 1) (ys := [x, y, z]) rfl (by
    intro j hj
    rw [Nat.zero_add, blk_cell (blk_new w _) j]
    rw [List.getElem?_toArray]
    exact List.getElem?_eq_getElem hj) (by
    intro u hu
    simp only [List.mem_cons, List.not_mem_nil, or_false] at hu
    rcases hu with rfl | rfl | rfl
    · exact hx
    · exact hy
    · exact hz) (by omega)
  refine ⟨v', w', hr, ho, ((Chg.refl _ w).alloc _).trans hc, fun k hk => ?_⟩
  rcases hw k hk with h | h
  · exact Or.inl h
  · right; simp at h; omega
theorem push_bool {w : World} {v : Value} {n : Nat} {xs : List Value} (hown : w.ownsRow 0 tB 1 v n xs) (b : Bool) (hn : n ≤ 100000) :
    ∃ v' w', (Builtin.append_ #[tBs, tBs] tBs #[v, .slice (some ⟨w.heap.size, 0, none⟩) 1 1]).run Tryz.prog (w.alloc (.cells #[.bool b] tB)) = .ok v' w' ∧ w'.ownsRow 0 tB 1 v' (n + 1) (xs ++ [.bool b]) ∧ Chg (fun k => v.ownBlock = some k) w w' ∧ (∀ k, v'.ownBlock = some k → v.ownBlock = some k ∨ w.heap.size ≤ k) := by
  obtain ⟨i, hi, h0, h1, h2⟩ := boolInfo
  obtain ⟨v', w', hr, ho, hc, hw⟩ := append_from tBs tB i _ 1 1 Tryz.underlying107 hi h0 h1 h2 rfl (by decide) (by decide) (hown.alloc (.cells #[.bool b] tB)) (b := w.heap.size) (o := 0) (m := 1) (c := 1) (ys := [.bool b]) rfl (by
    intro j hj
    rw [Nat.zero_add, blk_cell (blk_new w _) j]
    rw [List.getElem?_toArray]
    exact List.getElem?_eq_getElem hj) (by
    intro u hu
    simp only [List.mem_singleton] at hu
    subst hu
    rfl) (by omega)
  refine ⟨v', w', hr, ho, ((Chg.refl _ w).alloc _).trans hc, fun k hk => ?_⟩
  rcases hw k hk with h | h
  · exact Or.inl h
  · right; simp at h; omega

/-- append([]Cell{}, f.Now...). -/
theorem Box.copyN (h : Box R w2 W f nN nS nW xN xS xW) (hR : ∀ b, w2.heap.size ≤ b → R b) (hn : nN ≤ 60000) :
    ∃ v W', (Builtin.append_ #[tCs, tCs] tCs #[.slice (some ⟨W.heap.size, 0, none⟩) 0 0, f.now]).run Tryz.prog (W.alloc (.cells #[] tC)) = .ok v W' ∧ Below W.heap.size W W' ∧ Row R W' tC 3 v nN xN ∧ (∀ g, v.ownBlock = some g → W.heap.size ≤ g) := by
  obtain ⟨v, W', hr, ho, hb, hw⟩ := copy_cells h.now.1 h.oN (by omega)
  exact ⟨v, W', hr, hb, ⟨ho, fun g hg => hR g (by have := hw g hg; have := h.lt; omega)⟩, hw⟩
theorem Box.copyS (h : Box R w2 W f nN nS nW xN xS xW) (hR : ∀ b, w2.heap.size ≤ b → R b) (hn : nS ≤ 60000) :
    ∃ v W', (Builtin.append_ #[tCs, tCs] tCs #[.slice (some ⟨W.heap.size, 0, none⟩) 0 0, f.safe]).run Tryz.prog (W.alloc (.cells #[] tC)) = .ok v W' ∧ Below W.heap.size W W' ∧ Row R W' tC 3 v nS xS ∧ (∀ g, v.ownBlock = some g → W.heap.size ≤ g) := by
  obtain ⟨v, W', hr, ho, hb, hw⟩ := copy_cells h.safe.1 h.oS (by omega)
  exact ⟨v, W', hr, hb, ⟨ho, fun g hg => hR g (by have := hw g hg; have := h.lt; omega)⟩, hw⟩
theorem Box.copyW (h : Box R w2 W f nN nS nW xN xS xW) (hR : ∀ b, w2.heap.size ≤ b → R b) (hn : nW ≤ 60000) :
    ∃ v W', (Builtin.append_ #[tBs, tBs] tBs #[.slice (some ⟨W.heap.size, 0, none⟩) 0 0, f.wait]).run Tryz.prog (W.alloc (.cells #[] tB)) = .ok v W' ∧ Below W.heap.size W W' ∧ Row R W' tB 1 v nW xW ∧ (∀ g, v.ownBlock = some g → W.heap.size ≤ g) := by
  obtain ⟨v, W', hr, ho, hb, hw⟩ := copy_bools h.wait.1 h.oW (by omega)
  exact ⟨v, W', hr, hb, ⟨ho, fun g hg => hR g (by have := hw g hg; have := h.lt; omega)⟩, hw⟩
/-- append(append([]Cell{}, v...), Cell{}): behind the copy, of what is the call's own since W0. -/
theorem more_cell {W0 : World} {v : Value} {n : Nat} {xs : List Value} (hv : Row R W tC 3 v n xs) (hlow : ∀ g, v.ownBlock = some g → W0.heap.size ≤ g) (hb : Below W0.heap.size W0 W) (hR : ∀ b, W0.heap.size ≤ b → R b) (hn : n ≤ 60000) :
    ∃ v' W', (Builtin.append_ #[tCs, tCs] tCs #[v, .slice (some ⟨W.heap.size, 0, none⟩) 1 1]).run Tryz.prog (W.alloc (.cells #[.bool false, .string ⟨#[]⟩, .bool false] tC)) = .ok v' W' ∧ Below W0.heap.size W0 W' ∧ Row R W' tC 3 v' (n + 1) (xs ++ safeC none) := by
  obtain ⟨v', W', hr, ho, hc, hw⟩ := push_cell hv.1 (x := .bool false) (y := .string ⟨#[]⟩) (z := .bool false) rfl rfl rfl (by omega)
  refine ⟨v', W', hr, hb.trans (hc.below hb.size (fun k hk e => by have := hlow k e; omega)), ho, fun g hg => ?_⟩
  rcases hw g hg with h | h
  · exact hR g (hlow g h)
  · exact hR g (by have := hb.size; omega)
theorem more_bool {W0 : World} {v : Value} {n : Nat} {xs : List Value} (hv : Row R W tB 1 v n xs) (hlow : ∀ g, v.ownBlock = some g → W0.heap.size ≤ g) (hb : Below W0.heap.size W0 W) (hR : ∀ b, W0.heap.size ≤ b → R b) (hn : n ≤ 60000) :
    ∃ v' W', (Builtin.append_ #[tBs, tBs] tBs #[v, .slice (some ⟨W.heap.size, 0, none⟩) 1 1]).run Tryz.prog (W.alloc (.cells #[.bool false] tB)) = .ok v' W' ∧ Below W0.heap.size W0 W' ∧ Row R W' tB 1 v' (n + 1) (xs ++ [.bool false]) := by
  obtain ⟨v', W', hr, ho, hc, hw⟩ := push_bool hv.1 false (by omega)
  refine ⟨v', W', hr, hb.trans (hc.below hb.size (fun k hk e => by have := hlow k e; omega)), ho, fun g hg => ?_⟩
  rcases hw g hg with h | h
  · exact hR g (hlow g h)
  · exact hR g (by have := hb.size; omega)
end

section
variable {R : Nat → Prop} {w2 W : World} {f : FR} {nN nS nW : Nat} {xN xS xW : List Value}
/-- A store to the row of what is now: no other row is behind it. -/
theorem Box.storeN (h : Box R w2 W f nN nS nW xN xS xW) {g cap : Nat} (hv : f.now = .slice (some ⟨g, 0, none⟩) nN cap) (hfr : w2.heap.size ≤ g) (hne : ∀ g', f.safe.ownBlock = some g' → ¬ g' = g) (i : Nat) {u : Value} (hu : u.oneCell' = true) : Box R w2 (W.setCell ⟨g, i, none⟩ u) f nN nS nW (xN.set i u) xS xW := by
  have hc : Chg (· = g) W (W.setCell ⟨g, i, none⟩ u) := (Chg.refl _ W).root i u
  have hn := h.now
  rw [hv] at hn
  obtain ⟨cur, hb⟩ := row_type hn.1 (g := g) rfl
  have hlow : ¬ w2.heap.size = g := fun e => h.ne hn.1 (by decide) g rfl e.symm
  refine ⟨?_, ?_, ?_, h.safe.kept hc hne, h.wait.kept hc ?_, ?_, h.oS, h.oW⟩
  · exact hc.at h.box hlow
  · exact h.bel.setCell hfr _
  · rw [hv]
    exact ⟨(hn.1.stored i u).1, hn.2⟩
  · intro g' hg' e
    subst e
    obtain ⟨cur', hb'⟩ := row_type h.wait.1 hg'
    rw [hb] at hb'
    simp only [Option.some.injEq, Obj.cells.injEq] at hb'
    exact absurd hb'.2.1 (by decide)
  · intro x hx
    rcases List.mem_or_eq_of_mem_set hx with hx | rfl
    · exact h.oN x hx
    · exact hu
theorem Box.storeW (h : Box R w2 W f nN nS nW xN xS xW) {g cap : Nat} (hv : f.wait = .slice (some ⟨g, 0, none⟩) nW cap) (hfr : w2.heap.size ≤ g) (i : Nat) {u : Value} (hu : u.oneCell' = true) : Box R w2 (W.setCell ⟨g, i, none⟩ u) f nN nS nW xN xS (xW.set i u) := by
  have hc : Chg (· = g) W (W.setCell ⟨g, i, none⟩ u) := (Chg.refl _ W).root i u
  have hn := h.wait
  rw [hv] at hn
  obtain ⟨cur, hb⟩ := row_type hn.1 (g := g) rfl
  have hlow : ¬ w2.heap.size = g := fun e => h.ne hn.1 (by decide) g rfl e.symm
  have hother : ∀ {v : Value} {n : Nat} {xs : List Value}, Row R W tC 3 v n xs → ∀ g', v.ownBlock = some g' → ¬ g' = g := by
    intro v n xs hrow g' hg' e
    subst e
    obtain ⟨cur', hb'⟩ := row_type hrow.1 hg'
    rw [hb] at hb'
    simp only [Option.some.injEq, Obj.cells.injEq] at hb'
    exact absurd hb'.2.1 (by decide)
  refine ⟨hc.at h.box hlow, h.bel.setCell hfr _, h.now.kept hc (hother h.now), h.safe.kept hc (hother h.safe), ?_, h.oN, h.oS, ?_⟩
  · rw [hv]
    exact ⟨(hn.1.stored i u).1, hn.2⟩
  · intro x hx
    rcases List.mem_or_eq_of_mem_set hx with hx | rfl
    · exact h.oW x hx
    · exact hu
/-- The box is the file. -/
theorem Box.file (h : Box R w2 W f nN nS nW xN xS xW) {n : Nam} {F : Fil} (hn : f.name.data.toList = n) (hs : f.sure = F.sure) (l1 : nN = F.ps.length) (l2 : nS = F.ps.length) (l3 : nW = F.ps.length) (e1 : xN = nowsC F.ps) (e2 : xS = safesC F.ps) (e3 : xW = waitsC F.ps) : FileR R W f n F := by
  subst l1 e1 e2 e3
  refine ⟨hn, hs, h.now, ?_, ?_⟩
  · have := h.safe
    rw [l2] at this
    exact this
  · have := h.wait
    rw [l3] at this
    exact this
end

/-! ### what is written, plainly -/
theorem nows_append (a b : List Plc) : nowsC (a ++ b) = nowsC a ++ nowsC b := List.flatMap_append ..
theorem safes_append (a b : List Plc) : safesC (a ++ b) = safesC a ++ safesC b := List.flatMap_append ..
theorem waits_append (a b : List Plc) : waitsC (a ++ b) = waitsC a ++ waitsC b := List.map_append ..
theorem safes_len : ∀ ps : List Plc, (safesC ps).length = ps.length * 3
  | [] => rfl
  | p :: r => by
    have := safes_len r
    unfold safesC at this ⊢
    rw [List.flatMap_cons, List.length_append, this, List.length_cons, safeC_len]
    omega
theorem waits_len (ps : List Plc) : (waitsC ps).length = ps.length := by unfold waitsC; rw [List.length_map]
theorem nows_set : ∀ (ps : List Plc) (q : Nat) (_ : q < ps.length) (l : List UInt8) (s : Option Sec) (b : Bool), (((nowsC ps).set (q * 3) (.bool true)).set (q * 3 + 1) (.string ⟨l.toArray⟩)).set (q * 3 + 2) (.bool false) = nowsC (ps.set q ⟨some l, s, b⟩)
  | x :: r, 0, _, l, s, b => by rfl
  | x :: r, q + 1, h, l, s, b => by
    have := nows_set r q (by simpa using h) l s b
    have hl : (nowC x.now).length = 3 := rfl
    unfold nowsC at this ⊢
    simp only [List.flatMap_cons, List.set_cons_succ]
    rw [← this]
    have e1 : (q + 1) * 3 = q * 3 + 3 := by omega
    rw [e1, List.set_append_right _ _ (by omega), List.set_append_right _ _ (by rw [hl]; omega), List.set_append_right _ _ (by rw [hl]; omega), hl]
    rw [show q * 3 + 3 - 3 = q * 3 by omega, show q * 3 + 3 + 1 - 3 = q * 3 + 1 by omega, show q * 3 + 3 + 2 - 3 = q * 3 + 2 by omega]
theorem safes_set (ps : List Plc) (q : Nat) (h : q < ps.length) (n : Sec) (b : Bool) : safesC (ps.set q ⟨n, ps[q].safe, b⟩) = safesC ps := by
  induction ps generalizing q with
  | nil => simp at h
  | cons x r ih =>
    cases q with
    | zero => rfl
    | succ q =>
      have := ih q (by simpa using h)
      unfold safesC at this ⊢
      simp only [List.set_cons_succ, List.flatMap_cons, List.getElem_cons_succ]
      rw [this]
theorem waits_set (ps : List Plc) (q : Nat) (n : Sec) (s : Option Sec) : (waitsC ps).set q (.bool true) = waitsC (ps.set q ⟨n, s, true⟩) := by
  unfold waitsC
  rw [List.map_set]
/-- A sector that is there is written on. -/
theorem write_over (F : Fil) {q : Nat} (h : q < F.ps.length) (l : List UInt8) : F.write q l = { F with ps := F.ps.set q ⟨some l, F.ps[q].safe, true⟩ } := by
  unfold Fil.write
  rw [if_neg (by omega), List.getElem?_eq_getElem h]
/-- The next sector is written: the rows, grown, then set. -/
theorem write_next (F : Fil) (l : List UInt8) : F.write F.ps.length l = { F with ps := F.ps ++ [⟨some l, none, true⟩] } := by
  unfold Fil.write
  rw [if_pos rfl]
theorem grown_now (ps : List Plc) (l : List UInt8) : (((nowsC ps ++ safeC none).set (ps.length * 3) (.bool true)).set (ps.length * 3 + 1) (.string ⟨l.toArray⟩)).set (ps.length * 3 + 2) (.bool false) = nowsC (ps ++ [⟨some l, none, true⟩]) := by
  have hl := nows_len ps
  rw [nows_append, List.set_append_right _ _ (by omega), List.set_append_right _ _ (by omega), List.set_append_right _ _ (by omega), hl, Nat.sub_self, show ps.length * 3 + 1 - ps.length * 3 = 1 by omega, show ps.length * 3 + 2 - ps.length * 3 = 2 by omega]
  rfl
theorem grown_safe (ps : List Plc) (l : List UInt8) : safesC ps ++ safeC none = safesC (ps ++ [⟨some l, none, true⟩]) := by rw [safes_append]; rfl
theorem grown_wait (ps : List Plc) (l : List UInt8) : (waitsC ps ++ [Value.bool false]).set ps.length (.bool true) = waitsC (ps ++ [⟨some l, none, true⟩]) := by
  rw [waits_append, List.set_append_right _ _ (by rw [waits_len]; exact Nat.le_refl _), waits_len, Nat.sub_self]
  rfl
end Ref
end Go.Proofs.YtgmbiiocjhkpdaaGreat
