/-
  Put together: JouKeys, JouBwd, JouPage, JouRestore, JouBack.
-/
import Derived.Test.YtpdpjgeoclilhaaJouFind
import Derived.Shelf.SlIterI.Nil
import Derived.Shelf.SortM.Plain
import Derived.Shelf.SortM.SortNone
import Derived.RangeFuncNested
import Derived.RangeFuncBound
import Derived.RangeFuncCalls
import Derived.RangeFuncLeaves
import Derived.Shelf.Abstract
import Derived.Shelf.RegionOpen
import Derived.WalkKit
import Derived.OwnWalkIn
import Derived.TacticsInMore
import Derived.LoopNIn
import Derived.LoopIn
import Derived.Maps.OwnIn
/-
  The map of first records: numbers to places; its keys, rising; slices.Backward.
-/
namespace Go.Proofs.Ytpdpjgeoclilhaa
open Go.RowKit Go.Maps Go.Sort Go.Shelf
namespace Jo
open Num (hid)
open Mem (Bs bs tS Chg ptr blk_cell blk_free blk_new blk_set blk_other blk_alloc row_kept row_shape row_type)

/-- A map from numbers to numbers: what it holds. -/
structure IReads (D : DataW Unit) (look : Nat → Option Nat) : Prop where
  has : ∀ z : Int, Maps.has D (.int .i64 z) = (decide (0 ≤ z) && (look z.toNat).isSome)
  at_ : ∀ (n i : Nat), look n = some i → ∀ z, D.atKey (.int .i64 (n : Int)) z = .lit (.int .i64 (i : Int))
def MapI (w : World) (b c : Nat) (look : Nat → Option Nat) : Prop := ∃ D, w.ownsMap Try.prog tI (plainElem Try.prog tI) b c D ∧ IReads D look
variable {w w' : World} {b c : Nat} {look : Nat → Option Nat}
theorem mapI_new (w : World) : MapI (w.alloc (.map #[] 0)) w.heap.size 0 (fun _ => none) :=
  ⟨.map [], World.ownsMap_made w Try.prog tI (plainElem Try.prog tI), fun z => by simp [Maps.has], (fun n i h => by cases h)⟩
def lookPut (look : Nat → Option Nat) (n i : Nat) : Nat → Option Nat := fun m => if m = n then some i else look m
theorem IReads.put {D : DataW Unit} (h : IReads D look) (hD : IsMap D) (n i : Nat) : IReads (D.put (.int .i64 (n : Int)) (.lit (.int .i64 (i : Int)))) (lookPut look n i) := by
  have kk : WideAt.IsKeyLit (Lit.int .i64 (n : Int)) := trivial
  refine ⟨fun z => ?_, fun m j hm z => ?_⟩
  · by_cases e : z = (n : Int)
    · subst e
      rw [Maps.has_put_same hD kk]
      simp [lookPut]
    · rw [Maps.has_put_other (fun h => e (by injection h)), h.has z]
      by_cases h0 : 0 ≤ z
      · have : z.toNat ≠ n := by omega
        simp [lookPut, this]
      · simp [h0]
  · by_cases e : m = n
    · subst e
      have : j = i := by simpa [lookPut] using hm.symm
      subst this
      exact Maps.atKey_put_same hD kk _ z
    · rw [Maps.atKey_put_other (nat_ne e)]
      exact h.at_ m j (by simpa [lookPut, e] using hm) z

theorem sorted_nats {ss : List Int} {ms : List Nat} (hp : ss.Perm (ms.map fun n : Nat => (n : Int))) (hs : ms.Pairwise (· < ·)) : ss.mergeSort (fun x y => decide (x ≤ y)) = ms.map fun n : Nat => (n : Int) := by
  refine List.Perm.eq_of_pairwise (le := fun a b : Int => decide (a ≤ b) = true) ?_ ?_ ?_ ((List.mergeSort_perm _ _).trans hp)
  · intro a b _ _ h1 h2
    simp only [decide_eq_true_eq] at h1 h2
    omega
  · refine List.pairwise_mergeSort ?_ ?_ _
    · intro a b c h1 h2
      simp only [decide_eq_true_eq] at h1 h2 ⊢
      omega
    · intro a b
      simp only [Bool.or_eq_true, decide_eq_true_eq]
      omega
  · rw [List.pairwise_map]
    refine hs.imp fun {a b} hab => ?_
    simp only [decide_eq_true_eq]
    omega
end Jo
end Go.Proofs.Ytpdpjgeoclilhaa

/-
  slices.Backward over a row of pages: what it gives, one behind the other, against whatever loop body keeps what lay ahead.
-/
namespace Go.Proofs.Ytpdpjgeoclilhaa
open Go.RowKit Go.Maps Go.Sort Go.Shelf
namespace Jo
open Num (hid)
open Mem (Bs bs tS Chg ptr blk_cell blk_free blk_new blk_set blk_other blk_alloc row_kept row_shape row_type)
attribute [local go_sem] Oper.semAt_some

/-- What comes: a place, a page's number, its bytes. -/
structure Px where
  i : Nat
  n : Nat
  d : List UInt8
  hi : i ≤ 100000
  hn : n ≤ 100000
def px (i : Nat) (r : Rec) : Px := ⟨min i 100000, min r.1 100000, r.2, by omega, by omega⟩
def encP (x : Px) : Array Value := #[.int .i64 (x.i : Int), .agg #[.int .i64 (x.n : Int), .string (bs x.d)]]
theorem encP_px {i : Nat} {r : Rec} (hi : i ≤ 100000) (hn : r.1 ≤ 100000) : encP (px i r) = #[.int .i64 (i : Int), .agg #[.int .i64 (r.1 : Int), .string (bs r.2)]] := by
  unfold encP px
  simp only [Nat.min_eq_left hi, Nat.min_eq_left hn]
/-- What has come behind k rounds. -/
def downs (zs : List Rec) (k : Nat) : List Px := (List.range k).map fun j => px (zs.length - 1 - j) (zs.getD (zs.length - 1 - j) (0, []))
theorem downs_succ (zs : List Rec) (k : Nat) : downs zs (k + 1) = downs zs k ++ [px (zs.length - 1 - k) (zs.getD (zs.length - 1 - k) (0, []))] := by simp [downs, List.range_succ]
theorem downs_len (zs : List Rec) (k : Nat) : (downs zs k).length = k := by simp [downs]
/-- Pages in a block below n₀; or none. -/
def PgsAt (n₀ : Nat) (W : World) (sv : Value) (zs : List Rec) : Prop :=
  (sv = .slice none 0 0 ∧ zs = []) ∨ ∃ b cap, sv = .slice (some ⟨b, 0, none⟩) zs.length cap ∧ zs.length ≤ cap ∧ b < n₀ ∧ ∀ j (h : j < zs.length), W.cell? ⟨b, j * 2, none⟩ = some (.int .i64 (zs[j].1 : Nat)) ∧ W.cell? ⟨b, j * 2 + 1, none⟩ = some (.string (bs zs[j].2))
theorem PgsAt.below {n₀ : Nat} {A B : World} {sv : Value} {zs : List Rec} (h : PgsAt n₀ A sv zs) (hb : Below n₀ A B) : PgsAt n₀ B sv zs := by
  rcases h with h | ⟨b, cap, e, hc, hlt, hx⟩
  · exact Or.inl h
  · exact Or.inr ⟨b, cap, e, hc, hlt, fun j hj => ⟨(hb.cell (p := ⟨b, j * 2, none⟩) hlt).trans (hx j hj).1, (hb.cell (p := ⟨b, j * 2 + 1, none⟩) hlt).trans (hx j hj).2⟩⟩
theorem flat_get (zs : List Rec) (j : Nat) (h : j < zs.length) : (zs.flatMap pV)[j * 2]? = some (.int .i64 (zs[j].1 : Nat)) ∧ (zs.flatMap pV)[j * 2 + 1]? = some (.string (bs zs[j].2)) := by
  induction zs generalizing j with
  | nil => exact absurd h (Nat.not_lt_zero _)
  | cons x r ih =>
    cases j with
    | zero => simp [pV]
    | succ j =>
      obtain ⟨h1, h2⟩ := ih j (by simpa using h)
      have e1 : (j + 1) * 2 = j * 2 + 2 := by omega
      rw [e1, List.flatMap_cons]
      constructor
      · rw [List.getElem?_append_right (by simp [pV])]
        simpa [pV] using h1
      · rw [List.getElem?_append_right (by simp [pV])]
        simpa [pV] using h2
theorem pgs_of {w : World} {v : Value} {zs : List Rec} (h : w.ownsRow 0 tPg 2 v zs.length (zs.flatMap pV)) {n₀ : Nat} (hn : ∀ g, v.ownBlock = some g → g < n₀) : PgsAt n₀ w v zs := by
  obtain ⟨h1, h2⟩ := h
  rcases h2 with ⟨h2, h3⟩ | ⟨g, cap, cur, h2, h3, h4, h5, h6, h7, h8⟩
  · exact Or.inl ⟨h2, List.eq_nil_of_length_eq_zero h3⟩
  · refine Or.inr ⟨g, cap, h2, h5, hn g (by rw [h2]; rfl), fun j hj => ?_⟩
    obtain ⟨e1, e2⟩ := flat_get zs j hj
    rw [← h8] at e1 e2
    have at_ : ∀ i x, (cur.toList.take (zs.length * 2))[i]? = some x → w.cell? ⟨g, i, none⟩ = some x := fun i x hx => by
      rw [blk_cell h4 i]
      have hi : i < zs.length * 2 := by
        have := (List.getElem?_eq_some_iff.1 hx).1
        rw [List.length_take] at this
        omega
      rw [List.getElem?_take_of_lt hi] at hx
      simpa using hx
    exact ⟨at_ _ _ e1, at_ _ _ e2⟩

/-- What a round has to leave: the blocks R. -/
def KR (R : Nat → Prop) (W W' : World) : Prop := ∀ k, R k → W'.heap[k]? = W.heap[k]?
theorem KR.refl (R : Nat → Prop) (W : World) : KR R W W := fun _ _ => rfl
theorem KR.trans {R : Nat → Prop} {A B C : World} (h : KR R A B) (k : KR R B C) : KR R A C := fun i hi => (k i hi).trans (h i hi)
theorem KR.cell {R : Nat → Prop} {A B : World} (h : KR R A B) {b i : Nat} (hb : R b) : B.cell? ⟨b, i, none⟩ = A.cell? ⟨b, i, none⟩ := World.cell?_of_block (h b hb)
end Jo
end Go.Proofs.Ytpdpjgeoclilhaa

/-
  Contract of writePage: a page of the database is written back; what the records of a journal are.
-/
namespace Go.Proofs.Ytpdpjgeoclilhaa
open Go.RowKit Go.Shelf
namespace Jo
open Num (hid)
open Disk (Mod Fil Sees Stays)
open Seal (sealS sealS_list sealS_size)
open Mem (Bs bs tS Chg ptr blk_cell blk_free blk_new blk_set blk_other blk_alloc row_kept row_shape row_type)
variable {O : Nat → Prop} {d m : Nat} {M : Mod} {f : Fnd} {w w' : World}

/-- A record's number and bytes. -/
def RecOk (l : List Rec) : Prop := ∀ r ∈ l, r.1 < 4096 ∧ r.2.length = 232
theorem RecOk.take {g : Fnd} {l : List UInt8} (h : RecOk f.recs) (e : takeF f l = some g) : RecOk g.recs := by
  unfold takeF at e
  split at e
  · cases e
  · rename_i hok
    split at e
    · cases e
    · split at e
      · split at e
        · cases e
        · cases e
          intro r hr
          rcases List.mem_append.1 hr with hr | hr
          · exact h r hr
          · rw [List.mem_singleton] at hr
            subst hr
            have hk : okB l = true := by cases hx : okB l <;> simp_all
            exact ⟨by show kN l < 4096; omega, kD_len hk⟩
      · split at e
        · split at e
          · cases e
          · cases e; exact h
        · cases e
theorem recs_findN : ∀ (k i : Nat) (f : Fnd) (M : Mod), RecOk f.recs → RecOk (findN k i f M).2.1.recs
  | 0, _, _, _, h => h
  | k + 1, i, f, M, h => by
    unfold findN
    split
    · exact h
    · cases ht : takeF f (M.read jn i).1 with
      | none => exact h
      | some g => exact recs_findN k (i + 1) g _ (h.take ht)
theorem recs_find (M : Mod) : RecOk (countF (findM M).2.1) := fun r hr => recs_findN _ _ f0 M (fun r hr => by cases hr) r (List.mem_of_mem_take hr)
/-- A page that is written back. -/
def pageM (M : Mod) (n : Nat) (d : List UInt8) : Int × Mod := (if (M.write dn n (Seal.sealL 1 n 0 d)).1 = 14 then 30 else (M.write dn n (Seal.sealL 1 n 0 d)).1, (M.write dn n (Seal.sealL 1 n 0 d)).2)
theorem writes_page (l : List Rec) (n : Nat) (r : List Nat) (M : Mod) : writesM l (n :: r) M = if (pageM M n (firstD l n)).1 ≠ 0 then pageM M n (firstD l n) else writesM l r (pageM M n (firstD l n)).2 := by
  conv => lhs; unfold writesM
  unfold pageM
  simp only
  split
  · rename_i h
    rw [if_pos (by decide)]
  · rfl
theorem write_dn {O : Nat → Prop} (h : Sees O d m M w) (n : Nat) (K N S : Nat) (dd : ByteArray) (hd : dd.size = 232) :
    Calls Try.prog 27 #[ptr d, .string dS, .int .i64 (n : Nat), .string (sealS K N S dd)] w fun e w' => e = .returned (.int .i64 (M.write dn n (Seal.sealL K N S dd.data.toList)).1) ∧ Sees O d m (M.write dn n (Seal.sealL K N S dd.data.toList)).2 w' ∧ Stays O w w' := by
  have := Disk.write_sees h dS (by decide) (n : Int) (sealS K N S dd) (by rw [sealS_size, hd]; decide)
  rw [sealS_list, dS_list] at this
  exact this
end Jo
end Go.Proofs.Ytpdpjgeoclilhaa

/-
  Contract of restore: a database is made what records say it was.
-/
namespace Go.Proofs.Ytpdpjgeoclilhaa
open Go.RowKit Go.Maps Go.Sort Go.Shelf
namespace Jo
open Num (hid)
open Disk (Mod Fil Sees Stays)
open Mem (Bs bs tS Chg ptr blk_cell blk_free blk_new blk_set blk_other blk_alloc row_kept row_shape row_type)
attribute [local go_sem] Oper.semAt_some
variable {O : Nat → Prop} {d m : Nat} {M : Mod} {w w' : World}

/-- The map behind what has come. -/
def lk (pre : List Px) : Nat → Option Nat := pre.foldl (fun g x => lookPut g x.n x.i) (fun _ => none)
theorem lk_snoc (pre : List Px) (x : Px) : lk (pre ++ [x]) = lookPut (lk pre) x.n x.i := by simp [lk]
theorem sync_dn {O : Nat → Prop} (h : Sees O d m M w) : Calls Try.prog 20 #[ptr d, .string dS] w fun e w' => e = .returned (.int .i64 (M.sync dn).1) ∧ Sees O d m (M.sync dn).2 w' ∧ Stays O w w' := Disk.sync_sees h dS (by decide)
/-- The last round's map holds the first of each number. -/
theorem downs_find (zs : List Rec) (hz : RecOk zs) (hl : zs.length ≤ 100000) (n : Nat) : ∀ k, k ≤ zs.length →
    (zs.drop (zs.length - k)).find? (fun r => r.1 == n) = (lk (downs zs k) n).bind (fun i => zs[i]?) ∧ (∀ i, lk (downs zs k) n = some i → i < zs.length)
  | 0, _ => by
    have e : zs.drop (zs.length - 0) = [] := List.drop_of_length_le (by omega)
    rw [e]
    exact ⟨rfl, fun i h => by cases h⟩
  | k + 1, hk => by
    obtain ⟨h1, h2⟩ := downs_find zs hz hl n k (by omega)
    obtain ⟨q, hq⟩ : ∃ q, zs.length - 1 - k = q := ⟨_, rfl⟩
    have hql : q < zs.length := by omega
    have e1 : zs.length - (k + 1) = q := by omega
    have e2 : zs.length - k = q + 1 := by omega
    have hgd : zs.getD q (0, []) = zs[q] := by simp [hql]
    have hnn := (hz _ (List.getElem_mem hql)).1
    have x1 : (px q zs[q]).n = zs[q].1 := by show min _ _ = _; omega
    have x2 : (px q zs[q]).i = q := by show min _ _ = _; omega
    rw [downs_succ, hq, hgd, lk_snoc, x1, x2, e1, List.drop_eq_getElem_cons hql]
    rw [e2] at h1
    unfold lookPut
    by_cases e : zs[q].1 = n
    · rw [List.find?_cons_of_pos (by simp [e]), if_pos e.symm]
      exact ⟨by simp [hql], fun i hi => by cases hi; exact hql⟩
    · rw [List.find?_cons_of_neg (by simp [e]), if_neg (fun x => e x.symm)]
      exact ⟨h1, h2⟩
theorem lk_all {zs : List Rec} (hz : RecOk zs) (hl : zs.length ≤ 100000) {n : Nat} (hn : n ∈ numsOf zs) : ∃ i, ∃ h : i < zs.length, lk (downs zs zs.length) n = some i ∧ firstD zs n = zs[i].2 ∧ zs[i].1 = n := by
  obtain ⟨h1, h2⟩ := downs_find zs hz hl n zs.length (Nat.le_refl _)
  rw [Nat.sub_self, List.drop_zero] at h1
  obtain ⟨_, r, hr, e⟩ := nums_mem.1 hn
  cases hk : lk (downs zs zs.length) n with
  | none =>
    rw [hk] at h1
    exact absurd e (by simpa using List.find?_eq_none.1 h1 r hr)
  | some i =>
    have hi := h2 i hk
    rw [hk] at h1
    simp only [Option.bind_some, List.getElem?_eq_getElem hi] at h1
    refine ⟨i, hi, rfl, ?_, by simpa using List.find?_some h1⟩
    unfold firstD
    rw [h1]
    rfl
theorem lk_mem {zs : List Rec} (hz : RecOk zs) (hl : zs.length ≤ 100000) (n : Nat) : n ∈ numsOf zs ↔ (lk (downs zs zs.length) n).isSome = true := by
  refine ⟨fun h => ?_, fun h => ?_⟩
  · obtain ⟨i, _, e, _⟩ := lk_all hz hl h
    rw [e]; rfl
  · obtain ⟨i, hi⟩ := Option.isSome_iff_exists.1 h
    obtain ⟨h1, h2⟩ := downs_find zs hz hl n zs.length (Nat.le_refl _)
    rw [Nat.sub_self, List.drop_zero, hi] at h1
    have hil := h2 i hi
    simp only [Option.bind_some, List.getElem?_eq_getElem hil] at h1
    have h3 := List.mem_of_find?_eq_some h1
    have h4 : zs[i].1 = n := by simpa using List.find?_some h1
    exact nums_mem.2 ⟨by rw [← h4]; exact (hz _ h3).1, _, h3, h4⟩
theorem nums_rise (zs : List Rec) : (numsOf zs).Pairwise (· < ·) := List.Pairwise.filter _ List.pairwise_lt_range
theorem nums_len (zs : List Rec) : (numsOf zs).length ≤ 4096 := by
  have := List.length_filter_le (fun n => zs.any fun r => r.1 == n) (List.range 4096)
  simpa [numsOf] using this
/-- A row of numbers, place by place. -/
theorem row_nats {base : Nat} {v : Value} {ms : List Nat} (h : w.ownsRow base tI 1 v ms.length (ms.map fun n : Nat => Value.int .i64 (n : Int))) :
    ∃ so cap, v = .slice so ms.length cap ∧ ∀ k (hk : k < ms.length), ∃ g, so = some ⟨g, 0, none⟩ ∧ base ≤ g ∧ g < w.heap.size ∧ w.cell? ⟨g, k, none⟩ = some (.int .i64 (ms[k] : Nat)) := by
  obtain ⟨h1, h2⟩ := h
  rcases h2 with ⟨h2, h3⟩ | ⟨g, cap, cur, h2, h3, h4, h5, h6, h7, h8⟩
  · exact ⟨none, 0, by rw [h2, h3], fun k hk => by omega⟩
  · refine ⟨some ⟨g, 0, none⟩, cap, h2, fun k hk => ⟨g, rfl, h3, lt_of_block h4, ?_⟩⟩
    have hx : (cur.toList.take (ms.length * 1))[k]? = some (.int .i64 (ms[k] : Nat)) := by rw [h8]; simp [hk]
    rw [List.getElem?_take_of_lt (by omega)] at hx
    rw [blk_cell h4 k]
    simpa using hx
theorem mapI_apart {b c : Nat} {look : Nat → Option Nat} {F : Nat → Prop} (h : MapI w b c look) (hc : Disk.Chg F w w') (hF : ¬ F b) : MapI w' b c look := by
  obtain ⟨D, ⟨es, clock, hb, r⟩, hr⟩ := h
  exact ⟨D, ⟨es, clock, hc.at hb hF, r⟩, hr⟩
/-- Behind the last: the record of defers is taken down. -/
theorem put_end {O2 : Nat → Prop} {w2 wr : World} {D : Nat} (h : Sees O2 d m M wr) (hst : Stays O2 w2 wr) (hO2 : ∀ k, O k → O2 k) (h0 : Stays O w w2) (hD : O2 D) (hDO : ¬ O D) (o : Obj) : Sees O d m M (wr.putObj D o) ∧ Stays O w (wr.putObj D o) := by
  have hc : Disk.Chg (· = D) wr (wr.putObj D o) := ⟨rfl, rfl, rfl, by simp, fun k _ hk => World.putObj_heap_other hk⟩
  exact ⟨(sees_side h hc (fun k hk _ => hk ▸ hD)).fewer hO2, (h0.trans (fewer hst hO2)).trans (Disk.Chg.mono hc (fun k _ hk hO => hDO (hk ▸ hO)))⟩
/-- What a round must leave: the iterator's box, the pages' block. -/
def RK (w : World) (sv : Value) : Nat → Prop := fun k => k = w.heap.size + 2 ∨ sv.ownBlock = some k
end Jo
end Go.Proofs.Ytpdpjgeoclilhaa

/-
  Contract of Back: find, make the database what it was, drop.
-/
namespace Go.Proofs.Ytpdpjgeoclilhaa
open Go.RowKit Go.Shelf
namespace Jo
open Num (hid)
open Disk (Mod Fil Sees Stays)
open Mem (Bs bs tS Chg ptr blk_cell blk_free blk_new blk_set blk_other blk_alloc row_kept row_shape row_type)
variable {O : Nat → Prop} {d m : Nat} {M : Mod} {w w' : World}

theorem recs_len : ∀ (k i : Nat) (f : Fnd) (M : Mod), (findN k i f M).2.1.recs.length ≤ f.recs.length + k
  | 0, _, _, _ => Nat.le_refl _
  | k + 1, i, f, M => by
    unfold findN
    split
    · show f.recs.length ≤ _; omega
    · cases ht : takeF f (M.read jn i).1 with
      | none => show f.recs.length ≤ _; omega
      | some g =>
        have h1 := recs_len k (i + 1) g (M.read jn i).2.2
        have h2 : g.recs.length ≤ f.recs.length + 1 := by
          unfold takeF at ht
          split at ht
          · cases ht
          · split at ht
            · cases ht
            · split at ht
              · split at ht
                · cases ht
                · cases ht; simp
              · split at ht
                · split at ht
                  · cases ht
                  · cases ht; simp
                · cases ht
        show (findN k (i + 1) g (M.read jn i).2.2).2.1.recs.length ≤ _
        omega
theorem count_len (h : Sees O d m M w) : (countF (findM M).2.1).length ≤ 100000 := by
  have h1 := recs_len (M.size jn).toNat 0 f0 M
  have h2 := size_le h jn
  have h3 : (countF (findM M).2.1).length ≤ (findM M).2.1.recs.length := by unfold countF; rw [List.length_take]; omega
  have h4 : (findM M).2.1.recs.length ≤ f0.recs.length + (M.size jn).toNat := h1
  have h5 : f0.recs.length = 0 := rfl
  omega
end Jo
end Go.Proofs.Ytpdpjgeoclilhaa
