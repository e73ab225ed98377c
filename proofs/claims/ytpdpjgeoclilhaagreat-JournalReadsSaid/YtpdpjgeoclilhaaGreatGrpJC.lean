/-
  Put together: JouKeys, JouBwd, JouPage, JouRestore, JouBack.
-/
import Derived.Test.YtpdpjgeoclilhaaGreatJouFind
import Derived.Test.YtpdpjgeoclilhaaGreatJouKeysL
import Derived.Shelf.SlIterI.Nil
import Derived.Shelf.SortM.Plain
import Derived.Shelf.SortM.SortNone
import Derived.RangeFuncNested
import Derived.RangeFuncBound
import Derived.RangeFuncCalls
import Derived.RangeFuncLeaves
import Derived.Shelf.Abstract
import Derived.Shelf.RegionOpen
import Derived.WalkKit
import Derived.OwnWalkIn
import Derived.TacticsInMore
import Derived.LoopNIn
import Derived.LoopIn
import Derived.Maps.OwnIn
/-
  The map of first records: numbers to places; its keys, rising; slices.Backward.
-/
namespace Go.Proofs.YtpdpjgeoclilhaaGreat
open Go.RowKit Go.Maps Go.Sort Go.Shelf
namespace Jo
open Num (hid)
open Mem (Bs bs tS Chg ptr blk_cell blk_free blk_new blk_set blk_other blk_alloc row_kept row_shape row_type)

abbrev tMi : TypeId := 135
/-- A map from numbers to numbers: what it holds. -/
structure IReads (D : DataW Unit) (look : Nat → Option Nat) : Prop where
  has : ∀ z : Int, Maps.has D (.int .i64 z) = (decide (0 ≤ z) && (look z.toNat).isSome)
  at_ : ∀ (n i : Nat), look n = some i → ∀ z, D.atKey (.int .i64 (n : Int)) z = .lit (.int .i64 (i : Int))
def MapI (w : World) (b c : Nat) (look : Nat → Option Nat) : Prop := ∃ D, w.ownsMap Tryz.prog tI (plainElem Tryz.prog tI) b c D ∧ IReads D look
variable {w w' : World} {b c : Nat} {look : Nat → Option Nat}
theorem mapI_new (w : World) : MapI (w.alloc (.map #[] 0)) w.heap.size 0 (fun _ => none) :=
  ⟨.map [], World.ownsMap_made w Tryz.prog tI (plainElem Tryz.prog tI), fun z => by simp [Maps.has], (fun n i h => by cases h)⟩
def lookPut (look : Nat → Option Nat) (n i : Nat) : Nat → Option Nat := fun m => if m = n then some i else look m
theorem IReads.put {D : DataW Unit} (h : IReads D look) (hD : IsMap D) (n i : Nat) : IReads (D.put (.int .i64 (n : Int)) (.lit (.int .i64 (i : Int)))) (lookPut look n i) := by
  have kk : WideAt.IsKeyLit (Lit.int .i64 (n : Int)) := trivial
  refine ⟨fun z => ?_, fun m j hm z => ?_⟩
  · by_cases e : z = (n : Int)
    · subst e
      rw [Maps.has_put_same hD kk]
      simp [lookPut]
    · rw [Maps.has_put_other (fun h => e (by injection h)), h.has z]
      by_cases h0 : 0 ≤ z
      · have : z.toNat ≠ n := by omega
        simp [lookPut, this]
      · simp [h0]
  · by_cases e : m = n
    · subst e
      have : j = i := by simpa [lookPut] using hm.symm
      subst this
      exact Maps.atKey_put_same hD kk _ z
    · rw [Maps.atKey_put_other (nat_ne e)]
      exact h.at_ m j (by simpa [lookPut, e] using hm) z

/-- slices.Sort's two contracts at this dump, at the fence that asks nothing. -/
theorem sortsI (m : Nat) : AnyZI.SortsIn Tryz.prog Tryz.sortedI_ren Fence.wide m :=
  ⟨fun blk off cap ss W hH hblk hsz => callsIn_wide.2 (AnyM.slices_Sort_int Tryz.sortI blk off cap ss W hH hblk hsz),
   fun p cap W => callsIn_wide.2 (AnyM.slices_Sort_int_none Tryz.sortI p cap W)⟩
theorem keysI_any (mb : Option Nat) (W : World) : Calls Tryz.prog 85 #[.map mb] W fun e w' => e = .returned (.func (.func 111) #[] #[.pointer (some ⟨W.heap.size, 0, none⟩)]) ∧ w' = W.alloc (.cells #[.map mb] tMi) :=
  (callsIn_wide (n := 5)).1 (AnyZI.keys_in Tryz.keysI Fence.wide 5 trivial rfl mb W)
theorem sorted_nats {ss : List Int} {ms : List Nat} (hp : ss.Perm (ms.map fun n : Nat => (n : Int))) (hs : ms.Pairwise (· < ·)) : ss.mergeSort (fun x y => decide (x ≤ y)) = ms.map fun n : Nat => (n : Int) := by
  refine List.Perm.eq_of_pairwise (le := fun a b : Int => decide (a ≤ b) = true) ?_ ?_ ?_ ((List.mergeSort_perm _ _).trans hp)
  · intro a b _ _ h1 h2
    simp only [decide_eq_true_eq] at h1 h2
    omega
  · refine List.pairwise_mergeSort ?_ ?_ _
    · intro a b c h1 h2
      simp only [decide_eq_true_eq] at h1 h2 ⊢
      omega
    · intro a b
      simp only [Bool.or_eq_true, decide_eq_true_eq]
      omega
  · rw [List.pairwise_map]
    refine hs.imp fun {a b} hab => ?_
    simp only [decide_eq_true_eq]
    omega
/-- The keys, rising. -/
theorem sortedI_any (h : MapI w b c look) (hsz : c ≤ 100000) {ms : List Nat} (hs : ms.Pairwise (· < ·)) (hm : ∀ n, n ∈ ms ↔ (look n).isSome = true) :
    Calls Tryz.prog 84 #[.func (.func 111) #[] #[.pointer (some ⟨w.heap.size, 0, none⟩)]] (w.alloc (.cells #[.map (some b)] tMi)) fun e w' => ∃ v, e = .returned v ∧ w'.ownsRow w.heap.size tI 1 v ms.length (ms.map fun n : Nat => Value.int .i64 (n : Int)) ∧ Below w.heap.size w w' := by
  obtain ⟨D, hown, hr⟩ := h
  have hle := hown.size_le
  have hmax : Maps.size D ≤ maxLen := by unfold maxLen; omega
  have hbytes : Maps.size D * 8 ≤ 140737488355328 := by omega
  have hbl := hown.lt
  have hseq : SeqGives Fence.wide 2 Tryz.prog 111 #[.pointer (some ⟨w.heap.size, 0, none⟩)] encZ (fun ss => ss.Perm (intKeys D)) (Maps.size D) (w.alloc (.cells #[.map (some b)] tMi)) :=
    AnyZI.keys_gives (ρ := Tryz.keysI_ren) { Tryz.keysI with } Fence.wide _ trivial rfl (by omega) w.heap.size b c D _ (by simp) (by simp) (by
      obtain ⟨es, clock, hb, Ft, hs, hD⟩ := hown
      exact ⟨es, clock, (Below.heap_alloc _ _ b hbl).trans hb, Ft, hs, hD⟩)
  have cS := AnyZI.sorted_in Tryz.sortedI Fence.wide 5 trivial trivial trivial trivial rfl (by omega) (sortsI _) (enters_of Tryz.func110 (by kernel_rfl) rfl) 111 #[.pointer (some ⟨w.heap.size, 0, none⟩)] trivial (enters_of Tryz.func111 (by kernel_rfl) rfl) _ _ hmax hbytes _ hseq
  change CallsIn _ _ Tryz.prog 84 _ _ _ at cS
  have hcol : CollectedI D (fun _ => false) (ms.map fun n : Nat => (n : Int)) := by
    refine ⟨List.pairwise_map.2 (hs.imp fun {a b} hab => by omega), fun z => ?_⟩
    rw [hr.has z]
    constructor
    · intro hz
      obtain ⟨n, hn, rfl⟩ := List.mem_map.1 hz
      have := (hm n).1 hn
      simp [this]
    · rintro ⟨h1, _⟩
      simp only [Bool.and_eq_true, decide_eq_true_eq] at h1
      refine List.mem_map.2 ⟨z.toNat, (hm _).2 h1.2, by omega⟩
  have HP := hid (hcol.perm hown intKeyed Tryz.underlying3 (fun _ => rfl))
  refine ((callsIn_wide (n := 5)).1 cS).mono ?_
  rintro e w' ⟨v, ss, rfl, hS, hrow, hnil, hb⟩
  have hso := sorted_nats (hS.trans HP.out.symm) hs
  have hl : ss.length = ms.length := by
    have := congrArg List.length hso
    rwa [List.length_mergeSort, List.length_map] at this
  rw [hso, hl, List.map_map] at hrow
  exact ⟨v, rfl, ownsRow_base_a hrow (by simp), ((Below.refl _ w).alloc (Nat.le_refl _) _).trans (hb.mono (by simp))⟩

end Jo
end Go.Proofs.YtpdpjgeoclilhaaGreat

/-
  slices.Backward over a row of pages: what it gives, one behind the other, against whatever loop body keeps what lay ahead.
-/
namespace Go.Proofs.YtpdpjgeoclilhaaGreat
open Go.RowKit Go.Maps Go.Sort Go.Shelf
namespace Jo
open Num (hid)
open Mem (Bs bs tS Chg ptr blk_cell blk_free blk_new blk_set blk_other blk_alloc row_kept row_shape row_type)
attribute [local go_sem] Oper.semAt_some

/-- What comes: a place, a page's number, its bytes. -/
structure Px where
  i : Nat
  n : Nat
  d : List UInt8
  hi : i ≤ 100000
  hn : n ≤ 100000
def px (i : Nat) (r : Rec) : Px := ⟨min i 100000, min r.1 100000, r.2, by omega, by omega⟩
def encP (x : Px) : Array Value := #[.int .i64 (x.i : Int), .agg #[.int .i64 (x.n : Int), .string (bs x.d)]]
theorem encP_px {i : Nat} {r : Rec} (hi : i ≤ 100000) (hn : r.1 ≤ 100000) : encP (px i r) = #[.int .i64 (i : Int), .agg #[.int .i64 (r.1 : Int), .string (bs r.2)]] := by
  unfold encP px
  simp only [Nat.min_eq_left hi, Nat.min_eq_left hn]
/-- What has come behind k rounds. -/
def downs (zs : List Rec) (k : Nat) : List Px := (List.range k).map fun j => px (zs.length - 1 - j) (zs.getD (zs.length - 1 - j) (0, []))
theorem downs_succ (zs : List Rec) (k : Nat) : downs zs (k + 1) = downs zs k ++ [px (zs.length - 1 - k) (zs.getD (zs.length - 1 - k) (0, []))] := by simp [downs, List.range_succ]
theorem downs_len (zs : List Rec) (k : Nat) : (downs zs k).length = k := by simp [downs]
/-- Pages in a block below n₀; or none. -/
def PgsAt (n₀ : Nat) (W : World) (sv : Value) (zs : List Rec) : Prop :=
  (sv = .slice none 0 0 ∧ zs = []) ∨ ∃ b cap, sv = .slice (some ⟨b, 0, none⟩) zs.length cap ∧ zs.length ≤ cap ∧ b < n₀ ∧ ∀ j (h : j < zs.length), W.cell? ⟨b, j * 2, none⟩ = some (.int .i64 (zs[j].1 : Nat)) ∧ W.cell? ⟨b, j * 2 + 1, none⟩ = some (.string (bs zs[j].2))
theorem PgsAt.below {n₀ : Nat} {A B : World} {sv : Value} {zs : List Rec} (h : PgsAt n₀ A sv zs) (hb : Below n₀ A B) : PgsAt n₀ B sv zs := by
  rcases h with h | ⟨b, cap, e, hc, hlt, hx⟩
  · exact Or.inl h
  · exact Or.inr ⟨b, cap, e, hc, hlt, fun j hj => ⟨(hb.cell (p := ⟨b, j * 2, none⟩) hlt).trans (hx j hj).1, (hb.cell (p := ⟨b, j * 2 + 1, none⟩) hlt).trans (hx j hj).2⟩⟩
theorem flat_get (zs : List Rec) (j : Nat) (h : j < zs.length) : (zs.flatMap pV)[j * 2]? = some (.int .i64 (zs[j].1 : Nat)) ∧ (zs.flatMap pV)[j * 2 + 1]? = some (.string (bs zs[j].2)) := by
  induction zs generalizing j with
  | nil => exact absurd h (Nat.not_lt_zero _)
  | cons x r ih =>
    cases j with
    | zero => simp [pV]
    | succ j =>
      obtain ⟨h1, h2⟩ := ih j (by simpa using h)
      have e1 : (j + 1) * 2 = j * 2 + 2 := by omega
      rw [e1, List.flatMap_cons]
      constructor
      · rw [List.getElem?_append_right (by simp [pV])]
        simpa [pV] using h1
      · rw [List.getElem?_append_right (by simp [pV])]
        simpa [pV] using h2
theorem pgs_of {w : World} {v : Value} {zs : List Rec} (h : w.ownsRow 0 tPg 2 v zs.length (zs.flatMap pV)) {n₀ : Nat} (hn : ∀ g, v.ownBlock = some g → g < n₀) : PgsAt n₀ w v zs := by
  obtain ⟨h1, h2⟩ := h
  rcases h2 with ⟨h2, h3⟩ | ⟨g, cap, cur, h2, h3, h4, h5, h6, h7, h8⟩
  · exact Or.inl ⟨h2, List.eq_nil_of_length_eq_zero h3⟩
  · refine Or.inr ⟨g, cap, h2, h5, hn g (by rw [h2]; rfl), fun j hj => ?_⟩
    obtain ⟨e1, e2⟩ := flat_get zs j hj
    rw [← h8] at e1 e2
    have at_ : ∀ i x, (cur.toList.take (zs.length * 2))[i]? = some x → w.cell? ⟨g, i, none⟩ = some x := fun i x hx => by
      rw [blk_cell h4 i]
      have hi : i < zs.length * 2 := by
        have := (List.getElem?_eq_some_iff.1 hx).1
        rw [List.length_take] at this
        omega
      rw [List.getElem?_take_of_lt hi] at hx
      simpa using hx
    exact ⟨at_ _ _ e1, at_ _ _ e2⟩

/-- What a round has to leave: the blocks R. -/
def KR (R : Nat → Prop) (W W' : World) : Prop := ∀ k, R k → W'.heap[k]? = W.heap[k]?
theorem KR.refl (R : Nat → Prop) (W : World) : KR R W W := fun _ _ => rfl
theorem KR.trans {R : Nat → Prop} {A B C : World} (h : KR R A B) (k : KR R B C) : KR R A C := fun i hi => (k i hi).trans (h i hi)
theorem KR.cell {R : Nat → Prop} {A B : World} (h : KR R A B) {b i : Nat} (hb : R b) : B.cell? ⟨b, i, none⟩ = A.cell? ⟨b, i, none⟩ := World.cell?_of_block (h b hb)
set_option maxRecDepth 100000 in
set_option maxHeartbeats 2000000 in
theorem bwd1_in (F : Fence) (n : Nat) (h8 : F.fn 108) (hro : F.round = none) (_hn : 1 ≤ n) (l Bs b cap : Nat) (R : Nat → Prop) (zs : List Rec) (hlen : zs.length ≤ 100000) (_hcap : zs.length ≤ cap) (hnum : ∀ r ∈ zs, r.1 ≤ 100000) (hb : R b) (J Jx : List Px → World → Prop)
    (hY : ∀ pre x W, J pre W → pre.length < zs.length → YieldAt F (n - 1) Tryz.prog l (encP x) W fun e W' =>
      (e = .returned (.bool true) ∧ J (pre ++ [x]) W' ∧ KR R W W') ∨ (e = .returned (.bool false) ∧ Jx (pre ++ [x]) W'))
    (W : World) (hBs : W.cell? ⟨Bs, 0, none⟩ = some (.slice (some ⟨b, 0, none⟩) zs.length cap)) (hBl : R Bs) (hc : ∀ j (h : j < zs.length), W.cell? ⟨b, j * 2, none⟩ = some (.int .i64 (zs[j].1 : Nat)) ∧ W.cell? ⟨b, j * 2 + 1, none⟩ = some (.string (bs zs[j].2))) (h0 : J [] W) :
    CallsIn F n Tryz.prog 108 #[.func (.yield l) #[] #[], .pointer (some ⟨Bs, 0, none⟩)] W fun e W' => (∃ v, e = .returned v) ∧
      ((∃ ys, ys = downs zs zs.length ∧ J ys W') ∨ (∃ pre, (∃ k, k ≤ zs.length ∧ pre = downs zs k) ∧ Jx pre W')) := by
  have hw0 : wrap64 ((zs.length : Int) - 1) = (zs.length : Int) - 1 := by rw [Num.wrap_i]; omega
  refine callsIn_of_wp Tryz.func108 rfl h8 ?_ hro
  simp only [Tryz.ntmps108, List.size_toArray, List.length_cons, List.length_nil, Nat.reduceAdd, Nat.reduceSub, Array.replicate_succ, Array.replicate_zero, List.push_toArray, List.append_toArray, List.nil_append, List.cons_append]
  gi_wp2
  gi_loopw [3] (fun i wr => ∃ k r : Nat, k + r = zs.length ∧ i = .int .i64 ((r : Int) - 1) ∧ J (downs zs k) wr ∧ KR R W wr)
    (fun i _ => (intOf i + 1).toNat)
  case atStart => exact ⟨0, zs.length, by omega, by simp, h0, KR.refl _ _⟩
  case round =>
    obtain ⟨k, r, hk, rfl, hJs, hnx⟩ := hrel
    have hBs2 : wr.cell? ⟨Bs, 0, none⟩ = some (.slice (some ⟨b, 0, none⟩) zs.length cap) := (hnx.cell hBl).trans hBs
    cases r with
    | zero =>
      have hk0 : k = zs.length := by omega
      have hm1 : ((0 : Nat) : Int) - 1 = -1 := rfl
      rw [hm1]
      gi_wp2
      go_end0
      exact ⟨⟨_, rfl⟩, .inl ⟨_, rfl, by rw [← hk0]; exact hJs⟩⟩
    | succ q =>
      have hq : q < zs.length := by omega
      have he : zs.length - 1 - k = q := by omega
      have hq1 : ((q + 1 : Nat) : Int) - 1 = (q : Int) := by omega
      rw [hq1]
      have hgd : zs.getD q (0, []) = zs[q] := by simp [hq]
      have hds := downs_succ zs k
      rw [he, hgd] at hds
      obtain ⟨c0, c1⟩ := hc q hq
      have x0 := (hnx.cell hb).trans c0
      have x1 := (hnx.cell hb).trans c1
      obtain ⟨fn, tmps, assign, body, hy, hR⟩ := hY _ (px q zs[q]) wr hJs (by rw [downs_len]; omega)
      rw [encP_px (by omega) (hnum _ (List.getElem_mem hq))] at hy
      rw [← hds] at hR
      have hwq : wrap64 ((q : Int) - 1) = (q : Int) - 1 := by rw [Num.wrap_i]; omega
      have hqi : (q : Int) < (zs.length : Int) := by omega
      generalize zs[q] = rr at *
      clear c0 c1 hgd hds
      gi_wp2
      refine hR.mono ?_
      rintro e W3 (⟨rfl, hJ3, hk3⟩ | ⟨rfl, hJx3⟩)
      · gi_wp2
        go_roundw
        case rel => exact ⟨k + 1, q, by omega, rfl, hJ3, hnx.trans hk3⟩
        case measure => simp [intOf]
      · gi_wp2
        refine bodyPost_ret (results_none rfl _ _ _) rfl ?_
        exact ⟨⟨_, rfl⟩, .inr ⟨_, ⟨k + 1, by omega, rfl⟩, hJx3⟩⟩
set_option maxRecDepth 100000 in
set_option maxHeartbeats 1000000 in
theorem bwd1_nil (F : Fence) (n : Nat) (h8 : F.fn 108) (hro : F.round = none) (l Bs : Nat) (J : List Px → World → Prop) (W : World) (hBs : W.cell? ⟨Bs, 0, none⟩ = some (.slice none 0 0)) (h0 : J [] W) :
    CallsIn F n Tryz.prog 108 #[.func (.yield l) #[] #[], .pointer (some ⟨Bs, 0, none⟩)] W fun e W' => (∃ v, e = .returned v) ∧ J [] W' := by
  refine callsIn_of_wp Tryz.func108 rfl h8 ?_ hro
  simp only [Tryz.ntmps108, List.size_toArray, List.length_cons, List.length_nil, Nat.reduceAdd, Nat.reduceSub, Array.replicate_succ, Array.replicate_zero, List.push_toArray, List.append_toArray, List.nil_append, List.cons_append]
  gi_wp2
  gi_loopw [3] (fun i wr => i = .int .i64 (-1) ∧ J [] wr) (fun _ _ => 0)
  case atStart => exact ⟨rfl, h0⟩
  case round =>
    obtain ⟨rfl, hJs⟩ := hrel
    gi_wp2
    go_end0
    exact ⟨⟨_, rfl⟩, hJs⟩
/-- What slices.Backward hands back: the slice value is boxed; the function value captures the box. -/
theorem bwd_any (a : Option Addr) (len cap : Nat) (w : World) : Calls Tryz.prog 83 #[.slice a len cap] w fun e w' => e = .returned (.func (.func 108) #[] #[.pointer (some ⟨w.heap.size, 0, none⟩)]) ∧ w' = w.alloc (.cells #[.slice a len cap] tPgs) := by
  go_enter Tryz.func83, Tryz.ntmps83
  go_wp2
  go_ret
  exact ⟨rfl, rfl⟩
theorem bwd_stops (F : Fence) (n : Nat) (h8 : F.fn 108) (hro : F.round = none) (hn : 1 ≤ n) (Bs n₀ : Nat) (R : Nat → Prop) (sv : Value) (zs : List Rec) (hlen : zs.length ≤ 100000) (hnum : ∀ r ∈ zs, r.1 ≤ 100000) (w : World) (hBs : R Bs) (hBl : Bs < w.heap.size) (hn₀ : n₀ ≤ w.heap.size) (hR : ∀ g, sv.ownBlock = some g → R g)
    (hc : w.cell? ⟨Bs, 0, none⟩ = some sv) (hI : PgsAt n₀ w sv zs) :
    SeqStopsK F n Tryz.prog 108 #[.pointer (some ⟨Bs, 0, none⟩)] encP (KR R) (fun ys => ys = downs zs zs.length) (fun pre => ∃ k, k ≤ zs.length ∧ pre = downs zs k) zs.length w := fun l J Jx W hW _ _ hY h0 => by
  have hc' := (hW.cell (p := ⟨Bs, 0, none⟩) hBl).trans hc
  rcases hI.below (hW.mono hn₀) with ⟨rfl, rfl⟩ | ⟨b, cap, rfl, hcap, hb, hcs⟩
  · exact (bwd1_nil F n h8 hro l Bs J W hc' h0).mono fun e W' ⟨he, hj⟩ => ⟨he, .inl ⟨_, rfl, hj⟩⟩
  · exact bwd1_in F n h8 hro hn l Bs b cap R zs hlen hcap hnum (hR b rfl) J Jx hY W hc' hBs hcs h0
end Jo
end Go.Proofs.YtpdpjgeoclilhaaGreat

/-
  Contract of writePage: a page of the database is written back; what the records of a journal are.
-/
namespace Go.Proofs.YtpdpjgeoclilhaaGreat
open Go.RowKit Go.Shelf
namespace Jo
open Num (hid)
open Disk (Mod Fil Sees Stays)
open Seal (sealS sealS_list sealS_size)
open Mem (Bs bs tS Chg ptr blk_cell blk_free blk_new blk_set blk_other blk_alloc row_kept row_shape row_type)
variable {O : Nat → Prop} {d m : Nat} {M : Mod} {f : Fnd} {w w' : World}

/-- A record's number and bytes. -/
def RecOk (l : List Rec) : Prop := ∀ r ∈ l, r.1 < 4096 ∧ r.2.length = 232
theorem RecOk.take {g : Fnd} {l : List UInt8} (h : RecOk f.recs) (e : takeF f l = some g) : RecOk g.recs := by
  unfold takeF at e
  split at e
  · cases e
  · rename_i hok
    split at e
    · cases e
    · split at e
      · split at e
        · cases e
        · cases e
          intro r hr
          rcases List.mem_append.1 hr with hr | hr
          · exact h r hr
          · rw [List.mem_singleton] at hr
            subst hr
            have hk : okB l = true := by cases hx : okB l <;> simp_all
            exact ⟨by show kN l < 4096; omega, kD_len hk⟩
      · split at e
        · split at e
          · cases e
          · cases e; exact h
        · cases e
theorem recs_findN : ∀ (k i : Nat) (f : Fnd) (M : Mod), RecOk f.recs → RecOk (findN k i f M).2.1.recs
  | 0, _, _, _, h => h
  | k + 1, i, f, M, h => by
    unfold findN
    split
    · exact h
    · cases ht : takeF f (M.read jn i).1 with
      | none => exact h
      | some g => exact recs_findN k (i + 1) g _ (h.take ht)
theorem recs_find (M : Mod) : RecOk (countF (findM M).2.1) := fun r hr => recs_findN _ _ f0 M (fun r hr => by cases hr) r (List.mem_of_mem_take hr)
/-- A page that is written back. -/
def pageM (M : Mod) (n : Nat) (d : List UInt8) : Int × Mod := (if (M.write dn n (Seal.sealL 1 n 0 d)).1 = 14 then 30 else (M.write dn n (Seal.sealL 1 n 0 d)).1, (M.write dn n (Seal.sealL 1 n 0 d)).2)
theorem writes_page (l : List Rec) (n : Nat) (r : List Nat) (M : Mod) : writesM l (n :: r) M = if (pageM M n (firstD l n)).1 ≠ 0 then pageM M n (firstD l n) else writesM l r (pageM M n (firstD l n)).2 := by
  conv => lhs; unfold writesM
  unfold pageM
  simp only
  split
  · rename_i h
    rw [if_pos (by decide)]
  · rfl
theorem write_dn {O : Nat → Prop} (h : Sees O d m M w) (n : Nat) (K N S : Nat) (dd : ByteArray) (hd : dd.size = 232) :
    Calls Tryz.prog 60 #[ptr d, .string dS, .int .i64 (n : Nat), .string (sealS K N S dd)] w fun e w' => e = .returned (.int .i64 (M.write dn n (Seal.sealL K N S dd.data.toList)).1) ∧ Sees O d m (M.write dn n (Seal.sealL K N S dd.data.toList)).2 w' ∧ Stays O w w' := by
  have := Disk.write_sees h dS (by decide) (n : Int) (sealS K N S dd) (by rw [sealS_size, hd]; decide)
  rw [sealS_list, dS_list] at this
  exact this
set_option maxRecDepth 100000 in
set_option maxHeartbeats 2000000 in
theorem page_any (h : Sees O d m M w) (n : Nat) (hn : n < 4294967296) (dd : Bs) (hd : dd.length = 232) :
    Calls Tryz.prog 86 #[ptr d, .agg #[.int .i64 (n : Nat), .string (bs dd)]] w fun e w' => e = .returned (.int .i64 (pageM M n dd).1) ∧ Sees O d m (pageM M n dd).2 w' ∧ Stays O w w' := by
  have hds : (bs dd).size = 232 := by show dd.toArray.size = 232; simpa using hd
  have hcl := close_is 1 n 0 (by decide) hn (by decide) (bs dd) hds
  unfold sV at hcl
  obtain ⟨X, hX⟩ : ∃ X, M.write dn n (Seal.sealL 1 n 0 dd) = X := ⟨_, rfl⟩
  have hP : pageM M n dd = (if X.1 = 14 then 30 else X.1, X.2) := by unfold pageM; rw [hX]
  rw [hP]
  have HC := hid hcl
  have H := hid h
  have HDS := hid hds
  have HX : Hid (M.write dn n (Seal.sealL 1 n 0 (bs dd).data.toList) = X) := hid hX
  clear hcl h hds hX hn hd hP
  by_cases h14 : X.1 = 14
  · have h1 : (X.1 == 14) = true := by simp [h14]
    rw [if_pos h14]
    have H14 := hid h14
    clear h14
    go_enter Tryz.func86, Tryz.ntmps86
    go_wp2_with fail
    refine (HC.out _).mono ?_
    rintro e w1 ⟨rfl, hb1⟩
    have B1 : Below w.heap.size w w1 := ((Below.refl _ _).alloc (Nat.le_refl _) _).trans (hb1.mono (by simp))
    have k0 : w1.cell? ⟨w.heap.size, 0, none⟩ = some (.int .i64 (n : Nat)) := (hb1.cell (p := ⟨w.heap.size, 0, none⟩) (by simp)).trans (blk_cell (blk_new w _) 0)
    have HB := hid B1
    have H1 := hid (H.out.kept B1)
    clear hb1 B1
    go_wp2_with fail
    refine (write_dn H1.out n 1 n 0 (bs dd) HDS.out).mono ?_
    rintro e w2 ⟨rfl, h2, hs2⟩
    rw [HX.out] at h2 ⊢
    have H2 := hid h2
    have HS2 := hid ((stays_of (O := O) HB.out).trans hs2)
    clear h2 hs2
    go_wp2
    go_ret
    exact ⟨rfl, H2.out, HS2.out⟩
  · have h1 : (X.1 == 14) = false := by simp [h14]
    rw [if_neg h14]
    have H14 := hid h14
    clear h14
    go_enter Tryz.func86, Tryz.ntmps86
    go_wp2_with fail
    refine (HC.out _).mono ?_
    rintro e w1 ⟨rfl, hb1⟩
    have B1 : Below w.heap.size w w1 := ((Below.refl _ _).alloc (Nat.le_refl _) _).trans (hb1.mono (by simp))
    have k0 : w1.cell? ⟨w.heap.size, 0, none⟩ = some (.int .i64 (n : Nat)) := (hb1.cell (p := ⟨w.heap.size, 0, none⟩) (by simp)).trans (blk_cell (blk_new w _) 0)
    have HB := hid B1
    have H1 := hid (H.out.kept B1)
    clear hb1 B1
    go_wp2_with fail
    refine (write_dn H1.out n 1 n 0 (bs dd) HDS.out).mono ?_
    rintro e w2 ⟨rfl, h2, hs2⟩
    rw [HX.out] at h2 ⊢
    have H2 := hid h2
    have HS2 := hid ((stays_of (O := O) HB.out).trans hs2)
    clear h2 hs2
    go_wp2
    go_ret
    exact ⟨rfl, H2.out, HS2.out⟩
end Jo
end Go.Proofs.YtpdpjgeoclilhaaGreat

/-
  Contract of restore: a database is made what records say it was.
-/
namespace Go.Proofs.YtpdpjgeoclilhaaGreat
open Go.RowKit Go.Maps Go.Sort Go.Shelf
namespace Jo
open Num (hid)
open Disk (Mod Fil Sees Stays)
open Mem (Bs bs tS Chg ptr blk_cell blk_free blk_new blk_set blk_other blk_alloc row_kept row_shape row_type)
attribute [local go_sem] Oper.semAt_some
variable {O : Nat → Prop} {d m : Nat} {M : Mod} {w w' : World}

/-- The map behind what has come. -/
def lk (pre : List Px) : Nat → Option Nat := pre.foldl (fun g x => lookPut g x.n x.i) (fun _ => none)
theorem lk_snoc (pre : List Px) (x : Px) : lk (pre ++ [x]) = lookPut (lk pre) x.n x.i := by simp [lk]
theorem cut_dn {O : Nat → Prop} (h : Sees O d m M w) (P : Nat) : Calls Tryz.prog 87 #[ptr d, .string dS, .int .i64 (P : Nat)] w fun e w' => e = .returned (.int .i64 (M.cut dn P).1) ∧ Sees O d m (M.cut dn P).2 w' ∧ Stays O w w' := Disk.cut_sees h dS (by decide) P
theorem sync_dn {O : Nat → Prop} (h : Sees O d m M w) : Calls Tryz.prog 29 #[ptr d, .string dS] w fun e w' => e = .returned (.int .i64 (M.sync dn).1) ∧ Sees O d m (M.sync dn).2 w' ∧ Stays O w w' := Disk.sync_sees h dS (by decide)
/-- The last round's map holds the first of each number. -/
theorem downs_find (zs : List Rec) (hz : RecOk zs) (hl : zs.length ≤ 100000) (n : Nat) : ∀ k, k ≤ zs.length →
    (zs.drop (zs.length - k)).find? (fun r => r.1 == n) = (lk (downs zs k) n).bind (fun i => zs[i]?) ∧ (∀ i, lk (downs zs k) n = some i → i < zs.length)
  | 0, _ => by
    have e : zs.drop (zs.length - 0) = [] := List.drop_of_length_le (by omega)
    rw [e]
    exact ⟨rfl, fun i h => by cases h⟩
  | k + 1, hk => by
    obtain ⟨h1, h2⟩ := downs_find zs hz hl n k (by omega)
    obtain ⟨q, hq⟩ : ∃ q, zs.length - 1 - k = q := ⟨_, rfl⟩
    have hql : q < zs.length := by omega
    have e1 : zs.length - (k + 1) = q := by omega
    have e2 : zs.length - k = q + 1 := by omega
    have hgd : zs.getD q (0, []) = zs[q] := by simp [hql]
    have hnn := (hz _ (List.getElem_mem hql)).1
    have x1 : (px q zs[q]).n = zs[q].1 := by show min _ _ = _; omega
    have x2 : (px q zs[q]).i = q := by show min _ _ = _; omega
    rw [downs_succ, hq, hgd, lk_snoc, x1, x2, e1, List.drop_eq_getElem_cons hql]
    rw [e2] at h1
    unfold lookPut
    by_cases e : zs[q].1 = n
    · rw [List.find?_cons_of_pos (by simp [e]), if_pos e.symm]
      exact ⟨by simp [hql], fun i hi => by cases hi; exact hql⟩
    · rw [List.find?_cons_of_neg (by simp [e]), if_neg (fun x => e x.symm)]
      exact ⟨h1, h2⟩
theorem lk_all {zs : List Rec} (hz : RecOk zs) (hl : zs.length ≤ 100000) {n : Nat} (hn : n ∈ numsOf zs) : ∃ i, ∃ h : i < zs.length, lk (downs zs zs.length) n = some i ∧ firstD zs n = zs[i].2 ∧ zs[i].1 = n := by
  obtain ⟨h1, h2⟩ := downs_find zs hz hl n zs.length (Nat.le_refl _)
  rw [Nat.sub_self, List.drop_zero] at h1
  obtain ⟨_, r, hr, e⟩ := nums_mem.1 hn
  cases hk : lk (downs zs zs.length) n with
  | none =>
    rw [hk] at h1
    exact absurd e (by simpa using List.find?_eq_none.1 h1 r hr)
  | some i =>
    have hi := h2 i hk
    rw [hk] at h1
    simp only [Option.bind_some, List.getElem?_eq_getElem hi] at h1
    refine ⟨i, hi, rfl, ?_, by simpa using List.find?_some h1⟩
    unfold firstD
    rw [h1]
    rfl
theorem lk_mem {zs : List Rec} (hz : RecOk zs) (hl : zs.length ≤ 100000) (n : Nat) : n ∈ numsOf zs ↔ (lk (downs zs zs.length) n).isSome = true := by
  refine ⟨fun h => ?_, fun h => ?_⟩
  · obtain ⟨i, _, e, _⟩ := lk_all hz hl h
    rw [e]; rfl
  · obtain ⟨i, hi⟩ := Option.isSome_iff_exists.1 h
    obtain ⟨h1, h2⟩ := downs_find zs hz hl n zs.length (Nat.le_refl _)
    rw [Nat.sub_self, List.drop_zero, hi] at h1
    have hil := h2 i hi
    simp only [Option.bind_some, List.getElem?_eq_getElem hil] at h1
    have h3 := List.mem_of_find?_eq_some h1
    have h4 : zs[i].1 = n := by simpa using List.find?_some h1
    exact nums_mem.2 ⟨by rw [← h4]; exact (hz _ h3).1, _, h3, h4⟩
theorem nums_rise (zs : List Rec) : (numsOf zs).Pairwise (· < ·) := List.Pairwise.filter _ List.pairwise_lt_range
theorem nums_len (zs : List Rec) : (numsOf zs).length ≤ 4096 := by
  have := List.length_filter_le (fun n => zs.any fun r => r.1 == n) (List.range 4096)
  simpa [numsOf] using this
/-- A row of numbers, place by place. -/
theorem row_nats {base : Nat} {v : Value} {ms : List Nat} (h : w.ownsRow base tI 1 v ms.length (ms.map fun n : Nat => Value.int .i64 (n : Int))) :
    ∃ so cap, v = .slice so ms.length cap ∧ ∀ k (hk : k < ms.length), ∃ g, so = some ⟨g, 0, none⟩ ∧ base ≤ g ∧ g < w.heap.size ∧ w.cell? ⟨g, k, none⟩ = some (.int .i64 (ms[k] : Nat)) := by
  obtain ⟨h1, h2⟩ := h
  rcases h2 with ⟨h2, h3⟩ | ⟨g, cap, cur, h2, h3, h4, h5, h6, h7, h8⟩
  · exact ⟨none, 0, by rw [h2, h3], fun k hk => by omega⟩
  · refine ⟨some ⟨g, 0, none⟩, cap, h2, fun k hk => ⟨g, rfl, h3, lt_of_block h4, ?_⟩⟩
    have hx : (cur.toList.take (ms.length * 1))[k]? = some (.int .i64 (ms[k] : Nat)) := by rw [h8]; simp [hk]
    rw [List.getElem?_take_of_lt (by omega)] at hx
    rw [blk_cell h4 k]
    simpa using hx
theorem mapI_apart {b c : Nat} {look : Nat → Option Nat} {F : Nat → Prop} (h : MapI w b c look) (hc : Disk.Chg F w w') (hF : ¬ F b) : MapI w' b c look := by
  obtain ⟨D, ⟨es, clock, hb, r⟩, hr⟩ := h
  exact ⟨D, ⟨es, clock, hc.at hb hF, r⟩, hr⟩
theorem mapI_look {b c : Nat} {look : Nat → Option Nat} (h : MapI w b c look) {n i : Nat} (hn : n ≤ 100000) (hi : look n = some i) : (Instr.lookup tMi (.map (some b)) (.int .i64 n) false).run Tryz.prog w = .ok (.int .i64 i) w := by
  obtain ⟨D, hm, hr⟩ := h
  obtain ⟨c, h1, h2, _⟩ := hm.lookup_int intKeyed Tryz.underlying135 Tryz.underlying3 (Tryz.zeroValue3 w) (Maps.keyOf_int_mk Tryz.underlying3 (wf_nat (n := n) (by omega)))
  have := hr.at_ n i hi (.lit (.int .i64 0))
  rw [this] at h2
  cases h2
  exact h1
/-- Behind the last: the record of defers is taken down. -/
theorem put_end {O2 : Nat → Prop} {w2 wr : World} {D : Nat} (h : Sees O2 d m M wr) (hst : Stays O2 w2 wr) (hO2 : ∀ k, O k → O2 k) (h0 : Stays O w w2) (hD : O2 D) (hDO : ¬ O D) (o : Obj) : Sees O d m M (wr.putObj D o) ∧ Stays O w (wr.putObj D o) := by
  have hc : Disk.Chg (· = D) wr (wr.putObj D o) := ⟨rfl, rfl, rfl, by simp, fun k _ hk => World.putObj_heap_other hk⟩
  exact ⟨(sees_side h hc (fun k hk _ => hk ▸ hD)).fewer hO2, (h0.trans (fewer hst hO2)).trans (Disk.Chg.mono hc (fun k _ hk hO => hDO (hk ▸ hO)))⟩
/-- Between two rounds: the map, its box, the old memory. -/
def RI (w : World) (pre : List Px) (W : World) : Prop := (MapI W w.heap.size pre.length (lk pre) ∧ Boxed W (w.heap.size + 1) tMi (.map (some w.heap.size))) ∧ Below w.heap.size w W ∧ w.heap.size + 3 ≤ W.heap.size
theorem RI.kept {W W' : World} {row : Option Nat} {pre : List Px} (h : RI w pre W) (hg : W.grownBy W' row) (hr : ∀ r, row = some r → w.heap.size + 3 ≤ r) : RI w pre W' := by
  obtain ⟨⟨⟨D, hm, hd⟩, hb⟩, hw, hz⟩ := h
  exact ⟨⟨⟨D, hm.kept hg (fun e => by have := hr _ e.symm; omega), hd⟩, hb.kept hg (fun e => by have := hr _ e.symm; omega)⟩, hw.grown hg hw.size (fun k e => by have := hr k e; omega), Nat.le_trans hz hg.size⟩
/-- What a round must leave: the iterator's box, the pages' block. -/
def RK (w : World) (sv : Value) : Nat → Prop := fun k => k = w.heap.size + 2 ∨ sv.ownBlock = some k
set_option maxRecDepth 100000 in
set_option maxHeartbeats 2000000 in
theorem restore_any (h : Sees O d m M w) (P : Nat) (zs : List Rec) (ao : Option Addr) (len cap : Nat) (hz : RecOk zs) (hl : zs.length ≤ 100000) (hr : w.ownsRow 0 tPg 2 (.slice ao len cap) zs.length (zs.flatMap pV)) (hO : ∀ g, (Value.slice ao len cap).ownBlock = some g → O g) :
    Calls Tryz.prog 52 #[ptr d, .int .i64 (P : Nat), .slice ao len cap] w fun e w' => e = .returned (.int .i64 (restoreM P zs M).1) ∧ Sees O d m (restoreM P zs M).2 w' ∧ Stays O w w' := by
  obtain ⟨RM, hRM⟩ : ∃ x, restoreM P zs M = x := ⟨_, rfl⟩
  rw [hRM]
  have hmm := @run_makeMap Tryz.prog
  have hol : ∀ g, (Value.slice ao len cap).ownBlock = some g → g < w.heap.size := fun g hg => (hr.lt g hg).2
  have hPG := pgs_of hr hol
  refine (callsIn_wide (n := 10)).1 ?_
  refine callsIn_of_wp_marks Tryz.func52 rfl trivial ?_ rfl
  simp only [Tryz.ntmps52, List.size_toArray, List.length_cons, List.length_nil, Nat.reduceAdd, Nat.reduceSub, Array.replicate_succ, Array.replicate_zero, List.push_toArray, List.append_toArray, List.nil_append, List.cons_append]
  have cB : ∀ W, CallsIn Fence.wide 9 Tryz.prog 83 #[.slice ao len cap] W fun e w' => e = .returned (.func (.func 108) #[] #[.pointer (some ⟨W.heap.size, 0, none⟩)]) ∧ w' = W.alloc (.cells #[.slice ao len cap] tPgs) := fun W => callsIn_wide.2 (bwd_any ao len cap W)
  gi_wp2_with (refine ⟨trivial, ?_⟩; gi_at_call 83; refine (cB _).mono ?_; rintro e w' ⟨rfl, rfl⟩)
  have hm0 : MapI (w.alloc (.map #[] 0)) w.heap.size 0 (lk []) := mapI_new w
  have bF := Boxed.new (w.alloc (.map #[] 0)) tMi (.map (some w.heap.size))
  have bB := Boxed.new ((w.alloc (.map #[] 0)).alloc (.cells #[.map (some w.heap.size)] tMi)) tPgs (.slice ao len cap)
  simp only [World.size_alloc] at bF bB
  have hB0 : Below w.heap.size w (((w.alloc (.map #[] 0)).alloc (.cells #[.map (some w.heap.size)] tMi)).alloc (.cells #[.slice ao len cap] tPgs)) := (((Below.refl _ w).alloc (Nat.le_refl _) _).alloc (by simp) _).alloc (by simp; omega) _
  have hI0 : RI w [] (((w.alloc (.map #[] 0)).alloc (.cells #[.map (some w.heap.size)] tMi)).alloc (.cells #[.slice ao len cap] tPgs)) := by
    obtain ⟨D, h1, h2⟩ := hm0
    exact ⟨⟨⟨D, (h1.alloc _).alloc _, h2⟩, bF.alloc _⟩, hB0, by simp⟩
  have hsz : (((w.alloc (.map #[] 0)).alloc (.cells #[.map (some w.heap.size)] tMi)).alloc (.cells #[.slice ao len cap] tPgs)).heap.size = w.heap.size + 3 := by simp
  obtain ⟨W0, hW0⟩ : ∃ W0, ((w.alloc (.map #[] 0)).alloc (.cells #[.map (some w.heap.size)] tMi)).alloc (.cells #[.slice ao len cap] tPgs) = W0 := ⟨_, rfl⟩
  rw [hW0] at bB hB0 hI0 hsz ⊢
  clear hW0 hm0 bF
  refine wpIn_rangeFunc_ownH rfl (by decide) (gf := 108) (lb := #[.pointer (some ⟨w.heap.size + 1 + 1, 0, none⟩)]) rfl trivial (enters_of Tryz.func108 (by kernel_rfl) rfl)
    (bwd_stops Fence.wide 9 trivial rfl (by decide) (w.heap.size + 1 + 1) w.heap.size (RK w (.slice ao len cap)) _ zs hl (fun r hr => by have := (hz r hr).1; omega) W0 (Or.inl rfl) (by omega) (by omega) (fun g hg => Or.inr hg) bB.cell (hPG.below hB0))
    (fun h k => KR.trans h k) (fun W l o o' hl _ _ _ => fun k hk => World.putObj_heap_other (by
      rcases hk with rfl | hk
      · omega
      · have := hol k hk; omega)) (Below.refl _ _) (fun _ => rfl)
    (RI w)
    (fun _ _ _ => False)
    (fun s A B row hs hg hr => hs.kept hg (fun r e => by have := (hr r e).1; omega))
    (fun _ _ _ _ _ hs _ _ => hs)
    hI0
    (fun x a' W => ∃ Bx, w.heap.size + 2 < Bx ∧ W.heap[Bx]? = some (.cells #[.int .i64 (x.n : Int), .string (bs x.d)] tPg (0, 0)) ∧ a' = { tmps := #[ptr d, .int .i64 (P : Nat), .slice ao len cap, undef, undef, undef, .int .i64 0, .pointer (some ⟨w.heap.size + 1, 0, none⟩), .int .i64 (x.i : Int), .pointer (some ⟨Bx, 0, none⟩), undef, undef, undef, undef, undef, .map (some w.heap.size), .slice ao len cap, .func (.func 108) #[] #[.pointer (some ⟨w.heap.size + 1 + 1, 0, none⟩)], .int .i64 (x.i : Int), .agg #[.int .i64 (x.n : Int), .string (bs x.d)], undef, undef, undef, undef, undef, undef, undef, undef, undef, undef, undef, undef, undef, undef, undef, undef, undef, undef, undef, undef, undef, undef, undef, undef, undef, undef, undef, undef, undef, undef, undef, undef, undef, undef, undef, undef, undef, undef, undef], defers := [] })
    (fun x a' _ X Y row hs hg hr => by obtain ⟨Bx, h1, h2, h3⟩ := hs; exact ⟨Bx, h1, (hg.block Bx (lt_of_block h2) (fun e => by obtain ⟨_, o, ho, hc⟩ := hr Bx e.symm; rw [h2] at ho; cases ho; cases hc)).trans h2, h3⟩)
    ?assign ?body ?done ?stop
  case assign =>
    rintro l pre x W K hi hK
    unfold encP
    gi_wp2
    have hb2 : w.heap.size + 2 < W.heap.size := hi.2.2
    exact hK _ _ ((KeepsOthers.alloc _ _).from _) (fun k hk => Below.heap_alloc W _ k (by
      rcases hk with rfl | hk
      · exact hb2
      · have := hol k hk; omega)) (hi.kept (World.grownBy_alloc W _ none) (fun r e => by cases e)) ⟨W.heap.size, hb2, blk_new W _, rfl⟩
  case body =>
    rintro l pre x a' W hl ⟨r, hr⟩ ⟨⟨⟨D, hown, hrd⟩, hbx⟩, hB, hW3⟩ ⟨Bx, hBx, hbX, rfl⟩ hlt
    have c7 := hbx.cell
    have cx := blk_cell hbX 0
    gi_wp2_with (gi_at_mapUpdate; refine wpListIn_mapUpdate_own _ rfl _ _ _ tMi rfl tI tI intKeyed Tryz.underlying135 _ w.heap.size pre.length _ rfl hown (by unfold maxLen; omega) _ _ _ rfl rfl (Maps.keyOf_int_mk Tryz.underlying3 (wf_nat (by have := x.hn; omega))) _ [] (plainElem_int Tryz.underlying3 (wf_nat (by have := x.hi; omega))) ?_; intro w1 hown1 hgrow1)
    have hb0 : ∀ k : Nat, k ≠ w.heap.size → some k ≠ some w.heap.size := fun k hk e => hk (by injection e)
    refine ⟨KeepsFrom.of_grownBy hgrow1 (fun j e => by cases e; omega), fun k hk => ?_, ⟨⟨_, by rw [List.length_append]; exact hown1, by rw [lk_snoc]; exact hrd.put hown.isMap x.n x.i⟩, hbx.kept hgrow1 (hb0 _ (by omega))⟩, hB.grown hgrow1 hB.size (fun k e => by cases e; exact Nat.le_refl _), Nat.le_trans hW3 hgrow1.size⟩
    refine hgrow1.block k ?_ (hb0 k ?_)
    · rcases hk with rfl | hk
      · omega
      · have := hol k hk; omega
    · rcases hk with rfl | hk
      · omega
      · have := hol k hk; omega
  case done => 
    rintro D zs' W hD rfl ⟨⟨hM, hbx⟩, hB, hW3⟩ hK
    rw [downs_len] at hM
    clear cB hmm bB hB0 hI0
    simp only [Exit.inBlock, Exit.then]
    rename_i Q0 K0 hK0
    refine hK0 _ _ ?_
    refine wpIn_wide.2 ?_
    clear hK0
    have c7 := hbx.cell
    have hms := nums_len zs
    obtain ⟨ms, hmsE⟩ : ∃ ms, numsOf zs = ms := ⟨_, rfl⟩
    have hSo := fun (w : World) (b c : Nat) (h : MapI w b c (lk (downs zs zs.length))) (hc : c ≤ 100000) => sortedI_any h hc (nums_rise zs) (lk_mem hz hl)
    rw [hmsE] at hSo hms
    have hbl := lt_of_block hK
    have HM := hid hM
    have HBX := hid hbx
    have HSO := hid hSo
    have HK := hid hK
    have HB := hid hB
    clear hM hbx hSo hK hB
    go_wp2_with fail
    refine (keysI_any _ _).mono ?_
    rintro e w1 ⟨rfl, rfl⟩
    go_wp2_with fail
    refine (HSO.out _ _ _ HM.out hl).mono ?_
    rintro e w2 ⟨sv, rfl, hrow, hb2⟩
    obtain ⟨so, cp, rfl, hat⟩ := row_nats hrow
    have hS2 := h.more (HB.out.trans (hb2.mono HB.out.size))
    have h02 := stays_of (O := O) (HB.out.trans (hb2.mono HB.out.size))
    obtain ⟨O2, hO2⟩ : ∃ O2 : Nat → Prop, (fun k => O k ∨ (w.heap.size ≤ k ∧ k < w2.heap.size)) = O2 := ⟨_, rfl⟩
    rw [hO2] at hS2
    have hsz2 := hb2.size
    have hin : ∀ k, w.heap.size ≤ k → k < w2.heap.size → O2 k := fun k h1 h2 => by rw [← hO2]; exact Or.inr ⟨h1, h2⟩
    have hOO : ∀ k, O k → O2 k := fun k hk => by rw [← hO2]; exact Or.inl hk
    have HD : Hid (∀ wr, Stays O2 w2 wr → wr.heap[D]? = some (.deferred (some []))) := hid fun wr hs => hs.at ((hb2.block _ hbl).trans HK.out) (hin D (by omega) (by omega))
    have HC7 : Hid (∀ wr, Stays O2 w2 wr → wr.cell? ⟨w.heap.size + 1, 0, none⟩ = some (.map (some w.heap.size))) := hid fun wr hs => (hs.cell (by omega) (fun hx => hx (hin _ (by omega) (by omega)))).trans ((hb2.cell (p := ⟨w.heap.size + 1, 0, none⟩) (show w.heap.size + 1 < W.heap.size from by omega)).trans HBX.out.cell)
    have HLK : Hid (∀ wr, Stays O2 w2 wr → MapI wr w.heap.size zs.length (lk (downs zs zs.length))) := hid fun wr hs => mapI_apart (F := fun k => ¬ O2 k) (mapI_apart (F := fun _ => False) HM.out (Disk.Chg.of_below hb2) (fun x => x)) hs (fun hx => hx (hin _ (by omega) (by omega)))
    have HAT : Hid (∀ wr, Stays O2 w2 wr → ∀ k (hk : k < ms.length), ∃ g, so = some ⟨g, 0, none⟩ ∧ wr.cell? ⟨g, k, none⟩ = some (.int .i64 (ms[k] : Nat))) := hid fun wr hs k hk => by
      obtain ⟨g, e1, e2, e3, e4⟩ := hat k hk
      exact ⟨g, e1, (hs.cell e3 (fun hx => hx (hin _ (by omega) e3))).trans e4⟩
    have HPG : Hid (∀ wr, Stays O2 w2 wr → ∀ i (hi : i < zs.length), ∃ b, ao = some ⟨b, 0, none⟩ ∧ len = zs.length ∧ wr.cell? ⟨b, i * 2, none⟩ = some (.int .i64 (zs[i].1 : Nat)) ∧ wr.cell? ⟨b, i * 2 + 1, none⟩ = some (.string (bs zs[i].2))) := hid fun wr hs i hi => by
      rcases hPG.below (HB.out.trans (hb2.mono HB.out.size)) with ⟨e1, e2⟩ | ⟨b, cap', e1, e2, e3, e4⟩
      · rw [e2] at hi; exact absurd hi (Nat.not_lt_zero _)
      · cases e1
        obtain ⟨x1, x2⟩ := e4 i hi
        have hb := hO b rfl
        exact ⟨b, rfl, rfl, (hs.cell (by omega) (fun hx => hx (hOO _ hb))).trans x1, (hs.cell (by omega) (fun hx => hx (hOO _ hb))).trans x2⟩
    have HEND : Hid (∀ (Mx : Mod) (wr : World), Sees O2 d m Mx wr → Stays O2 w2 wr → Sees O d m Mx (wr.putObj D (.deferred none)) ∧ Stays O w (wr.putObj D (.deferred none))) := hid fun Mx wr h1 h2 => put_end h1 h2 hOO h02 (hin D (by omega) (by omega)) (fun hx => by have := Sees.olt' h hx; omega) _
    have HS2 := hid hS2
    have HMS : Hid (∀ n ∈ ms, n < 4096 ∧ ∃ i, ∃ h : i < zs.length, lk (downs zs zs.length) n = some i ∧ firstD zs n = zs[i].2 ∧ zs[i].1 = n) := hid fun n hn => by
      rw [← hmsE] at hn
      exact ⟨(nums_mem.1 hn).1, lk_all hz hl hn⟩
    have HZ := hid hz
    have HRM : Hid (RM = if (writesM zs ms M).1 ≠ 0 then writesM zs ms M else cutsM P (writesM zs ms M).2) := hid (by rw [← hRM]; unfold restoreM; rw [hmsE])
    clear hRM hrow hat hb2 hS2 h02 hO2 hin hOO hmsE hz h hr hO hol hPG c7 HM HBX HSO HK HB
    go_wp2_with fail
    go_loopw [28] (fun i wr => ∃ (k : Nat) (Mk : Mod), k ≤ ms.length ∧ i = .int .i64 k ∧ Hid (Sees O2 d m Mk wr ∧ Stays O2 w2 wr ∧ writesM zs ms M = writesM zs (ms.drop k) Mk)) (fun i _ => ms.length - (intOf i).toNat)
    case atStart => exact ⟨0, M, Nat.zero_le _, rfl, hid ⟨HS2.out, Disk.Stays.refl _ _, rfl⟩⟩
    case round =>
      obtain ⟨k, Mk, hk, rfl, HI⟩ := hrel
      by_cases hlt : (k : Int) < (ms.length : Int)
      · have hkn : k < ms.length := by omega
        obtain ⟨hn, i, hi, e1, e2, e3⟩ := HMS.out ms[k] (List.getElem_mem hkn)
        obtain ⟨g, rfl, hc1⟩ := HAT.out wr HI.out.2.1 k hkn
        obtain ⟨b, rfl, rfl, p1, p2⟩ := HPG.out wr HI.out.2.1 i hi
        have hc7 := HC7.out wr HI.out.2.1
        have hlk := mapI_look (HLK.out wr HI.out.2.1) (by omega) e1
        have hdr : ms.drop k = ms[k] :: ms.drop (k + 1) := List.drop_eq_getElem_cons hkn
        have hi2 : (i : Int) < (zs.length : Int) := by omega
        have HW := HI.out.2.2
        rw [hdr, writes_page, e2] at HW
        have hdl := (HZ.out _ (List.getElem_mem hi)).2
        rw [e3] at p1
        generalize zs[i].2 = dd at *
        generalize ms[k] = nn at *
        have HW2 := hid HW
        clear HW hdr e1 e2 e3
        go_wp2_with fail
        refine (page_any HI.out.1 nn (by omega) dd hdl).mono ?_
        rintro e w3 ⟨rfl, h3, hs3⟩
        have HI3 : Hid (Stays O2 w2 w3) := hid (HI.out.2.1.trans hs3)
        have H3 := hid h3
        generalize pageM Mk nn dd = X at *
        clear hc1 p1 p2 hc7 hlk h3 hs3
        by_cases hX : X.1 = 0
        · have HN : Hid (writesM zs ms M = writesM zs (ms.drop (k + 1)) X.2) := hid (HW2.out.trans (if_neg (fun x => x hX)))
          have hx1 : (X.1 != 0) = false := by simp [hX]
          have HX := hid hX
          clear hX
          go_wp2_with fail
          go_roundw
          case rel => exact ⟨k + 1, X.2, by omega, rfl, hid ⟨H3.out, HI3.out, HN.out⟩⟩
          case measure => simp [intOf]; omega
        · have HN : Hid (writesM zs ms M = X) := hid (HW2.out.trans (if_pos hX))
          have hx1 : (X.1 != 0) = true := by simp [hX]
          have HR : Hid (RM = X) := hid (by rw [HRM.out, HN.out]; exact if_pos hX)
          have HX := hid hX
          clear hX
          go_wp2
          refine ⟨by simp, .inl ⟨_, _, rfl, run_takeDeferred (HD.out _ HI3.out), ?_⟩⟩
          obtain ⟨t1, t2⟩ := HEND.out _ _ H3.out HI3.out
          exact ⟨_, results_tmp rfl _ _ _, by rw [HR.out]; first | done | rfl, by rw [HR.out]; exact t1, t2⟩
      · have hk0 : k = ms.length := by omega
        subst hk0
        have HN : Hid (RM = cutsM P Mk) := hid (by rw [HRM.out, HI.out.2.2, List.drop_of_length_le (Nat.le_refl _)]; exact if_neg (fun x => x rfl))
        have H2 : Hid (Sees O2 d m Mk wr) := hid HI.out.1
        have HT : Hid (Stays O2 w2 wr) := hid HI.out.2.1
        clear hlt
        have hlt : ¬ ((ms.length : Int) < (ms.length : Int)) := by omega
        go_wp2_with fail
        refine (size_dn H2.out).mono ?_
        rintro e w3 ⟨rfl, rfl⟩
        unfold cutsM at HN
        generalize Mk.size dn = sz at *
        by_cases h1 : sz < 0
        · have HR : Hid (RM = (0, Mk)) := hid (HN.out.trans (if_pos h1))
          go_wp2
          refine ⟨by simp, .inl ⟨_, _, rfl, run_takeDeferred (HD.out _ HT.out), ?_⟩⟩
          obtain ⟨t1, t2⟩ := HEND.out _ _ H2.out HT.out
          exact ⟨_, results_tmp rfl _ _ _, by rw [HR.out]; first | done | rfl, by rw [HR.out]; exact t1, t2⟩
        · by_cases h2 : (P : Int) < sz
          · go_wp2_with fail
            refine (cut_dn H2.out P).mono ?_
            rintro e w4 ⟨rfl, h4, hs4⟩
            have HI4 : Hid (Stays O2 w2 w4) := hid (HT.out.trans hs4)
            have H4 := hid h4
            have HN2 : Hid (RM = if (Mk.cut dn P).1 ≠ 0 then ((Mk.cut dn P).1, (Mk.cut dn P).2) else (Mk.cut dn P).2.sync dn) := hid ((HN.out.trans (if_neg (by omega))).trans (if_pos (by omega)))
            generalize Mk.cut dn P = X at *
            clear h4 hs4 HN
            by_cases hX : X.1 = 0
            · have HR : Hid (RM = X.2.sync dn) := hid (HN2.out.trans (if_neg (fun x => x hX)))
              have hx1 : (X.1 != 0) = false := by simp [hX]
              have HX := hid hX
              clear hX
              go_wp2_with fail
              refine (sync_dn H4.out).mono ?_
              rintro e w5 ⟨rfl, h5, hs5⟩
              have HI5 : Hid (Stays O2 w2 w5) := hid (HI4.out.trans hs5)
              have H5 := hid h5
              clear h5 hs5
              go_wp2
              refine ⟨by simp, .inl ⟨_, _, rfl, run_takeDeferred (HD.out _ HI5.out), ?_⟩⟩
              obtain ⟨t1, t2⟩ := HEND.out _ _ H5.out HI5.out
              exact ⟨_, results_tmp rfl _ _ _, by rw [HR.out]; first | done | rfl, by rw [HR.out]; exact t1, t2⟩
            · have HR : Hid (RM = (X.1, X.2)) := hid (HN2.out.trans (if_pos hX))
              have hx1 : (X.1 != 0) = true := by simp [hX]
              have HX := hid hX
              clear hX
              go_wp2
              refine ⟨by simp, .inl ⟨_, _, rfl, run_takeDeferred (HD.out _ HI4.out), ?_⟩⟩
              obtain ⟨t1, t2⟩ := HEND.out _ _ H4.out HI4.out
              exact ⟨_, results_tmp rfl _ _ _, by rw [HR.out]; first | done | rfl, by rw [HR.out]; exact t1, t2⟩
          · have HR : Hid (RM = Mk.sync dn) := hid ((HN.out.trans (if_neg (by omega))).trans (if_neg (by omega)))
            clear HN
            go_wp2_with fail
            refine (sync_dn H2.out).mono ?_
            rintro e w5 ⟨rfl, h5, hs5⟩
            have HI5 : Hid (Stays O2 w2 w5) := hid (HT.out.trans hs5)
            have H5 := hid h5
            clear h5 hs5
            go_wp2
            refine ⟨by simp, .inl ⟨_, _, rfl, run_takeDeferred (HD.out _ HI5.out), ?_⟩⟩
            obtain ⟨t1, t2⟩ := HEND.out _ _ H5.out HI5.out
            exact ⟨_, results_tmp rfl _ _ _, by rw [HR.out]; first | done | rfl, by rw [HR.out]; exact t1, t2⟩
  case stop =>
    rintro D c pre W _ _ h _
    exact h.elim
end Jo
end Go.Proofs.YtpdpjgeoclilhaaGreat

/-
  Contract of Back: find, make the database what it was, drop.
-/
namespace Go.Proofs.YtpdpjgeoclilhaaGreat
open Go.RowKit Go.Shelf
namespace Jo
open Num (hid)
open Disk (Mod Fil Sees Stays)
open Mem (Bs bs tS Chg ptr blk_cell blk_free blk_new blk_set blk_other blk_alloc row_kept row_shape row_type)
variable {O : Nat → Prop} {d m : Nat} {M : Mod} {w w' : World}

theorem recs_len : ∀ (k i : Nat) (f : Fnd) (M : Mod), (findN k i f M).2.1.recs.length ≤ f.recs.length + k
  | 0, _, _, _ => Nat.le_refl _
  | k + 1, i, f, M => by
    unfold findN
    split
    · show f.recs.length ≤ _; omega
    · cases ht : takeF f (M.read jn i).1 with
      | none => show f.recs.length ≤ _; omega
      | some g =>
        have h1 := recs_len k (i + 1) g (M.read jn i).2.2
        have h2 : g.recs.length ≤ f.recs.length + 1 := by
          unfold takeF at ht
          split at ht
          · cases ht
          · split at ht
            · cases ht
            · split at ht
              · split at ht
                · cases ht
                · cases ht; simp
              · split at ht
                · split at ht
                  · cases ht
                  · cases ht; simp
                · cases ht
        show (findN k (i + 1) g (M.read jn i).2.2).2.1.recs.length ≤ _
        omega
theorem count_len (h : Sees O d m M w) : (countF (findM M).2.1).length ≤ 100000 := by
  have h1 := recs_len (M.size jn).toNat 0 f0 M
  have h2 := size_le h jn
  have h3 : (countF (findM M).2.1).length ≤ (findM M).2.1.recs.length := by unfold countF; rw [List.length_take]; omega
  have h4 : (findM M).2.1.recs.length ≤ f0.recs.length + (M.size jn).toNat := h1
  have h5 : f0.recs.length = 0 := rfl
  omega
set_option maxRecDepth 100000 in
set_option maxHeartbeats 2000000 in
theorem back_any (h : Sees O d m M w) :
    Calls Tryz.prog 17 #[ptr d] w fun e w' => e = .returned (.int .i64 (backM M).1) ∧ Sees O d m (backM M).2 w' ∧ Stays O w w' := by
  have hlen := count_len h
  have hrec := recs_find M
  have hbk : backM M = if (findM M).1 ≠ 0 then ((findM M).1, (findM M).2.2)
    else if (findM M).2.1.feet = 0 then dropM (findM M).2.2
    else if (restoreM (findM M).2.1.pages (countF (findM M).2.1) (findM M).2.2).1 ≠ 0 then restoreM (findM M).2.1.pages (countF (findM M).2.1) (findM M).2.2
    else dropM (restoreM (findM M).2.1.pages (countF (findM M).2.1) (findM M).2.2).2 := rfl
  generalize backM M = BM at *
  have HF := hid (find_any h)
  generalize findM M = X at *
  have HL := hid hlen
  have HR := hid hrec
  have HBK := hid hbk
  clear h hlen hrec hbk
  go_enter Tryz.func17, Tryz.ntmps17
  go_wp2_with fail
  refine HF.out.mono ?_
  rintro e w1 ⟨v, rfl, hrow, hs1, hst1, hv⟩
  obtain ⟨ao, cap, hve, -⟩ := row_shape hrow
  obtain ⟨len, hle⟩ : ∃ len, (ansL X).length = len := ⟨_, rfl⟩
  rw [hle] at hve
  subst hve
  have H1 : Hid (Sees (fun k => O k ∨ (Value.slice ao len cap).ownBlock = some k) d m X.2.2 w1) := hid hs1
  have HT1 : Hid (Stays O w w1) := hid hst1
  have HROW := hid hrow
  clear hrow hs1 hst1 hv HF
  by_cases h1 : X.1 = 0
  · have hx1 : (X.1 != 0) = false := by simp [h1]
    by_cases h2 : X.2.1.feet = 0
    · have e1 : ansN X = false := decide_eq_false (fun ⟨_, h⟩ => h h2)
      have HB : Hid (BM = dropM X.2.2) := hid ((HBK.out.trans (if_neg (fun x => x h1))).trans (if_pos h2))
      have HX := hid h1
      have HX2 := hid h2
      clear h1 h2 HBK
      go_wp2_with fail
      refine (drop_any H1.out).mono ?_
      rintro e w2 ⟨rfl, h2, hs2⟩
      have H2 := hid (h2.fewer (O' := O) (fun k hk => Or.inl hk))
      have HT2 : Hid (Stays O w w2) := hid (HT1.out.trans (fewer hs2 (fun k hk => Or.inl hk)))
      clear h2 hs2
      go_wp2
      go_ret
      rw [HB.out]
      exact ⟨rfl, H2.out, HT2.out⟩
    · have e1 : ansN X = true := decide_eq_true ⟨h1, h2⟩
      have e2 : ansP X = X.2.1.pages := by unfold ansP; rw [e1]; rfl
      have e3 : ansL X = countF X.2.1 := by unfold ansL; rw [e1]; rfl
      have HB : Hid (BM = if (restoreM X.2.1.pages (countF X.2.1) X.2.2).1 ≠ 0 then restoreM X.2.1.pages (countF X.2.1) X.2.2 else dropM (restoreM X.2.1.pages (countF X.2.1) X.2.2).2) := hid ((HBK.out.trans (if_neg (fun x => x h1))).trans (if_neg h2))
      have HRS := hid (restore_any H1.out X.2.1.pages (countF X.2.1) ao len cap HR.out HL.out (by rw [← e3]; exact HROW.out) (fun g hg => Or.inr hg))
      rw [e2]
      have HX := hid h1
      have HX2 := hid h2
      clear h1 h2 HBK e2 e3 HROW
      go_wp2_with fail
      refine HRS.out.mono ?_
      rintro e w2 ⟨rfl, h2, hs2⟩
      have H2 := hid h2
      have HT2 : Hid (Stays O w w2) := hid (HT1.out.trans (fewer hs2 (fun k hk => Or.inl hk)))
      clear h2 hs2 HRS
      generalize restoreM X.2.1.pages (countF X.2.1) X.2.2 = Y at *
      by_cases h3 : Y.1 = 0
      · have hy1 : (Y.1 != 0) = false := by simp [h3]
        have HB2 : Hid (BM = dropM Y.2) := hid (HB.out.trans (if_neg (fun x => x h3)))
        have HX3 := hid h3
        clear h3
        go_wp2_with fail
        refine (drop_any H2.out).mono ?_
        rintro e w3 ⟨rfl, h3, hs3⟩
        have H3 := hid (h3.fewer (O' := O) (fun k hk => Or.inl hk))
        have HT3 : Hid (Stays O w w3) := hid (HT2.out.trans (fewer hs3 (fun k hk => Or.inl hk)))
        clear h3 hs3
        go_wp2
        go_ret
        rw [HB2.out]
        exact ⟨rfl, H3.out, HT3.out⟩
      · have hy1 : (Y.1 != 0) = true := by simp [h3]
        have HB2 : Hid (BM = Y) := hid (HB.out.trans (if_pos h3))
        have HX3 := hid h3
        have H3 := hid (H2.out.fewer (O' := O) (fun k hk => Or.inl hk))
        clear h3
        go_wp2
        go_ret
        rw [HB2.out]
        exact ⟨rfl, H3.out, HT2.out⟩
  · have hx1 : (X.1 != 0) = true := by simp [h1]
    have HB : Hid (BM = (X.1, X.2.2)) := hid (HBK.out.trans (if_pos h1))
    have HX := hid h1
    have H2 := hid (H1.out.fewer (O' := O) (fun k hk => Or.inl hk))
    clear h1 HBK
    go_wp2
    go_ret
    rw [HB.out]
    exact ⟨rfl, H2.out, HT1.out⟩
end Jo
end Go.Proofs.YtpdpjgeoclilhaaGreat
