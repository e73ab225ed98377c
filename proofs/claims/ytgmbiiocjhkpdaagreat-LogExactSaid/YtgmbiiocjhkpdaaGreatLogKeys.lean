/-
  The map of last frames: numbers to places; what it holds, one more, none; its keys, rising.
-/
import Derived.Test.YtgmbiiocjhkpdaaGreatGrpLgA
import Derived.Test.YtgmbiiocjhkpdaaGreatLogKeysL
import Derived.Test.YtgmbiiocjhkpdaaGreatMem
import Derived.Shelf.SlIterI.Nil
import Derived.Shelf.SortM.Plain
import Derived.Shelf.SortM.SortNone
import Derived.RangeFuncNested
import Derived.RangeFuncBound
import Derived.RangeFuncCalls
import Derived.RangeFuncLeaves
import Derived.Shelf.Abstract
import Derived.Shelf.RegionOpen
import Derived.WalkKit
import Derived.OwnWalkIn
import Derived.TacticsInMore
import Derived.LoopNIn
import Derived.LoopIn
import Derived.Maps.OwnIn
namespace Go.Proofs.YtgmbiiocjhkpdaaGreat
open Go.RowKit Go.Maps Go.Sort Go.Shelf
namespace Lo
open Num (hid)
open Mem (Bs bs tI Chg ptr blk_cell blk_free blk_new blk_set blk_other blk_alloc row_kept row_shape row_type)

abbrev tMi : TypeId := 78
theorem intKeyed : Maps.Keyed Tryz.prog tI := Maps.int_keyed Tryz.underlying3
/-- An int of the machine. -/
def Wf (n : Int) : Prop := (Lit.int .i64 n).wf = true
theorem wf_of {n : Int} (h1 : -9223372036854775808 ≤ n) (h2 : n ≤ 9223372036854775807) : Wf n := by
  show (decide (IntKind.i64.min ≤ n) && decide (n ≤ IntKind.i64.max)) = true
  rw [decide_eq_true (show IntKind.i64.min ≤ n from h1), decide_eq_true (show n ≤ IntKind.i64.max from h2)]
  rfl
theorem nat_ne {a b : Nat} (h : a ≠ b) : (Lit.int .i64 (a : Int)) ≠ Lit.int .i64 (b : Int) := fun e => h (by injection e with _ e; exact Int.ofNat.inj e)
/-- A map from numbers to numbers: what it holds. -/
structure IReads (D : DataW Unit) (look : Nat → Option Nat) : Prop where
  has : ∀ z : Int, Maps.has D (.int .i64 z) = (decide (0 ≤ z) && (look z.toNat).isSome)
  at_ : ∀ (n i : Nat), look n = some i → ∀ z, D.atKey (.int .i64 (n : Int)) z = .lit (.int .i64 (i : Int))
def MapI (w : World) (b c : Nat) (look : Nat → Option Nat) : Prop := ∃ D, w.ownsMap Tryz.prog tI (plainElem Tryz.prog tI) b c D ∧ IReads D look
variable {w w' : World} {b c : Nat} {look : Nat → Option Nat}
theorem mapI_new (w : World) : MapI (w.alloc (.map #[] 0)) w.heap.size 0 (fun _ => none) :=
  ⟨.map [], World.ownsMap_made w Tryz.prog tI (plainElem Tryz.prog tI), fun z => by simp [Maps.has], (fun n i h => by cases h)⟩
def lookPut (look : Nat → Option Nat) (n i : Nat) : Nat → Option Nat := fun m => if m = n then some i else look m
theorem IReads.put {D : DataW Unit} (h : IReads D look) (hD : IsMap D) (n i : Nat) : IReads (D.put (.int .i64 (n : Int)) (.lit (.int .i64 (i : Int)))) (lookPut look n i) := by
  have kk : WideAt.IsKeyLit (Lit.int .i64 (n : Int)) := trivial
  refine ⟨fun z => ?_, fun m j hm z => ?_⟩
  · by_cases e : z = (n : Int)
    · subst e
      rw [Maps.has_put_same hD kk]
      simp [lookPut]
    · rw [Maps.has_put_other (fun h => e (by injection h)), h.has z]
      by_cases h0 : 0 ≤ z
      · have : z.toNat ≠ n := by omega
        simp [lookPut, this]
      · simp [h0]
  · by_cases e : m = n
    · subst e
      have : j = i := by simpa [lookPut] using hm.symm
      subst this
      exact Maps.atKey_put_same hD kk _ z
    · rw [Maps.atKey_put_other (nat_ne e)]
      exact h.at_ m j (by simpa [lookPut, e] using hm) z

theorem MapI.lt (h : MapI w b c look) : b < w.heap.size := by
  obtain ⟨D, hm, -⟩ := h
  exact hm.lt
theorem MapI.apart {F : Nat → Prop} (h : MapI w b c look) (hc : Chg F w w') (hF : ¬ F b) : MapI w' b c look := by
  obtain ⟨D, ⟨es, clock, hb, r⟩, hr⟩ := h
  exact ⟨D, ⟨es, clock, hc.at hb hF, r⟩, hr⟩
theorem turned (h : w.mapTurned w' b) : Chg (· = b) w w' := by
  obtain ⟨es, clock, es', clock', hb, rfl⟩ := h
  refine ⟨rfl, rfl, rfl, by simp [ChangeMaps.setBlock], fun k _ hk => ?_⟩
  simp only [ChangeMaps.setBlock, Array.getElem?_setIfInBounds]
  rw [if_neg (fun e => hk e.symm)]
theorem zeroI (w : World) : (zeroValue tI).run Tryz.prog w = .ok (.int .i64 0) w := Tryz.zeroValue3 w
theorem MapI.look_yes (h : MapI w b c look) {n i : Nat} (hn : look n = some i) (hw : Wf (n : Int)) : (Instr.lookup tMi (.map (some b)) (.int .i64 (n : Int)) true).run Tryz.prog w = .ok (.tuple #[.int .i64 (i : Int), .bool true]) w := by
  obtain ⟨D, hm, hr⟩ := h
  obtain ⟨v, ps, hrun, hv⟩ := hm.look_ok intKeyed Tryz.underlying78 (zeroI w) (zd := .lit (.int .i64 0)) (zp := []) (plainElem_int Tryz.underlying3 (by decide)) (Maps.keyOf_int_mk Tryz.underlying3 hw)
  rw [hr.at_ n i hn] at hv
  obtain ⟨a, rfl, ha, _⟩ := plainElem_int_inv Tryz.underlying3 hv
  simp only [Prod.mk.injEq, DataW.lit.injEq, Lit.int.injEq] at ha
  rw [hrun, hr.has, ← ha.1.2]
  simp [hn]
theorem MapI.look_no (h : MapI w b c look) {n : Int} (hn : n < 0 ∨ look n.toNat = none) (hw : Wf n) : ∃ v, (Instr.lookup tMi (.map (some b)) (.int .i64 n) true).run Tryz.prog w = .ok (.tuple #[v, .bool false]) w := by
  obtain ⟨D, hm, hr⟩ := h
  obtain ⟨v, ps, hrun, hv⟩ := hm.look_ok intKeyed Tryz.underlying78 (zeroI w) (zd := .lit (.int .i64 0)) (zp := []) (plainElem_int Tryz.underlying3 (by decide)) (Maps.keyOf_int_mk Tryz.underlying3 hw)
  refine ⟨v, ?_⟩
  have e : Maps.has D (.int .i64 n) = false := by
    rw [hr.has]
    rcases hn with h | h
    · rw [decide_eq_false (by omega)]; rfl
    · rw [h]; simp
  rw [hrun, e]
theorem MapI.put (h : MapI w b c look) {n i : Nat} (hn : Wf (n : Int)) (hi : Wf (i : Int)) (hc : c ≤ 100000) :
    ∃ w', (Instr.mapUpdate tMi (.map (some b)) (.int .i64 (n : Int)) (.int .i64 (i : Int))).run Tryz.prog w = .ok () w' ∧ MapI w' b (c + 1) (lookPut look n i) ∧ Chg (· = b) w w' := by
  obtain ⟨D, hm, hr⟩ := h
  obtain ⟨w', hrun, ho, ht⟩ := hm.store intKeyed Tryz.underlying78 (by unfold maxLen; omega) (Maps.keyOf_int_mk Tryz.underlying3 hn) (val := .int .i64 (i : Int)) (d := .lit (.int .i64 (i : Int))) (ps := []) (plainElem_int Tryz.underlying3 hi)
  exact ⟨w', hrun, ⟨_, ho, hr.put hm.isMap n i⟩, turned ht⟩
theorem MapI.clear (h : MapI w b c look) (ty : TypeId) :
    ∃ w', (Builtin.clear_ #[tMi] ty #[.map (some b)]).run Tryz.prog w = .ok (.tuple #[]) w' ∧ MapI w' b 0 (fun _ => none) ∧ Chg (· = b) w w' := by
  obtain ⟨D, ⟨es, clock, hb, F, hs, hD⟩, hr⟩ := h
  refine ⟨ChangeMaps.setBlock w b (.map #[] clock), ?_, ⟨.map [], ⟨#[], clock, ?_, ⟨by simp, MapKept.stamped_empty clock, by simp⟩, Nat.le_refl _, rfl⟩, fun z => by simp [Maps.has], (fun n i h => by cases h)⟩, turned ⟨es, clock, #[], clock, hb, rfl⟩⟩
  · simp [Builtin.clear_, run_underlying Tryz.underlying78, MapKept.run_getObj_map hb, MapKept.run_setObj_map _ hb, Result.andThen, ChangeMaps.setBlock]
  · exact (MapKept.heap_set hb).1

/-- slices.Sort's two contracts at this dump, at the fence that asks nothing. -/
theorem sortsI (m : Nat) : AnyZI.SortsIn Tryz.prog Tryz.sortedI_ren Fence.wide m :=
  ⟨fun blk off cap ss W hH hblk hsz => callsIn_wide.2 (AnyM.slices_Sort_int Tryz.sortI blk off cap ss W hH hblk hsz),
   fun p cap W => callsIn_wide.2 (AnyM.slices_Sort_int_none Tryz.sortI p cap W)⟩
theorem keysI_any (mb : Option Nat) (W : World) : Calls Tryz.prog 78 #[.map mb] W fun e w' => e = .returned (.func (.func 116) #[] #[.pointer (some ⟨W.heap.size, 0, none⟩)]) ∧ w' = W.alloc (.cells #[.map mb] tMi) :=
  (callsIn_wide (n := 5)).1 (AnyZI.keys_in Tryz.keysI Fence.wide 5 trivial rfl mb W)
theorem sorted_nats {ss : List Int} {ms : List Nat} (hp : ss.Perm (ms.map fun n : Nat => (n : Int))) (hs : ms.Pairwise (· < ·)) : ss.mergeSort (fun x y => decide (x ≤ y)) = ms.map fun n : Nat => (n : Int) := by
  refine List.Perm.eq_of_pairwise (le := fun a b : Int => decide (a ≤ b) = true) ?_ ?_ ?_ ((List.mergeSort_perm _ _).trans hp)
  · intro a b _ _ h1 h2
    simp only [decide_eq_true_eq] at h1 h2
    omega
  · refine List.pairwise_mergeSort ?_ ?_ _
    · intro a b c h1 h2
      simp only [decide_eq_true_eq] at h1 h2 ⊢
      omega
    · intro a b
      simp only [Bool.or_eq_true, decide_eq_true_eq]
      omega
  · rw [List.pairwise_map]
    refine hs.imp fun {a b} hab => ?_
    simp only [decide_eq_true_eq]
    omega
/-- The keys, rising. -/
theorem sortedI_any (h : MapI w b c look) (hsz : c ≤ 100000) {ms : List Nat} (hs : ms.Pairwise (· < ·)) (hm : ∀ n, n ∈ ms ↔ (look n).isSome = true) :
    Calls Tryz.prog 77 #[.func (.func 116) #[] #[.pointer (some ⟨w.heap.size, 0, none⟩)]] (w.alloc (.cells #[.map (some b)] tMi)) fun e w' => ∃ v, e = .returned v ∧ w'.ownsRow w.heap.size tI 1 v ms.length (ms.map fun n : Nat => Value.int .i64 (n : Int)) ∧ Below w.heap.size w w' := by
  obtain ⟨D, hown, hr⟩ := h
  have hle := hown.size_le
  have hmax : Maps.size D ≤ maxLen := by unfold maxLen; omega
  have hbytes : Maps.size D * 8 ≤ 140737488355328 := by omega
  have hbl := hown.lt
  have hseq : SeqGives Fence.wide 2 Tryz.prog 116 #[.pointer (some ⟨w.heap.size, 0, none⟩)] encZ (fun ss => ss.Perm (intKeys D)) (Maps.size D) (w.alloc (.cells #[.map (some b)] tMi)) :=
    AnyZI.keys_gives (ρ := Tryz.keysI_ren) { Tryz.keysI with } Fence.wide _ trivial rfl (by omega) w.heap.size b c D _ (by simp) (by simp) (by
      obtain ⟨es, clock, hb, Ft, hs, hD⟩ := hown
      exact ⟨es, clock, (Below.heap_alloc _ _ b hbl).trans hb, Ft, hs, hD⟩)
  have cS := AnyZI.sorted_in Tryz.sortedI Fence.wide 5 trivial trivial trivial trivial rfl (by omega) (sortsI _) (enters_of Tryz.func115 (by kernel_rfl) rfl) 116 #[.pointer (some ⟨w.heap.size, 0, none⟩)] trivial (enters_of Tryz.func116 (by kernel_rfl) rfl) _ _ hmax hbytes _ hseq
  change CallsIn _ _ Tryz.prog 77 _ _ _ at cS
  have hcol : CollectedI D (fun _ => false) (ms.map fun n : Nat => (n : Int)) := by
    refine ⟨List.pairwise_map.2 (hs.imp fun {a b} hab => by omega), fun z => ?_⟩
    rw [hr.has z]
    constructor
    · intro hz
      obtain ⟨n, hn, rfl⟩ := List.mem_map.1 hz
      have := (hm n).1 hn
      simp [this]
    · rintro ⟨h1, _⟩
      simp only [Bool.and_eq_true, decide_eq_true_eq] at h1
      refine List.mem_map.2 ⟨z.toNat, (hm _).2 h1.2, by omega⟩
  have HP := hid (hcol.perm hown intKeyed Tryz.underlying3 (fun _ => rfl))
  refine ((callsIn_wide (n := 5)).1 cS).mono ?_
  rintro e w' ⟨v, ss, rfl, hS, hrow, hnil, hb⟩
  have hso := sorted_nats (hS.trans HP.out.symm) hs
  have hl : ss.length = ms.length := by
    have := congrArg List.length hso
    rwa [List.length_mergeSort, List.length_map] at this
  rw [hso, hl, List.map_map] at hrow
  exact ⟨v, rfl, ownsRow_base_a hrow (by simp), ((Below.refl _ w).alloc (Nat.le_refl _) _).trans (hb.mono (by simp))⟩

end Lo
end Go.Proofs.YtgmbiiocjhkpdaaGreat
