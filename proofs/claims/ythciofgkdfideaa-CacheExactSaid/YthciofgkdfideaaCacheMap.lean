/-
  The map from numbers to slots: lookups, one more, one less, how many.
-/
import Derived.Test.YthciofgkdfideaaCacheSlot
namespace Go.Proofs.Ythciofgkdfideaa
open Go.RowKit
namespace Ca
open Num (hid)
open Mem (Bs bs tI tS Chg Row ptr blk_cell blk_free blk_new blk_set blk_other blk_alloc)
theorem intKeyed : Maps.Keyed Try.prog tI := Maps.int_keyed Try.underlying3
theorem zeroSl (w : World) : (zeroValue 51).run Try.prog w = .ok (.pointer none) w := Try.zeroValue51 w
/-- An int of the machine. -/
def Wf (n : Int) : Prop := (Lit.int .i64 n).wf = true
theorem wf_of {n : Int} (h1 : -9223372036854775808 ≤ n) (h2 : n ≤ 9223372036854775807) : Wf n := by
  show (decide (IntKind.i64.min ≤ n) && decide (n ≤ IntKind.i64.max)) = true
  rw [decide_eq_true (show IntKind.i64.min ≤ n from h1), decide_eq_true (show n ≤ IntKind.i64.max from h2)]
  rfl
/-- How a pointer to a slot reads. -/
def RP : Value → Option (DataW Unit × List MemPlace)
  | .pointer (some ⟨b, 0, none⟩) => some (.lit (.int .u64 (b : Int)), [])
  | .pointer none => some (.nil, [])
  | _ => none
theorem RP_lit {v : Value} {b : Nat} {ps : List MemPlace} (h : RP v = some (.lit (.int .u64 (b : Int)), ps)) : v = ptr b := by
  match v, h with
  | .pointer (some ⟨c, 0, none⟩), h => simp only [RP, Option.some.injEq, Prod.mk.injEq, DataW.lit.injEq, Lit.int.injEq] at h; obtain ⟨⟨_, h⟩, _⟩ := h; obtain rfl : c = b := (by omega); rfl
theorem RP_nil {v : Value} {ps : List MemPlace} (h : RP v = some (.nil, ps)) : v = .pointer none := by
  match v, h with
  | .pointer (some ⟨c, 0, none⟩), h => simp [RP] at h
  | .pointer none, _ => rfl
def slotD (b : Nat) : DataW Unit := .lit (.int .u64 (b : Int))
structure Reads (D : DataW Unit) (B : List Nat) (f : Nat → One) : Prop where
  size : Maps.size D = B.length
  yes : ∀ b ∈ B, Maps.has D (.int .i64 (f b).n) = true ∧ ∀ z, D.atKey (.int .i64 (f b).n) z = slotD b
  no : ∀ n : Int, (∀ b ∈ B, (f b).n ≠ n) → Maps.has D (.int .i64 n) = false
def MapAt (w : World) (m : Nat) (B : List Nat) (f : Nat → One) : Prop := ∃ D, w.ownsMap Try.prog tI RP m B.length D ∧ Reads D B f
variable {w w' : World} {m : Nat} {B B' : List Nat} {f f' : Nat → One}
theorem MapAt.lt (h : MapAt w m B f) : m < w.heap.size := by
  obtain ⟨D, hm, -⟩ := h
  exact hm.lt
theorem MapAt.apart {F : Nat → Prop} (h : MapAt w m B f) (hc : Chg F w w') (hF : ¬ F m) : MapAt w' m B f := by
  obtain ⟨D, ⟨es, clock, hb, r⟩, hr⟩ := h
  exact ⟨D, ⟨es, clock, hc.at hb hF, r⟩, hr⟩
theorem MapAt.perm (h : MapAt w m B f) (hp : B.Perm B') (hf : ∀ b ∈ B, (f' b).n = (f b).n) : MapAt w m B' f' := by
  obtain ⟨D, hm, hr⟩ := h
  refine ⟨D, hp.length_eq ▸ hm, hr.size.trans hp.length_eq, fun b hb => ?_, fun n hn => hr.no n (fun b hb => ?_)⟩
  · have hb2 := hp.mem_iff.2 hb
    rw [hf b hb2]
    exact hr.yes b hb2
  · rw [← hf b hb]
    exact hn b (hp.mem_iff.1 hb)
theorem tight {n : Nat} {D : DataW Unit} (h : w.ownsMap Try.prog tI RP m n D) : w.ownsMap Try.prog tI RP m (Maps.size D) D := by
  obtain ⟨es, clock, hb, F, hs, rfl⟩ := h
  exact ⟨es, clock, hb, F, by simp [Maps.size, length_sorted], rfl⟩
theorem turned (h : w.mapTurned w' m) : Chg (· = m) w w' := by
  obtain ⟨es, clock, es', clock', hb, rfl⟩ := h
  refine ⟨rfl, rfl, rfl, by simp [ChangeMaps.setBlock], fun k _ hk => ?_⟩
  simp only [ChangeMaps.setBlock, Array.getElem?_setIfInBounds]
  rw [if_neg (fun e => hk e.symm)]
theorem MapAt.new (w : World) (f : Nat → One) : MapAt (w.alloc (.map #[] 0)) w.heap.size [] f :=
  ⟨.map [], World.ownsMap_made w Try.prog tI RP, rfl, fun b hb => (by cases hb), fun _ _ => rfl⟩
theorem MapAt.look_yes (h : MapAt w m B f) {b : Nat} (hb : b ∈ B) (hw : Wf (f b).n) : (Instr.lookup tMp (.map (some m)) (.int .i64 (f b).n) false).run Try.prog w = .ok (ptr b) w := by
  obtain ⟨D, hm, hr⟩ := h
  obtain ⟨v, ps, hrun, hv⟩ := hm.lookup intKeyed Try.underlying50 (zeroSl w) (zd := .nil) (zp := []) rfl (Maps.keyOf_int_mk Try.underlying3 hw)
  rw [(hr.yes b hb).2] at hv
  rw [hrun, RP_lit hv]
theorem MapAt.look_no (h : MapAt w m B f) {n : Int} (hn : ∀ b ∈ B, (f b).n ≠ n) (hw : Wf n) : (Instr.lookup tMp (.map (some m)) (.int .i64 n) false).run Try.prog w = .ok (.pointer none) w := by
  obtain ⟨D, hm, hr⟩ := h
  obtain ⟨v, ps, hrun, hv⟩ := hm.lookup intKeyed Try.underlying50 (zeroSl w) (zd := .nil) (zp := []) rfl (Maps.keyOf_int_mk Try.underlying3 hw)
  rw [Maps.atKey_of_not_has (hr.no n hn)] at hv
  rw [hrun, RP_nil hv]
theorem key_ne {a b : Int} (h : a ≠ b) : (Lit.int .i64 a) ≠ Lit.int .i64 b := fun e => h (by injection e)
theorem MapAt.put (h : MapAt w m B f) {b : Nat} {n : Int} (hn : ∀ k ∈ B, (f k).n ≠ n) (hw : Wf n) (hB : B.length ≤ 1000) (hf : ∀ k ∈ B, (f' k).n = (f k).n) (hb : (f' b).n = n) :
    ∃ w', (Instr.mapUpdate tMp (.map (some m)) (.int .i64 n) (ptr b)).run Try.prog w = .ok () w' ∧ MapAt w' m (B ++ [b]) f' ∧ Chg (· = m) w w' := by
  obtain ⟨D, hm, hr⟩ := h
  have kk : WideAt.IsKeyLit (Lit.int .i64 n) := trivial
  obtain ⟨w', hrun, ho, ht⟩ := hm.store intKeyed Try.underlying50 (by unfold maxLen; omega) (Maps.keyOf_int_mk Try.underlying3 hw) (val := ptr b) (d := slotD b) (ps := []) rfl
  refine ⟨w', hrun, ⟨D.put (.int .i64 n) (slotD b), ?_, ⟨?_, ?_, ?_⟩⟩, turned ht⟩
  · rw [List.length_append, List.length_singleton]
    exact ho
  · rw [Maps.size_put (hm.tidy intKeyed), hr.no n hn, hr.size, List.length_append]
    rfl
  · intro k hk
    rcases List.mem_append.1 hk with hk | hk
    · have hne : (f k).n ≠ n := hn k hk
      rw [hf k hk]
      obtain ⟨h1, h2⟩ := hr.yes k hk
      exact ⟨(Maps.has_put_other (key_ne hne) _).trans h1, fun z => (Maps.atKey_put_other (key_ne hne) _ z).trans (h2 z)⟩
    · rw [List.mem_singleton] at hk
      subst hk
      rw [hb]
      exact ⟨Maps.has_put_same hm.isMap kk _, fun z => Maps.atKey_put_same hm.isMap kk _ z⟩
  · intro j hj
    have hne : j ≠ n := fun e => hj b (List.mem_append_right _ List.mem_cons_self) (hb.trans e.symm)
    refine (Maps.has_put_other (key_ne hne) _).trans (hr.no j (fun k hk => ?_))
    rw [← hf k hk]
    exact hj k (List.mem_append_left _ hk)
theorem MapAt.del {l r : List Nat} {s : Nat} (h : MapAt w m (l ++ s :: r) f) (hd : ∀ k ∈ l ++ r, (f k).n ≠ (f s).n) (hw : Wf (f s).n) (ty : TypeId) :
    ∃ w', (Builtin.delete_ #[tMp, tI] ty #[.map (some m), .int .i64 (f s).n]).run Try.prog w = .ok (.tuple #[]) w' ∧ MapAt w' m (l ++ r) f ∧ Chg (· = m) w w' := by
  obtain ⟨D, hm, hr⟩ := h
  obtain ⟨w', hrun, ho, ht⟩ := hm.drop intKeyed Try.underlying50 (Maps.keyOf_int_mk Try.underlying3 hw) ty
  have hs : s ∈ l ++ s :: r := List.mem_append_right _ List.mem_cons_self
  have hmem : ∀ k, k ∈ l ++ r → k ∈ l ++ s :: r := fun k hk => by
    rcases List.mem_append.1 hk with e | e
    · exact List.mem_append_left _ e
    · exact List.mem_append_right _ (List.mem_cons_of_mem _ e)
  have hsz : Maps.size (D.del (.int .i64 (f s).n)) = (l ++ r).length := by
    have h1 := Maps.size_del (hm.tidy intKeyed) (k := .int .i64 (f s).n)
    rw [(hr.yes s hs).1, hr.size, if_pos rfl] at h1
    rw [List.length_append, List.length_cons] at h1
    rw [List.length_append]
    omega
  refine ⟨w', hrun, ⟨D.del (.int .i64 (f s).n), hsz ▸ tight ho, ⟨hsz, ?_, ?_⟩⟩, turned ht⟩
  · intro k hk
    obtain ⟨h1, h2⟩ := hr.yes k (hmem k hk)
    have hne := hd k hk
    exact ⟨(Maps.has_del_other (key_ne hne)).trans h1, fun z => (Maps.atKey_del_other (key_ne hne) z).trans (h2 z)⟩
  · intro n hn
    by_cases e : n = (f s).n
    · rw [e]
      exact Maps.has_del_same
    · refine (Maps.has_del_other (key_ne e)).trans (hr.no n (fun k hk => ?_))
      rcases List.mem_append.1 hk with h1 | h1
      · exact hn k (List.mem_append_left _ h1)
      · rcases List.mem_cons.1 h1 with h2 | h2
        · rw [h2]
          exact fun e2 => e e2.symm
        · exact hn k (List.mem_append_right _ h2)
theorem MapAt.len (h : MapAt w m B f) (ty : TypeId) : (Builtin.len_ #[tMp] ty #[.map (some m)]).run Try.prog w = .ok (.int .i64 (B.length : Nat)) w := by
  obtain ⟨D, hm, hr⟩ := h
  rw [hm.len Try.underlying50 ty, hr.size]
theorem MapAt.obj (h : MapAt w m B f) : ∃ es clock, w.heap[m]? = some (.map es clock) := by
  obtain ⟨D, ⟨es, clock, hb, r⟩, hr⟩ := h
  exact ⟨es, clock, hb⟩
end Ca
end Go.Proofs.Ythciofgkdfideaa
