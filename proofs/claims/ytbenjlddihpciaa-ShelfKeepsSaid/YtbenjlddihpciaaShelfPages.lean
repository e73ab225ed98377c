/-
  The shelf's pages in memory: a map of the call's own; has, Get, Put.
-/
import Derived.Test.YtbenjlddihpciaaShelfMath
import Derived.Test.YtbenjlddihpciaaShelfShelf
import Derived.Test.YtbenjlddihpciaaSpareDesk
import Derived.Maps.OwnSet
import Derived.Maps.StringElems
namespace Go.Proofs.Ytbenjlddihpciaa
open Go.RowKit
namespace Sh
open Sp
open Num (hid)
open Mem (Bs bs IAt tI tS tIs tSs Chg Row ptr blk_cell blk_free blk_new blk_set blk_other blk_alloc row_kept row_shape row_type)
abbrev tMp : TypeId := 80
abbrev mpV (m : Nat) : Value := .map (some m)
abbrev dkV (d : Nat) : Value := .iface tMp (.map (some d))
theorem intKeyed : Maps.Keyed Try.prog tI := Maps.int_keyed Try.underlying3
theorem zeroStr (w : World) : (zeroValue tS).run Try.prog w = .ok (.string ⟨#[]⟩) w := Try.zeroValue9 w
/-- An int of the machine. -/
def Wf (n : Int) : Prop := (Lit.int .i64 n).wf = true
theorem wf_of {n : Int} (h1 : -9223372036854775808 ≤ n) (h2 : n ≤ 9223372036854775807) : Wf n := by
  show (decide (IntKind.i64.min ≤ n) && decide (n ≤ IntKind.i64.max)) = true
  rw [decide_eq_true (show IntKind.i64.min ≤ n from h1), decide_eq_true (show n ≤ IntKind.i64.max from h2)]
  rfl
structure Reads (D : DataW Unit) (S : St) : Prop where
  yes : ∀ k x, Wf k → S.f k = some x → Maps.has D (.int .i64 k) = true ∧ ∀ z, D.atKey (.int .i64 k) z = .lit (.string x)
  no : ∀ k, Wf k → S.f k = none → Maps.has D (.int .i64 k) = false
theorem Reads.set {D : DataW Unit} {S : St} (h : Reads D S) (hD : Maps.IsMap D) (k : Int) (x : Bs) : Reads (D.put (.int .i64 k) (.lit (.string x))) (S.set k x) := by
  have kk : WideAt.IsKeyLit (Lit.int .i64 k) := trivial
  have hne : ∀ j : Int, j ≠ k → (Lit.int .i64 j) ≠ Lit.int .i64 k := fun j hj e => hj (by injection e)
  refine ⟨fun j y hw hj => ?_, fun j hw hj => ?_⟩
  · by_cases hjk : j = k
    · subst hjk
      rw [set_same] at hj
      obtain rfl := Option.some.inj hj
      exact ⟨Maps.has_put_same hD kk _, fun z => Maps.atKey_put_same hD kk _ z⟩
    · rw [set_other hjk] at hj
      obtain ⟨h1, h2⟩ := h.yes j y hw hj
      exact ⟨(Maps.has_put_other (hne j hjk) _).trans h1, fun z => (Maps.atKey_put_other (hne j hjk) _ z).trans (h2 z)⟩
  · by_cases hjk : j = k
    · subst hjk
      rw [set_same] at hj
      cases hj
    · rw [set_other hjk] at hj
      exact (Maps.has_put_other (hne j hjk) _).trans (h.no j hw hj)
structure DeskR (R : Nat → Prop) (w : World) (d b : Nat) (S : St) : Prop where
  own : R d
  len : ∀ k x, S.f k = some x → x.length = 232
  map : ∃ D, w.ownsMap Try.prog tI (plainElem (H := Unit) Try.prog tS) d S.n D ∧ Reads D S
/-- Small enough. -/
def Small (k : Nat) (S : St) : Prop := S.n ≤ k
theorem Small.more {k k' : Nat} {S : St} (h : Small k S) (hk : k ≤ k') : Small k' S := Nat.le_trans h hk
variable {R : Nat → Prop} {w w' : World} {d b : Nat} {S : St}
theorem DeskR.lt (h : DeskR R w d b S) : d < w.heap.size := by
  obtain ⟨D, hm, -⟩ := h.map
  exact hm.lt
theorem DeskR.apart {F : Nat → Prop} (h : DeskR R w d b S) (hc : Chg F w w') (hF : ∀ k, F k → ¬ R k) : DeskR R w' d b S := by
  obtain ⟨D, ⟨es, clock, hb, r⟩, hr⟩ := h.map
  exact ⟨h.own, h.len, D, ⟨es, clock, hc.at hb (fun e => hF d e h.own), r⟩, hr⟩
theorem DeskR.on (h : DeskR R w d b S) (hb : Below w.heap.size w w') : DeskR R w' d b S := h.apart (F := fun _ => False) (Chg.of_below hb) (fun _ h => h.elim)
theorem DeskR.mono {R' : Nat → Prop} (h : DeskR R w d b S) (hR : ∀ g, g < w.heap.size → R g → R' g) : DeskR R' w d b S := ⟨hR d h.lt h.own, h.len, h.map⟩
theorem turned {m : Nat} (h : w.mapTurned w' m) : Chg (· = m) w w' := by
  obtain ⟨es, clock, es', clock', hb, rfl⟩ := h
  refine ⟨rfl, rfl, rfl, by simp [ChangeMaps.setBlock], fun k _ hk => ?_⟩
  simp only [ChangeMaps.setBlock, Array.getElem?_setIfInBounds]
  rw [if_neg (fun e => hk e.symm)]
/-- Whether a page is there. -/
theorem DeskR.look (h : DeskR R w d b S) {n : Int} (hn : Wf n) : ∃ s, (Instr.lookup tMp (.map (some d)) (.int .i64 n) true).run Try.prog w = .ok (.tuple #[.string s, .bool (S.f n).isSome]) w := by
  obtain ⟨D, hm, hr⟩ := h.map
  obtain ⟨v, ps, hrun, hv⟩ := hm.look_ok intKeyed Try.underlying80 (zeroStr w) (zd := .lit (.string [])) (zp := []) (plainElem_string Try.underlying9 (by decide)) (Maps.keyOf_int_mk Try.underlying3 hn)
  obtain ⟨s, rfl, -, -⟩ := plainElem_string_inv Try.underlying9 hv
  refine ⟨s, hrun.trans ?_⟩
  cases e : S.f n with
  | none => rw [hr.no n hn e]; rfl
  | some x => rw [(hr.yes n x hn e).1]; rfl
theorem DeskR.at (h : DeskR R w d b S) {n : Int} (hn : Wf n) {x : Bs} (hx : S.f n = some x) : (Instr.lookup tMp (.map (some d)) (.int .i64 n) false).run Try.prog w = .ok (.string (bs x)) w := by
  obtain ⟨D, hm, hr⟩ := h.map
  obtain ⟨v, ps, hrun, hv⟩ := hm.lookup intKeyed Try.underlying80 (zeroStr w) (zd := .lit (.string [])) (zp := []) (plainElem_string Try.underlying9 (by decide)) (Maps.keyOf_int_mk Try.underlying3 hn)
  rw [(hr.yes n x hn hx).2] at hv
  obtain ⟨s, rfl, e, -⟩ := plainElem_string_inv Try.underlying9 hv
  simp only [Prod.mk.injEq, DataW.lit.injEq, Lit.string.injEq] at e
  have : bs x = s := by
    rw [e.1]
    rfl
  rw [this]
  exact hrun
theorem DeskR.put (h : DeskR R w d b S) {c : Nat} (hS : Small c S) (hc : c ≤ 50000) {n : Int} (hn : Wf n) (x : Bs) (hx : x.length = 232) :
    ∃ w', (Instr.mapUpdate tMp (.map (some d)) (.int .i64 n) (.string (bs x))).run Try.prog w = .ok () w' ∧ DeskR R w' d b (S.set n x) ∧ Chg (· = d) w w' := by
  obtain ⟨D, hm, hr⟩ := h.map
  obtain ⟨w', hrun, ho, ht⟩ := hm.store intKeyed Try.underlying80 (by unfold Small at hS; unfold maxLen; omega) (Maps.keyOf_int_mk Try.underlying3 hn) (val := .string (bs x)) (plainElem_string Try.underlying9 (by rw [bs_size, hx]; decide))
  refine ⟨w', hrun, ⟨h.own, fun k y hy => ?_, _, ho, hr.set hm.isMap n x⟩, turned ht⟩
  by_cases hk : k = n
  · subst hk
    rw [set_same] at hy
    rw [← Option.some.inj hy]
    exact hx
  · rw [set_other hk] at hy
    exact h.len k y hy
theorem clone_any (s : ByteArray) (hs : s.size ≤ 232) (w : World) :
    Calls Try.prog 58 #[.string s] w fun e w' => e = .returned (.string s) ∧ Below w.heap.size w w' := by
  have HC := hid (fun w => AnyPu.stringslite_Clone Try.cloneL s w (by omega))
  clear hs
  go_enter Try.func58, Try.ntmps58
  go_wp2_with fail
  refine (HC.out _).mono ?_
  rintro e w3 ⟨rfl, hb⟩
  have HB := hid hb
  clear hb
  go_wp2
  go_ret
  exact ⟨rfl, HB.out⟩
set_option maxRecDepth 100000 in
set_option maxHeartbeats 1000000 in
theorem has_any (h : DeskR R w d b S) {n : Int} (hn : Wf n) :
    Calls Try.prog 38 #[mpV d, .int .i64 n] w fun e w' => e = .returned (.bool (S.f n).isSome) ∧ w = w' := by
  obtain ⟨s, hrun⟩ := h.look hn
  generalize (S.f n).isSome = y at *
  clear h hn
  go_enter Try.func38, Try.ntmps38
  go_wp2
  go_ret
  exact ⟨rfl, rfl⟩
set_option maxRecDepth 100000 in
set_option maxHeartbeats 1000000 in
theorem pget_any (h : DeskR R w d b S) {n : Int} (hn : Wf n) :
    Calls Try.prog 40 #[mpV d, .int .i64 n] w fun e w' => e = .returned (.tuple #[.string (bs (S.get n).1.1), .int .i64 (S.get n).1.2]) ∧ Below w.heap.size w w' := by
  have HH := hid (has_any h hn)
  cases e : S.f n with
  | none =>
    rw [get_no e]
    rw [e] at HH
    clear h hn e
    go_enter Try.func40, Try.ntmps40
    go_wp2_with fail
    refine HH.out.mono ?_
    rintro e w3 ⟨rfl, rfl⟩
    go_wp2
    go_ret2
    exact ⟨rfl, Below.refl _ _⟩
  | some x =>
    rw [get_yes e]
    have hat := h.at hn e
    have hlen := h.len n x e
    have HC := hid (fun w => clone_any (bs x) (by rw [bs_size, hlen]; omega) w)
    rw [e] at HH
    clear h hn e hlen
    go_enter Try.func40, Try.ntmps40
    go_wp2_with fail
    refine HH.out.mono ?_
    rintro e w3 ⟨rfl, rfl⟩
    go_wp2_with fail
    refine (HC.out _).mono ?_
    rintro e w4 ⟨rfl, hb⟩
    have HB := hid hb
    clear hb
    go_wp2
    go_ret2
    exact ⟨rfl, HB.out⟩
theorem dget_any (h : DeskR R w d b S) {c : Nat} (_hS : Small c S) (_hc : c ≤ 50000) (n : Int) (hn : Wf n) :
    Calls Try.prog 40 #[mpV d, .int .i64 n] w fun e w' => e = .returned (.tuple #[.string (bs (S.get n).1.1), .int .i64 (S.get n).1.2]) ∧ DeskR R w' d b (S.get n).2 ∧ Chg R w w' := by
  refine (pget_any h hn).mono ?_
  rintro e w' ⟨rfl, hb⟩
  rw [get_st]
  exact ⟨rfl, h.on hb, Chg.of_below hb⟩
set_option maxRecDepth 100000 in
set_option maxHeartbeats 1000000 in
theorem dput_any (h : DeskR R w d b S) {c : Nat} (hS : Small c S) (hc : c ≤ 50000) (n : Int) (hn : Wf n) (x : Bs) :
    Calls Try.prog 39 #[mpV d, .int .i64 n, .string (bs x)] w fun e w' => e = .returned (.int .i64 (S.put n x).1) ∧ DeskR R w' d b (S.put n x).2 ∧ Chg R w w' := by
  have HH := hid (has_any h hn)
  have hsz := bs_size x
  cases e : S.f n with
  | none =>
    rw [put_no e]
    rw [e] at HH
    have HD := hid h
    clear h hn e hS hc hsz
    go_enter Try.func39, Try.ntmps39
    go_wp2_with fail
    refine HH.out.mono ?_
    rintro e w3 ⟨rfl, rfl⟩
    go_wp2
    go_ret
    exact ⟨rfl, HD.out, Chg.refl _ _⟩
  | some y =>
    by_cases hl : x.length = 232
    · rw [put_yes e hl]
      rw [e] at HH
      have HC := hid (fun w => clone_any (bs x) (by rw [bs_size, hl]; omega) w)
      have HD := hid h
      have HP := hid (fun (w4 : World) (h4 : DeskR R w4 d b S) => h4.put hS hc hn x hl)
      have hne : (((bs x).size : Int) != 232) = false := by rw [hsz, hl]; rfl
      have hO := hid h.own
      generalize bs x = X at *
      clear h hn e hS hc hsz hl
      go_enter Try.func39, Try.ntmps39
      go_wp2_with fail
      refine HH.out.mono ?_
      rintro e w3 ⟨rfl, rfl⟩
      go_wp2_with fail
      refine (HC.out _).mono ?_
      rintro e w4 ⟨rfl, hb⟩
      obtain ⟨w5, hrun, hd5, hc5⟩ := HP.out w4 (HD.out.on hb)
      have HF : Hid (DeskR R w5 d b (S.set n x) ∧ Chg R w w5) := hid ⟨hd5, (Chg.of_below hb).then hc5 (fun k _ hk => Or.inr (by rw [hk]; exact hO.out))⟩
      clear hb hd5 hc5
      go_wp2
      go_ret
      exact ⟨rfl, HF.out.1, HF.out.2⟩
    · rw [put_bad e hl]
      rw [e] at HH
      have HD := hid h
      have hne : (((bs x).size : Int) != 232) = true := by rw [hsz]; simp; omega
      generalize bs x = X at *
      clear h hn e hS hc hsz hl
      go_enter Try.func39, Try.ntmps39
      go_wp2_with fail
      refine HH.out.mono ?_
      rintro e w3 ⟨rfl, rfl⟩
      go_wp2
      go_ret
      exact ⟨rfl, HD.out, Chg.refl _ _⟩
end Sh
end Go.Proofs.Ytbenjlddihpciaa
