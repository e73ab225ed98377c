/-
  Put together: ShelfPages, ShelfTrunk, ShelfPutT, ShelfHead.
-/
import Derived.Test.YtkoglikaaehhjaaGreatDoorShelfMath
import Derived.Test.YtkoglikaaehhjaaGreatDoorShelfShelf
import Derived.Test.YtkoglikaaehhjaaGreatDoorGrpSpB
import Derived.Maps.OwnSet
import Derived.Maps.StringElems
import Derived.Test.YtkoglikaaehhjaaGreatDoorGrpSpC
import Derived.Handy
/-
  The shelf's pages in memory: a map of the call's own; has, Get, Put.
-/
namespace Go.Proofs.YtkoglikaaehhjaaGreatDoor
open Go.RowKit
namespace Sh
open Sp
open Num (hid)
open Mem (Bs bs IAt tI tS tIs tSs Chg Row ptr blk_cell blk_free blk_new blk_set blk_other blk_alloc row_kept row_shape row_type)
abbrev tMp : TypeId := 71
abbrev mpV (m : Nat) : Value := .map (some m)
abbrev dkV (d : Nat) : Value := .iface tMp (.map (some d))
theorem intKeyed : Maps.Keyed Tryz.prog tI := Maps.int_keyed Tryz.underlying3
theorem zeroStr (w : World) : (zeroValue tS).run Tryz.prog w = .ok (.string ⟨#[]⟩) w := Tryz.zeroValue9 w
/-- An int of the machine. -/
def Wf (n : Int) : Prop := (Lit.int .i64 n).wf = true
theorem wf_of {n : Int} (h1 : -9223372036854775808 ≤ n) (h2 : n ≤ 9223372036854775807) : Wf n := by
  show (decide (IntKind.i64.min ≤ n) && decide (n ≤ IntKind.i64.max)) = true
  rw [decide_eq_true (show IntKind.i64.min ≤ n from h1), decide_eq_true (show n ≤ IntKind.i64.max from h2)]
  rfl
structure Reads (D : DataW Unit) (S : St) : Prop where
  yes : ∀ k x, Wf k → S.f k = some x → Maps.has D (.int .i64 k) = true ∧ ∀ z, D.atKey (.int .i64 k) z = .lit (.string x)
  no : ∀ k, Wf k → S.f k = none → Maps.has D (.int .i64 k) = false
theorem Reads.set {D : DataW Unit} {S : St} (h : Reads D S) (hD : Maps.IsMap D) (k : Int) (x : Bs) : Reads (D.put (.int .i64 k) (.lit (.string x))) (S.set k x) := by
  have kk : WideAt.IsKeyLit (Lit.int .i64 k) := trivial
  have hne : ∀ j : Int, j ≠ k → (Lit.int .i64 j) ≠ Lit.int .i64 k := fun j hj e => hj (by injection e)
  refine ⟨fun j y hw hj => ?_, fun j hw hj => ?_⟩
  · by_cases hjk : j = k
    · subst hjk
      rw [set_same] at hj
      obtain rfl := Option.some.inj hj
      exact ⟨Maps.has_put_same hD kk _, fun z => Maps.atKey_put_same hD kk _ z⟩
    · rw [set_other hjk] at hj
      obtain ⟨h1, h2⟩ := h.yes j y hw hj
      exact ⟨(Maps.has_put_other (hne j hjk) _).trans h1, fun z => (Maps.atKey_put_other (hne j hjk) _ z).trans (h2 z)⟩
  · by_cases hjk : j = k
    · subst hjk
      rw [set_same] at hj
      cases hj
    · rw [set_other hjk] at hj
      exact (Maps.has_put_other (hne j hjk) _).trans (h.no j hw hj)
structure DeskR (R : Nat → Prop) (w : World) (d b : Nat) (S : St) : Prop where
  own : R d
  len : ∀ k x, S.f k = some x → x.length = 232
  map : ∃ D, w.ownsMap Tryz.prog tI (plainElem (H := Unit) Tryz.prog tS) d S.n D ∧ Reads D S
/-- Small enough. -/
def Small (k : Nat) (S : St) : Prop := S.n ≤ k
theorem Small.more {k k' : Nat} {S : St} (h : Small k S) (hk : k ≤ k') : Small k' S := Nat.le_trans h hk
variable {R : Nat → Prop} {w w' : World} {d b : Nat} {S : St}
theorem DeskR.lt (h : DeskR R w d b S) : d < w.heap.size := by
  obtain ⟨D, hm, -⟩ := h.map
  exact hm.lt
theorem DeskR.apart {F : Nat → Prop} (h : DeskR R w d b S) (hc : Chg F w w') (hF : ∀ k, F k → ¬ R k) : DeskR R w' d b S := by
  obtain ⟨D, ⟨es, clock, hb, r⟩, hr⟩ := h.map
  exact ⟨h.own, h.len, D, ⟨es, clock, hc.at hb (fun e => hF d e h.own), r⟩, hr⟩
theorem DeskR.on (h : DeskR R w d b S) (hb : Below w.heap.size w w') : DeskR R w' d b S := h.apart (F := fun _ => False) (Chg.of_below hb) (fun _ h => h.elim)
theorem DeskR.mono {R' : Nat → Prop} (h : DeskR R w d b S) (hR : ∀ g, g < w.heap.size → R g → R' g) : DeskR R' w d b S := ⟨hR d h.lt h.own, h.len, h.map⟩
theorem turned {m : Nat} (h : w.mapTurned w' m) : Chg (· = m) w w' := by
  obtain ⟨es, clock, es', clock', hb, rfl⟩ := h
  refine ⟨rfl, rfl, rfl, by simp [ChangeMaps.setBlock], fun k _ hk => ?_⟩
  simp only [ChangeMaps.setBlock, Array.getElem?_setIfInBounds]
  rw [if_neg (fun e => hk e.symm)]
/-- Whether a page is there. -/
theorem DeskR.look (h : DeskR R w d b S) {n : Int} (hn : Wf n) : ∃ s, (Instr.lookup tMp (.map (some d)) (.int .i64 n) true).run Tryz.prog w = .ok (.tuple #[.string s, .bool (S.f n).isSome]) w := by
  obtain ⟨D, hm, hr⟩ := h.map
  obtain ⟨v, ps, hrun, hv⟩ := hm.look_ok intKeyed Tryz.underlying71 (zeroStr w) (zd := .lit (.string [])) (zp := []) (plainElem_string Tryz.underlying9 (by decide)) (Maps.keyOf_int_mk Tryz.underlying3 hn)
  obtain ⟨s, rfl, -, -⟩ := plainElem_string_inv Tryz.underlying9 hv
  refine ⟨s, hrun.trans ?_⟩
  cases e : S.f n with
  | none => rw [hr.no n hn e]; rfl
  | some x => rw [(hr.yes n x hn e).1]; rfl
theorem DeskR.at (h : DeskR R w d b S) {n : Int} (hn : Wf n) {x : Bs} (hx : S.f n = some x) : (Instr.lookup tMp (.map (some d)) (.int .i64 n) false).run Tryz.prog w = .ok (.string (bs x)) w := by
  obtain ⟨D, hm, hr⟩ := h.map
  obtain ⟨v, ps, hrun, hv⟩ := hm.lookup intKeyed Tryz.underlying71 (zeroStr w) (zd := .lit (.string [])) (zp := []) (plainElem_string Tryz.underlying9 (by decide)) (Maps.keyOf_int_mk Tryz.underlying3 hn)
  rw [(hr.yes n x hn hx).2] at hv
  obtain ⟨s, rfl, e, -⟩ := plainElem_string_inv Tryz.underlying9 hv
  simp only [Prod.mk.injEq, DataW.lit.injEq, Lit.string.injEq] at e
  have : bs x = s := by
    rw [e.1]
    rfl
  rw [this]
  exact hrun
theorem DeskR.put (h : DeskR R w d b S) {c : Nat} (hS : Small c S) (hc : c ≤ 50000) {n : Int} (hn : Wf n) (x : Bs) (hx : x.length = 232) :
    ∃ w', (Instr.mapUpdate tMp (.map (some d)) (.int .i64 n) (.string (bs x))).run Tryz.prog w = .ok () w' ∧ DeskR R w' d b (S.set n x) ∧ Chg (· = d) w w' := by
  obtain ⟨D, hm, hr⟩ := h.map
  obtain ⟨w', hrun, ho, ht⟩ := hm.store intKeyed Tryz.underlying71 (by unfold Small at hS; unfold maxLen; omega) (Maps.keyOf_int_mk Tryz.underlying3 hn) (val := .string (bs x)) (plainElem_string Tryz.underlying9 (by rw [bs_size, hx]; decide))
  refine ⟨w', hrun, ⟨h.own, fun k y hy => ?_, _, ho, hr.set hm.isMap n x⟩, turned ht⟩
  by_cases hk : k = n
  · subst hk
    rw [set_same] at hy
    rw [← Option.some.inj hy]
    exact hx
  · rw [set_other hk] at hy
    exact h.len k y hy
theorem clone_any (s : ByteArray) (hs : s.size ≤ 232) (w : World) :
    Calls Tryz.prog 32 #[.string s] w fun e w' => e = .returned (.string s) ∧ Below w.heap.size w w' := by
  have HC := hid (fun w => AnyPu.stringslite_Clone Tryz.cloneL s w (by omega))
  clear hs
  go_enter Tryz.func32, Tryz.ntmps32
  go_wp2_with fail
  refine (HC.out _).mono ?_
  rintro e w3 ⟨rfl, hb⟩
  have HB := hid hb
  clear hb
  go_wp2
  go_ret
  exact ⟨rfl, HB.out⟩
set_option maxRecDepth 100000 in
set_option maxHeartbeats 1000000 in
theorem has_any (h : DeskR R w d b S) {n : Int} (hn : Wf n) :
    Calls Tryz.prog 56 #[mpV d, .int .i64 n] w fun e w' => e = .returned (.bool (S.f n).isSome) ∧ w = w' := by
  obtain ⟨s, hrun⟩ := h.look hn
  generalize (S.f n).isSome = y at *
  clear h hn
  go_enter Tryz.func56, Tryz.ntmps56
  go_wp2
  go_ret
  exact ⟨rfl, rfl⟩
set_option maxRecDepth 100000 in
set_option maxHeartbeats 1000000 in
theorem pget_any (h : DeskR R w d b S) {n : Int} (hn : Wf n) :
    Calls Tryz.prog 40 #[mpV d, .int .i64 n] w fun e w' => e = .returned (.tuple #[.string (bs (S.get n).1.1), .int .i64 (S.get n).1.2]) ∧ Below w.heap.size w w' := by
  have HH := hid (has_any h hn)
  cases e : S.f n with
  | none =>
    rw [get_no e]
    rw [e] at HH
    clear h hn e
    go_enter Tryz.func40, Tryz.ntmps40
    go_wp2_with fail
    refine HH.out.mono ?_
    rintro e w3 ⟨rfl, rfl⟩
    go_wp2
    go_ret2
    exact ⟨rfl, Below.refl _ _⟩
  | some x =>
    rw [get_yes e]
    have hat := h.at hn e
    have hlen := h.len n x e
    have HC := hid (fun w => clone_any (bs x) (by rw [bs_size, hlen]; omega) w)
    rw [e] at HH
    clear h hn e hlen
    go_enter Tryz.func40, Tryz.ntmps40
    go_wp2_with fail
    refine HH.out.mono ?_
    rintro e w3 ⟨rfl, rfl⟩
    go_wp2_with fail
    refine (HC.out _).mono ?_
    rintro e w4 ⟨rfl, hb⟩
    have HB := hid hb
    clear hb
    go_wp2
    go_ret2
    exact ⟨rfl, HB.out⟩
theorem dget_any (h : DeskR R w d b S) {c : Nat} (_hS : Small c S) (_hc : c ≤ 50000) (n : Int) (hn : Wf n) :
    Calls Tryz.prog 40 #[mpV d, .int .i64 n] w fun e w' => e = .returned (.tuple #[.string (bs (S.get n).1.1), .int .i64 (S.get n).1.2]) ∧ DeskR R w' d b (S.get n).2 ∧ Chg R w w' := by
  refine (pget_any h hn).mono ?_
  rintro e w' ⟨rfl, hb⟩
  rw [get_st]
  exact ⟨rfl, h.on hb, Chg.of_below hb⟩
set_option maxRecDepth 100000 in
set_option maxHeartbeats 1000000 in
theorem dput_any (h : DeskR R w d b S) {c : Nat} (hS : Small c S) (hc : c ≤ 50000) (n : Int) (hn : Wf n) (x : Bs) :
    Calls Tryz.prog 44 #[mpV d, .int .i64 n, .string (bs x)] w fun e w' => e = .returned (.int .i64 (S.put n x).1) ∧ DeskR R w' d b (S.put n x).2 ∧ Chg R w w' := by
  have HH := hid (has_any h hn)
  have hsz := bs_size x
  cases e : S.f n with
  | none =>
    rw [put_no e]
    rw [e] at HH
    have HD := hid h
    clear h hn e hS hc hsz
    go_enter Tryz.func44, Tryz.ntmps44
    go_wp2_with fail
    refine HH.out.mono ?_
    rintro e w3 ⟨rfl, rfl⟩
    go_wp2
    go_ret
    exact ⟨rfl, HD.out, Chg.refl _ _⟩
  | some y =>
    by_cases hl : x.length = 232
    · rw [put_yes e hl]
      rw [e] at HH
      have HC := hid (fun w => clone_any (bs x) (by rw [bs_size, hl]; omega) w)
      have HD := hid h
      have HP := hid (fun (w4 : World) (h4 : DeskR R w4 d b S) => h4.put hS hc hn x hl)
      have hne : (((bs x).size : Int) != 232) = false := by rw [hsz, hl]; rfl
      have hO := hid h.own
      generalize bs x = X at *
      clear h hn e hS hc hsz hl
      go_enter Tryz.func44, Tryz.ntmps44
      go_wp2_with fail
      refine HH.out.mono ?_
      rintro e w3 ⟨rfl, rfl⟩
      go_wp2_with fail
      refine (HC.out _).mono ?_
      rintro e w4 ⟨rfl, hb⟩
      obtain ⟨w5, hrun, hd5, hc5⟩ := HP.out w4 (HD.out.on hb)
      have HF : Hid (DeskR R w5 d b (S.set n x) ∧ Chg R w w5) := hid ⟨hd5, (Chg.of_below hb).then hc5 (fun k _ hk => Or.inr (by rw [hk]; exact hO.out))⟩
      clear hb hd5 hc5
      go_wp2
      go_ret
      exact ⟨rfl, HF.out.1, HF.out.2⟩
    · rw [put_bad e hl]
      rw [e] at HH
      have HD := hid h
      have hne : (((bs x).size : Int) != 232) = true := by rw [hsz]; simp; omega
      generalize bs x = X at *
      clear h hn e hS hc hsz hl
      go_enter Tryz.func44, Tryz.ntmps44
      go_wp2_with fail
      refine HH.out.mono ?_
      rintro e w3 ⟨rfl, rfl⟩
      go_wp2
      go_ret
      exact ⟨rfl, HD.out, Chg.refl _ _⟩
end Sh
end Go.Proofs.YtkoglikaaehhjaaGreatDoor

/-
  The shelf's pages: contract of the project's trunkAt.
-/
namespace Go.Proofs.YtkoglikaaehhjaaGreatDoor
open Go.RowKit
namespace Sh
open Sp
open Num (hid)
open Mem (Bs bs IAt tI tS tIs tSs Chg Row ptr blk_cell blk_free blk_new blk_set blk_other blk_alloc row_kept row_shape row_type)
variable {R : Nat → Prop} {w : World} {d b : Nat} {S : St}
theorem DeskR.since {w1 : World} (h : DeskR R w d b S) (hb : Below w.heap.size w w1) : DeskR (Since R w w1) w1 d b S :=
  ((h.mono (R' := fun k => R k ∧ k < w.heap.size) (fun _g hg e => ⟨e, hg⟩)).on hb).mono (fun _g _ e => Or.inl e)
theorem DeskR.wide {Q : Nat → Prop} {w1 : World} (h : DeskR Q w1 d b S) (hQ : ∀ k, Q k → R k) : DeskR R w1 d b S := h.mono (fun g _ e => hQ g e)
theorem DeskR.set {Q : Nat → Prop} {w1 : World} (h : DeskR Q w1 d b S) {g : Nat} (hg : ¬ Q g) (i : Nat) (u : Value) : DeskR Q (w1.setCell ⟨g, i, none⟩ u) d b S := h.apart (F := (· = g)) ((Chg.refl _ w1).root i u) (fun _k hk e => hg (hk ▸ e))
theorem tat_get {S : St} {n : Int} (h : ¬ (S.get n).1.2 = 0) : trunkAt S n = ((noT, (S.get n).1.2), (S.get n).2) := if_pos h
theorem tat_bad {S : St} {n : Int} (h : (S.get n).1.2 = 0) (h2 : ¬ (decT (S.get n).1.1).2 = 0) : trunkAt S n = ((noT, 30), (S.get n).2) := by unfold trunkAt; rw [if_neg (by simpa using h), if_pos h2]
theorem tat_ok {S : St} {n : Int} (h : (S.get n).1.2 = 0) (h2 : (decT (S.get n).1.1).2 = 0) : trunkAt S n = (((decT (S.get n).1.1).1, 0), (S.get n).2) := by unfold trunkAt; rw [if_neg (by simpa using h), if_neg (by simpa using h2)]
def AtGives (R : Nat → Prop) (d b : Nat) (x : (Tr × Int) × St) (w w' : World) (e : Ending) : Prop :=
  (∃ lv N, e = .returned (.tuple #[trV x.1.1 lv, .int .i64 x.1.2]) ∧ (w.heap.size ≤ N ∧ N ≤ w'.heap.size) ∧ Lrow N lv x.1.1.list w' ∧ DeskR (fun k => R k ∧ k < N) w' d b x.2) ∧ Chg R w w'
set_option maxRecDepth 100000 in
set_option maxHeartbeats 4000000 in
theorem trunkat_any (h : DeskR R w d b S) (hR : ∀ k, w.heap.size ≤ k → R k) {c : Nat} (hS : Small c S) (hc : c ≤ 50000) (n : Int) (hn : Wf n) :
    Calls Tryz.prog 58 #[dkV d, .int .i64 n] w fun e w' => AtGives R d b (trunkAt S n) w w' e := by
  have T0 := hid (Tb.new 0 nilS w)
  have B0 := hid ((Below.refl w.heap.size w).alloc (Nat.le_refl _) (tObj 0 nilS))
  have hz : w.heap.size < (w.alloc (tObj 0 nilS)).heap.size := by simp
  have D1 := h.since B0.out
  have HG := hid (dget_any D1 hS hc n hn)
  have hno : ¬ Since R w (w.alloc (tObj 0 nilS)) w.heap.size := Since.no (Nat.le_refl _) hz
  have HNO := hid hno
  have HO := hid (Since.old (w1 := w.alloc (tObj 0 nilS)) hR (Nat.le_of_lt hz))
  have HA := hid (fun e => tat_get (S := S) (n := n) e)
  have HB := hid (fun e e2 => tat_bad (S := S) (n := n) e e2)
  have HC := hid (fun e e2 => tat_ok (S := S) (n := n) e e2)
  have HW := hid hR
  generalize Since R w (w.alloc (tObj 0 nilS)) = Q at *
  generalize hX : trunkAt S n = X at *
  generalize S.get n = G at *
  obtain ⟨⟨D, e1⟩, S1⟩ := G
  simp only at HG HA HB HC
  clear h hS hc hX D1 hn hno hR hz
  go_enter Tryz.func58, Tryz.ntmps58
  go_wp2_with fail
  refine HG.out.mono ?_
  rintro e w2 ⟨rfl, hd2, hc2⟩
  have D2 : Hid (DeskR (fun k => Q k ∧ k < w2.heap.size) w2 d b S1) := hid (hd2.mono (fun g hg e => ⟨e, hg⟩))
  have HN2 : Hid (¬ (Q w.heap.size ∧ w.heap.size < w2.heap.size)) := hid (fun e => HNO.out e.1)
  have HO2 : Hid (∀ k, (Q k ∧ k < w2.heap.size) → (R k ∧ k < w2.heap.size)) := hid (fun k e => ⟨HO.out k e.1, e.2⟩)
  have HZ2 : Hid (w.heap.size ≤ w2.heap.size) := hid (Nat.le_of_lt (T0.out.at hc2 HNO.out).lt)
  have C2 := hid hc2
  have T2 := hid (T0.out.at hc2 HNO.out)
  have CR : Hid (Chg R w w2) := hid ((Chg.of_below B0.out).trans (hc2.mono (fun k _ e => HO.out k e)))
  clear hd2 hc2
  have hcell := T2.out.cells
  obtain ⟨r0, r1⟩ := T2.out.cells
  obtain ⟨s0, s1⟩ := T2.out.free
  have hlr := T2.out.lt
  by_cases h1 : e1 = 0
  · subst h1
    have HDc := hid (decode_any D w2)
    have HB2 := hid (HB.out rfl)
    have HC2 := hid (HC.out rfl)
    clear HA HB HC hcell r0 r1 s0 s1 hlr
    generalize decT D = Y at *
    obtain ⟨T, ed⟩ := Y
    simp only at HB2 HC2
    go_wp2_with fail
    refine HDc.out.mono ?_
    rintro e w3 ⟨⟨lv, rfl, hrow⟩, hb3⟩
    obtain ⟨ao, cap, rfl⟩ := hrow.shape
    unfold trV
    simp only at hrow ⊢
    have D3 := hid (D2.out.on hb3)
    have HZ3 : Hid (∀ a x o, w2.heap.size ≤ ((put2 w3 w.heap.size a x).alloc o).heap.size) := hid (fun a x o => by have := hb3.size; simp [World.setCell]; omega)
    have T3 := hid (T2.out.on hb3)
    have L3 := hid hrow
    have CR3 := hid (CR.out.trans (Chg.of_below hb3))
    clear hrow hb3 D2 T2 CR C2
    have U4 := hid (Tb.new T.next (.slice ao T.list.length cap) w3)
    obtain ⟨r0, r1⟩ := T3.out.cells
    obtain ⟨s0, s1⟩ := T3.out.free
    have hlr3 := T3.out.lt
    obtain ⟨u0, u1⟩ := U4.out.cells
    have CF : Hid (∀ a x, Chg R w ((put2 w3 w.heap.size a x).alloc (tObj T.next (.slice ao T.list.length cap)))) := hid (fun a x => ((CR3.out.setCell (Or.inl (Nat.le_refl _)) _).setCell (Or.inl (Nat.le_refl _)) _).alloc _)
    have DF : Hid (∀ a x, DeskR (fun k => R k ∧ k < w2.heap.size) ((put2 w3 w.heap.size a x).alloc (tObj T.next (.slice ao T.list.length cap))) d b S1) := hid (fun a x => (((D3.out.set HN2.out _ _).set HN2.out _ _).wide HO2.out).on ((Below.refl _ _).alloc (Nat.le_refl _) _))
    by_cases h2 : ed = 0
    · subst h2
      have hx := HC2.out rfl
      subst hx
      clear HB2 HC2
      have HF : Hid (Tb w.heap.size T.next (.slice ao T.list.length cap) ((put2 w3 w.heap.size T.next (.slice ao T.list.length cap)).alloc (tObj T.next (.slice ao T.list.length cap))) ∧ Lrow w2.heap.size (.slice ao T.list.length cap) T.list ((put2 w3 w.heap.size T.next (.slice ao T.list.length cap)).alloc (tObj T.next (.slice ao T.list.length cap)))) := by
        refine hid ⟨((T3.out.set0 _).set1 _).on ((Below.refl _ _).alloc (Nat.le_refl _) _), ?_⟩
        have := ((L3.out.set T3.out (.int .i64 T.next) (i := 0)).set (T3.out.set0 T.next) (.slice ao T.list.length cap) (i := 1)).on ((Below.refl _ _).alloc (Nat.le_refl _) (tObj T.next (.slice ao T.list.length cap)))
        exact this
      go_wp2
      obtain ⟨g4, g1⟩ := HF.out
      obtain ⟨x0, x1⟩ := g4.cells
      refine @bodyPost_ret Tryz.prog Tryz.f58 (fun e w' => AtGives R d b ((T, 0), S1) w w' e) _ _ (.tuple #[trV T (.slice ao T.list.length cap), .int .i64 0]) ?_ ?_ ?_
      · simp [results, trV, go_sem, x0, x1]
      · rfl
      · exact ⟨⟨_, w2.heap.size, rfl, ⟨HZ2.out, HZ3.out _ _ _⟩, g1, DF.out _ _⟩, CF.out _ _⟩
    · have hx := HB2.out h2
      subst hx
      have h2' : (ed == 0) = false := by simpa using h2
      clear HB2 HC2
      have HF : Hid (Tb w.heap.size 0 nilS ((put2 w3 w.heap.size 0 nilS).alloc (tObj T.next (.slice ao T.list.length cap)))) := hid (((T3.out.set0 _).set1 _).on ((Below.refl _ _).alloc (Nat.le_refl _) _))
      go_wp2
      obtain ⟨x0, x1⟩ := HF.out.cells
      refine @bodyPost_ret Tryz.prog Tryz.f58 (fun e w' => AtGives R d b ((noT, 30), S1) w w' e) _ _ (.tuple #[trV noT nilS, .int .i64 30]) ?_ ?_ ?_
      · simp [results, trV, noT, go_sem, x0, x1]
      · rfl
      · exact ⟨⟨_, w2.heap.size, rfl, ⟨HZ2.out, HZ3.out _ _ _⟩, Lrow.nil _ _, DF.out _ _⟩, CF.out _ _⟩
  · have hx := HA.out h1
    subst hx
    have h1' : (e1 == 0) = false := by simpa using h1
    clear HA HB HC
    have HF : Hid (Tb w.heap.size 0 nilS (put2 w2 w.heap.size 0 nilS)) := hid ((T2.out.set0 _).set1 _)
    have CF : Hid (Chg R w (put2 w2 w.heap.size 0 nilS)) := hid ((CR.out.setCell (Or.inl (Nat.le_refl _)) _).setCell (Or.inl (Nat.le_refl _)) _)
    have DF : Hid (DeskR (fun k => R k ∧ k < w2.heap.size) (put2 w2 w.heap.size 0 nilS) d b S1) := hid (((D2.out.set HN2.out _ _).set HN2.out _ _).wide HO2.out)
    go_wp2
    obtain ⟨x0, x1⟩ := HF.out.cells
    refine @bodyPost_ret Tryz.prog Tryz.f58 (fun e w' => AtGives R d b ((noT, e1), S1) w w' e) _ _ (.tuple #[trV noT nilS, .int .i64 e1]) ?_ ?_ ?_
    · simp [results, trV, noT, go_sem, x0, x1]
    · rfl
    · exact ⟨⟨_, w2.heap.size, rfl, ⟨HZ2.out, Nat.le_of_eq (by simp [World.setCell])⟩, Lrow.nil _ _, DF.out⟩, CF.out⟩
end Sh
end Go.Proofs.YtkoglikaaehhjaaGreatDoor

/-
  The shelf's pages: contract of the project's putTrunk.
-/
namespace Go.Proofs.YtkoglikaaehhjaaGreatDoor
open Go.RowKit
namespace Sh
open Sp
open Num (hid)
open Mem (Bs bs IAt tI tS tIs tSs Chg Row ptr blk_cell blk_free blk_new blk_set blk_other blk_alloc row_kept row_shape row_type wpList_append_run)
variable {R : Nat → Prop} {w : World} {d b : Nat} {S : St}
theorem ptr_bad {t : Tr} {n : Int} (h : okT t = false) : putTrunk S n t = (1, S) := by unfold putTrunk; rw [h]; rfl
theorem ptr_ok {t : Tr} {n : Int} (h : okT t = true) : putTrunk S n t = S.put n (pageT t) := by unfold putTrunk; rw [if_pos h]
set_option maxRecDepth 100000 in
set_option maxHeartbeats 4000000 in
theorem puttrunk_any (h : DeskR R w d b S) {c : Nat} (hS : Small c S) (hc : c ≤ 50000) (n : Int) (hn : Wf n) (t : Tr) (lv : Value) (hI : IAt w lv t.list) :
    Calls Tryz.prog 60 #[dkV d, .int .i64 n, trV t lv] w fun e w' => e = .returned (.int .i64 (putTrunk S n t).1) ∧ DeskR R w' d b (putTrunk S n t).2 ∧ Chg R w w' := by
  obtain ⟨ao, cap, rfl, hm, -, -⟩ := Mem.IAt.ways1 hI
  have T1 := hid (Tb.new t.next (.slice ao t.list.length cap) w)
  have B1 := hid ((Below.refl w.heap.size w).alloc (Nat.le_refl _) (tObj t.next (.slice ao t.list.length cap)))
  have HE := hid (encode_any t (.slice ao t.list.length cap) _ (hI.on B1.out))
  obtain ⟨c0, c1⟩ := T1.out.cells
  have HD := hid h
  have HP := hid (fun (w2 : World) (D2 : DeskR R w2 d b S) (x : Bs) => dput_any D2 hS hc n hn x)
  unfold trV sV2 at *
  cases ho : okT t with
  | false =>
    rw [ptr_bad ho]
    rw [enc_bad ho] at HE
    clear h hI hS hc hn ho
    go_enter Tryz.func60, Tryz.ntmps60
    go_wp2_with fail
    refine HE.out.mono ?_
    rintro e w3 ⟨rfl, hb⟩
    have B2 := hid (B1.out.trans (hb.mono B1.out.size))
    clear hb c0 c1
    go_wp2
    go_ret
    exact ⟨rfl, HD.out.on B2.out, Chg.of_below B2.out⟩
  | true =>
    rw [ptr_ok ho]
    rw [enc_good ho] at HE
    clear h hI hS hc hn ho
    generalize pageT t = P at *
    go_enter Tryz.func60, Tryz.ntmps60
    go_wp2_with fail
    refine HE.out.mono ?_
    rintro e w3 ⟨rfl, hb⟩
    have B2 := hid (B1.out.trans (hb.mono B1.out.size))
    clear hb c0 c1
    have HPx := hid (HP.out w3 (HD.out.on B2.out) P)
    go_wp2_with fail
    refine HPx.out.mono ?_
    rintro e w4 ⟨rfl, hd4, hc4⟩
    have D4 := hid hd4
    have C4 := hid ((Chg.of_below B2.out).trans hc4)
    clear hd4 hc4
    go_wp2
    go_ret
    exact ⟨rfl, D4.out, C4.out⟩
end Sh
end Go.Proofs.YtkoglikaaehhjaaGreatDoor

/-
  The shelf's pages: contracts of the project's takeNew and takeTrunk.
-/
namespace Go.Proofs.YtkoglikaaehhjaaGreatDoor
open Go.RowKit
namespace Sh
open Sp
open Num (hid)
open Mem (Bs bs IAt tI tS tIs tSs Chg Row ptr blk_cell blk_free blk_new blk_set blk_other blk_alloc row_kept row_shape row_type)
theorem desk_put6z {Q : Nat → Prop} {w : World} {d b : Nat} {S : St} (h : DeskR Q w d b S) {r : Nat} (hr : ¬ Q r) : DeskR Q (put6z w r) d b S :=
  (((((h.set hr _ _).set hr _ _).set hr _ _).set hr _ _).set hr _ _).set hr _ _
theorem desk_put6 {Q : Nat → Prop} {w : World} {d b : Nat} {S : St} (h : DeskR Q w d b S) {r : Nat} (hr : ¬ Q r) (g : Hd) : DeskR Q (put6 w r g) d b S :=
  (((((h.set hr _ _).set hr _ _).set hr _ _).set hr _ _).set hr _ _).set hr _ _
set_option maxRecDepth 100000 in
set_option maxHeartbeats 1000000 in
theorem takenew_any (h : Hd) (hf : Fit h) (w : World) :
    Calls Tryz.prog 57 #[hV h] w fun e w' => e = .returned (takeV (takeNew h)) ∧ Below w.heap.size w w' := by
  have HT := hid (two_heads w)
  obtain ⟨mode, pages, trunk, spare, root, change⟩ := h
  by_cases hp : 4096 ≤ pages
  · rw [tn_full hp]
    unfold hV
    clear hf
    go_enter Tryz.func57, Tryz.ntmps57
    go_wp2
    obtain ⟨-, g1, g2⟩ := HT.out ⟨mode, pages, trunk, spare, root, change⟩ hd0
    obtain ⟨x0, x1, x2, x3, x4, x5⟩ := g1.cells
    refine @bodyPost_ret Tryz.prog Tryz.f57 (fun e w' => e = .returned (takeV (0, hd0, 22)) ∧ Below w.heap.size w w') _ _ (takeV (0, hd0, 22)) ?_ ?_ ?_
    · simp [results, takeV, hV, hd0, go_sem]
    · rfl
    · exact ⟨rfl, g2⟩
  · rw [tn_more hp]
    unfold Fit at hf
    have hw : wrap64 (pages + 1) = pages + 1 := by rw [Num.wrap_i]; simp only at hf; omega
    unfold hV
    clear hf
    go_enter Tryz.func57, Tryz.ntmps57
    go_wp2
    go_region
    go_wp2
    obtain ⟨-, g1, g2⟩ := HT.out ⟨mode, pages + 1, trunk, spare, root, change⟩ ⟨mode, pages + 1, trunk, spare, root, change⟩
    refine @bodyPost_ret Tryz.prog Tryz.f57 (fun e w' => e = .returned (takeV (pages, ⟨mode, pages + 1, trunk, spare, root, change⟩, 0)) ∧ Below w.heap.size w w') _ _ (takeV (pages, ⟨mode, pages + 1, trunk, spare, root, change⟩, 0)) ?_ ?_ ?_
    · simp [results, takeV, hV, go_sem]
    · rfl
    · exact ⟨rfl, g2.drew⟩
set_option maxRecDepth 100000 in
set_option maxHeartbeats 1000000 in
theorem taketrunk_any (h : Hd) (hf : Fit h) (n : Int) (w : World) :
    Calls Tryz.prog 59 #[hV h, .int .i64 n] w fun e w' => e = .returned (takeV (takeTrunk h n)) ∧ Below w.heap.size w w' := by
  have HT := hid (two_heads w)
  obtain ⟨mode, pages, trunk, spare, root, change⟩ := h
  unfold Fit at hf
  have hw : wrap64 (spare - 1) = spare - 1 := by rw [Num.wrap_i]; simp only at hf; omega
  by_cases hp : decide (spare - 1 = 0) = decide (n = 0)
  · rw [tt_ok (h := ⟨mode, pages, trunk, spare, root, change⟩) hp]
    have hq : (spare - 1 == 0) = (n == 0) := by rw [ibeq, ibeq]; exact hp
    unfold hV
    clear hf hp
    go_enter Tryz.func59, Tryz.ntmps59
    go_wp2
    go_region
    go_wp2
    obtain ⟨-, g1, g2⟩ := HT.out ⟨mode, pages, n, spare - 1, root, change⟩ ⟨mode, pages, n, spare - 1, root, change⟩
    refine @bodyPost_ret Tryz.prog Tryz.f59 (fun e w' => e = .returned (takeV (trunk, ⟨mode, pages, n, spare - 1, root, change⟩, 0)) ∧ Below w.heap.size w w') _ _ (takeV (trunk, ⟨mode, pages, n, spare - 1, root, change⟩, 0)) ?_ ?_ ?_
    · simp [results, takeV, hV, go_sem]
    · rfl
    · exact ⟨rfl, g2.drew⟩
  · rw [tt_bad (h := ⟨mode, pages, trunk, spare, root, change⟩) hp]
    have hq : ((spare - 1 == 0) == (n == 0)) = false := by
      rw [ibeq, ibeq]
      by_cases e1 : spare - 1 = 0 <;> by_cases e2 : n = 0 <;> simp_all
    unfold hV
    clear hf hp
    go_enter Tryz.func59, Tryz.ntmps59
    go_wp2
    obtain ⟨-, g1, g2⟩ := HT.out ⟨mode, pages, n, spare - 1, root, change⟩ hd0
    refine @bodyPost_ret Tryz.prog Tryz.f59 (fun e w' => e = .returned (takeV (0, hd0, 30)) ∧ Below w.heap.size w w') _ _ (takeV (0, hd0, 30)) ?_ ?_ ?_
    · simp [results, takeV, hV, hd0, go_sem]
    · rfl
    · exact ⟨rfl, g2⟩
end Sh
end Go.Proofs.YtkoglikaaehhjaaGreatDoor
