/-
  Put together: JouMem, JouCode, JouLay, JouCalls.
-/
import Derived.Test.YtpdpjgeoclilhaaGreatGrpJA
import Derived.Test.YtpdpjgeoclilhaaGreatGrpJDke
import Derived.Test.YtpdpjgeoclilhaaGreatJouShelf
import Derived.Test.YtpdpjgeoclilhaaGreatGrpJSea
import Derived.Test.YtpdpjgeoclilhaaGreatQuietTail
import Derived.Shelf.Strings.OnBuilder
import Derived.Shelf.Strings.BuilderK
/-
  A journal in memory: its box, the set of what was noted, the disk beside them; whoever the others are, they stay.
-/
namespace Go.Proofs.YtpdpjgeoclilhaaGreat
open Go.RowKit
namespace Jo
open Num (hid)
open Disk (Mod Fil Sees Stays ptr)

abbrev tMs : TypeId := 114
abbrev tI : TypeId := 3
abbrev tU : TypeId := 119
abbrev tJo : TypeId := 116
theorem intKeyed : Maps.Keyed Tryz.prog tI := Maps.int_keyed Tryz.underlying3
theorem wf_nat {n : Nat} (h : n ≤ 9223372036854775807) : (Lit.int .i64 (n : Int)).wf = true := by
  show (decide (IntKind.i64.min ≤ (n : Int)) && decide ((n : Int) ≤ IntKind.i64.max)) = true
  rw [decide_eq_true (show IntKind.i64.min ≤ (n : Int) from by show (-9223372036854775808 : Int) ≤ _; omega), decide_eq_true (show (n : Int) ≤ IntKind.i64.max from by show _ ≤ (9223372036854775807 : Int); omega)]
  rfl
structure NReads (D : DataW Unit) (l : List Nat) : Prop where
  size : Maps.size D = l.length
  has : ∀ n : Nat, Maps.has D (.int .i64 (n : Int)) = decide (n ∈ l)
/-- The map at b holds just the numbers l. -/
def NotedAt (w : World) (b : Nat) (l : List Nat) : Prop := ∃ D, w.ownsMap Tryz.prog tI unitElem b l.length D ∧ NReads D l
theorem NotedAt.lt {w : World} {b : Nat} {l : List Nat} (h : NotedAt w b l) : b < w.heap.size := by
  obtain ⟨D, hm, -⟩ := h
  exact hm.lt
theorem NotedAt.apart {w w' : World} {b : Nat} {l : List Nat} {F : Nat → Prop} (h : NotedAt w b l) (hc : Disk.Chg F w w') (hF : ¬ F b) : NotedAt w' b l := by
  obtain ⟨D, ⟨es, clock, hb, r⟩, hr⟩ := h
  exact ⟨D, ⟨es, clock, hc.at hb hF, r⟩, hr⟩
theorem NotedAt.new (w : World) : NotedAt (w.alloc (.map #[] 0)) w.heap.size [] :=
  ⟨.map [], World.ownsMap_made w Tryz.prog tI unitElem, rfl, fun n => by simp [Maps.has]⟩
theorem NotedAt.look {w : World} {b : Nat} {l : List Nat} (h : NotedAt w b l) {n : Nat} (hn : n ≤ 9223372036854775807) :
    (Instr.lookup tMs (.map (some b)) (.int .i64 n) true).run Tryz.prog w = .ok (.tuple #[.agg #[], .bool (decide (n ∈ l))]) w := by
  obtain ⟨D, hm, hr⟩ := h
  obtain ⟨v, ps, hrun, hv⟩ := hm.look_ok intKeyed Tryz.underlying114 (Tryz.zeroValue119 w) (zd := .agg []) (zp := []) unitElem_mk (Maps.keyOf_int_mk Tryz.underlying3 (wf_nat hn))
  obtain ⟨rfl, _⟩ := unitElem_inv hv
  rw [hrun, hr.has n]
theorem nat_ne {a b : Nat} (h : a ≠ b) : (Lit.int .i64 (a : Int)) ≠ Lit.int .i64 (b : Int) := fun e => h (by injection e with _ e; exact Int.ofNat.inj e)
theorem NotedAt.put {w : World} {b : Nat} {l : List Nat} (h : NotedAt w b l) {n : Nat} (hn : n ≤ 9223372036854775807) (hl : l.length ≤ 100000) (hno : n ∉ l) :
    ∃ w', (Instr.mapUpdate tMs (.map (some b)) (.int .i64 n) (.agg #[])).run Tryz.prog w = .ok () w' ∧ NotedAt w' b (l ++ [n]) ∧ Disk.Chg (· = b) w w' := by
  obtain ⟨D, hm, hr⟩ := h
  have kk : WideAt.IsKeyLit (Lit.int .i64 (n : Int)) := trivial
  obtain ⟨w', hrun, ho, ht⟩ := hm.store intKeyed Tryz.underlying114 (by unfold maxLen; omega) (Maps.keyOf_int_mk Tryz.underlying3 (wf_nat hn)) (val := .agg #[]) (d := .agg []) (ps := []) unitElem_mk
  refine ⟨w', hrun, ⟨D.put (.int .i64 n) (.agg []), ?_, ⟨?_, fun k => ?_⟩⟩, ?_⟩
  · rw [List.length_append, List.length_singleton]
    exact ho
  · rw [Maps.size_put (hm.tidy intKeyed), hr.has n, decide_eq_false hno, hr.size, List.length_append]
    rfl
  · by_cases e : k = n
    · subst e
      rw [Maps.has_put_same hm.isMap kk]
      simp
    · rw [Maps.has_put_other (nat_ne e), hr.has k]
      simp [e]
  · obtain ⟨es, clock, es', clock', hb, rfl⟩ := ht
    refine ⟨rfl, rfl, rfl, by simp [ChangeMaps.setBlock], fun k _ hk => ?_⟩
    simp only [ChangeMaps.setBlock, Array.getElem?_setIfInBounds]
    rw [if_neg (fun e => hk e.symm)]

/-- The box of a journal. -/
def jCells (d P salt b : Nat) (J : Jou) : Array Value := #[ptr d, .int .i64 (P : Nat), .int .u64 (salt : Nat), .map (some b), .int .i64 (J.feet : Nat), .int .i64 (J.loose : Nat)]
/-- A journal at j, its set at b, the disk at d: none of them the others'. -/
structure JS (O : Nat → Prop) (d m j b P salt : Nat) (M : Mod) (J : Jou) (w : World) : Prop where
  disk : Sees (fun k => O k ∨ k = j ∨ k = b) d m M w
  box : w.heap[j]? = some (.cells (jCells d P salt b J) tJo (0, 0))
  set : NotedAt w b J.noted
  ne : j ≠ b
  oj : ¬ O j
  ob : ¬ O b
variable {O : Nat → Prop} {d m j b P salt : Nat} {M : Mod} {J : Jou} {w w' : World}
theorem JS.on (h : JS O d m j b P salt M J w) (hb : Below w.heap.size w w') : JS O d m j b P salt M J w' :=
  ⟨h.disk.kept hb, (hb.block _ (lt_of_block h.box)).trans h.box, h.set.apart (F := fun _ => False) (Disk.Chg.of_below hb) (fun x => x), h.ne, h.oj, h.ob⟩
/-- Behind a call of the disk alone. -/
theorem JS.over {M' : Mod} (h : JS O d m j b P salt M J w) (hd : Sees (fun k => O k ∨ k = j ∨ k = b) d m M' w') (hs : Stays (fun k => O k ∨ k = j ∨ k = b) w w') : JS O d m j b P salt M' J w' :=
  ⟨hd, hs.at h.box (Or.inr (Or.inl rfl)), h.set.apart hs (fun x => x (Or.inr (Or.inr rfl))), h.ne, h.oj, h.ob⟩
theorem fewer {O O' : Nat → Prop} {w w' : World} (h : Stays O w w') (hO : ∀ k, O' k → O k) : Stays O' w w' := Disk.Chg.mono h (fun _ _ hn ho => hn (hO _ ho))
theorem stays_of {O : Nat → Prop} {w w' : World} (h : Below w.heap.size w w') : Stays O w w' := Disk.Chg.of_below h
/-- Where the others' own blocks turn. -/
theorem sees_side {O F : Nat → Prop} {d m : Nat} {M : Mod} {w w' : World} (h : Sees O d m M w) (hc : Disk.Chg F w w') (hF : ∀ k, F k → k < w.heap.size → O k) : Sees O d m M w' := by
  obtain ⟨tag, L, D, hL, hN, hs⟩ := h
  have hc2 : Disk.Chg (fun k => F k ∧ k < w.heap.size) w w' := hc.mono (fun k hk e => ⟨e, hk⟩)
  exact ⟨tag, L, D.kept hc2 (fun _ _ => rfl) (fun k hk => hN k (hF k hk.1 hk.2)), hL, hN, fun k hk => Nat.lt_of_lt_of_le (hs k hk) hc.size⟩
/-- The others' blocks lie below the heap's end. -/
theorem JS.olt (h : JS O d m j b P salt M J w) {k : Nat} (hk : O k) : k < w.heap.size := by
  obtain ⟨tag, L, D, hL, hN, hs⟩ := h.disk
  exact hs k (Or.inl hk)
theorem Sees.olt' {O : Nat → Prop} {d m : Nat} {M : Mod} {w : World} (h : Sees O d m M w) {k : Nat} (hk : O k) : k < w.heap.size := by
  obtain ⟨tag, L, D, hL, hN, hs⟩ := h
  exact hs k hk

end Jo
end Go.Proofs.YtpdpjgeoclilhaaGreat

/-
  Contracts of the journal's small calls: record, foot, lay, drop, Start, Has.
-/
namespace Go.Proofs.YtpdpjgeoclilhaaGreat
open Go.RowKit Go.Shelf
namespace Jo
open Num (hid fixF)
open Disk (Mod Fil Sees Stays ptr blk_cell blk_free blk_new)
open Seal (fx fx_size fixed4 zerosS zerosS_size zerosL sealS sealS_list sealS_size closeS closeE close_any fit_is wp_region_quiet_in)

theorem extra : Builder.Extra Tryz.prog Tryz.repeatH_ren where
  sizeBuilder := by kernel_rfl
  liesBuilder := by kernel_rfl
  t5 := Tryz.repeatH.t5
  a5 := Tryz.repeatH.a5
  z5 := Tryz.repeatH.z5
  v5 := Tryz.repeatH.v5
  infoByte := by kernel_rfl
  cellsByte := by kernel_rfl
  sizeByte := by kernel_rfl
  neB5 := by decide
theorem repeat_is : Tryz.repeatH_ren.f 105 = 101 := by kernel_rfl
theorem repeat_224 (w : World) :
    Calls Tryz.prog 101 #[.string ⟨#[0]⟩, .int .i64 224] w fun e w' => e = .returned (.string (zerosS 224)) ∧ Below w.heap.size w w' := by
  have h := Any.strings_Repeat Tryz.repeatH extra ⟨#[0]⟩ 224 w (by omega) (by show 1 * 224 ≤ _; omega)
  rw [repeat_is] at h
  have e : Lib.repeatL (⟨#[0]⟩ : ByteArray).data.toList 224 = zerosL 224 := by
    have := Lib.repeatL_replicate 0 1 224
    rw [Nat.mul_one] at this
    exact this
  rw [e] at h
  exact h

/-- A sealed sector ahead of its closing. -/
def sV (K N S : Nat) (d : ByteArray) : Value := .agg #[.int .i64 (K : Nat), .int .i64 (N : Nat), .int .u64 (S : Nat), .string d]
def footS (p k : Nat) : ByteArray := fx 4 p ++ fx 4 k ++ zerosS 224
theorem footS_list (p k : Nat) : (footS p k).data.toList = footL p k := by
  unfold footS footL zerosS zerosL fx
  simp
theorem footS_size (p k : Nat) : (footS p k).size = 232 := by unfold footS; simp only [ByteArray.size_append, fx_size, zerosS_size]

set_option maxRecDepth 100000 in
set_option maxHeartbeats 1000000 in
theorem record_any (n S : Nat) (d : ByteArray) (w : World) :
    Calls Tryz.prog 72 #[.int .i64 (n : Nat), .string d, .int .u64 (S : Nat)] w fun e w' => e = .returned (sV 2 n S d) ∧ Below w.heap.size w w' := by
  go_enter Tryz.func72, Tryz.ntmps72
  go_wp2
  exact bodyPost_ret (v := sV 2 n S d) (by simp [results, sV, go_sem]) rfl ⟨rfl, (Below.refl _ _).alloc (Nat.le_refl _) _⟩

set_option maxRecDepth 100000 in
set_option maxHeartbeats 1000000 in
theorem foot_any (r p k S : Nat) (hp : p < 9223372036854775807) (hk : k < 9223372036854775807) (w : World) :
    Calls Tryz.prog 73 #[.int .i64 (r : Nat), .int .i64 (p : Nat), .int .i64 (k : Nat), .int .u64 (S : Nat)] w fun e w' => e = .returned (sV 3 r S (footS p k)) ∧ Below w.heap.size w w' := by
  have hp64 : IntKind.u64.wrap (p : Int) = (p : Int) := Seal.u64_nat p (by omega)
  have hk64 : IntKind.u64.wrap (k : Int) = (k : Int) := Seal.u64_nat k (by omega)
  have HP : Hid (p < 18446744073709551616) := hid (by omega)
  have HK : Hid (k < 18446744073709551616) := hid (by omega)
  clear hp hk
  have z1 : ¬ 9223372036854775807 < (fx 4 p).size + (fx 4 k).size := by rw [fx_size, fx_size]; decide
  have z2 : ¬ 9223372036854775807 < (fx 4 p).size + (fx 4 k).size + (zerosS 224).size := by rw [fx_size, fx_size, zerosS_size]; decide
  have z3 : wrap64 (232 - (((fx 4 p).size : Int) + ((fx 4 k).size : Int))) = 224 := by rw [fx_size, fx_size, Num.wrap_i]; omega
  go_enter Tryz.func73, Tryz.ntmps73
  go_wp2_with fail
  refine (fixed4 p HP.out _).mono ?_
  rintro e w1 ⟨rfl, hb1⟩
  have C1 := hid ((Seal.cls_new w 0 0 0 ⟨#[]⟩).on hb1)
  clear hb1
  go_wp2_with fail
  refine (fixed4 k HK.out _).mono ?_
  rintro e w2 ⟨rfl, hb2⟩
  have C2 := hid (C1.out.on hb2)
  clear hb2 C1
  go_wp2_with fail
  refine (repeat_224 _).mono ?_
  rintro e w3 ⟨rfl, hb3⟩
  have C3 := C2.out.on hb3
  obtain ⟨k0, k1, k2, k3, y0, y1, y2, y3, ys⟩ := Seal.nought C3
  have B := C3.below
  clear C2 C3 hb3
  go_wp2
  exact bodyPost_ret (v := sV 3 r S (footS p k)) (by simp [results, sV, footS, go_sem, k0, k1, k2, k3]) rfl ⟨rfl, (((B.setCell (Nat.le_refl _) _).setCell (Nat.le_refl _) _).setCell (Nat.le_refl _) _).setCell (Nat.le_refl _) _⟩

end Jo
end Go.Proofs.YtpdpjgeoclilhaaGreat

/-
  Contracts of lay, drop, Start, Has: a sector behind all others; no journal any more; a journal begins; what was noted.
-/
namespace Go.Proofs.YtpdpjgeoclilhaaGreat
open Go.RowKit Go.Shelf
namespace Jo
open Num (hid fixF)
open Disk (Mod Fil Sees Stays ptr blk_cell blk_free blk_new size_sees write_sees drop_sees)
open Seal (sealS sealS_list sealS_size closeS closeE close_any fit_is)
variable {O : Nat → Prop} {d m j b P salt : Nat} {M : Mod} {J : Jou} {w : World}

def jS : ByteArray := ⟨#[106, 111, 117, 114, 110, 97, 108]⟩
def dS : ByteArray := ⟨#[100, 97, 116, 97]⟩
theorem jS_list : jS.data.toList = jn := rfl
theorem dS_list : dS.data.toList = dn := rfl
theorem size_jn {O : Nat → Prop} (h : Sees O d m M w) : Calls Tryz.prog 21 #[ptr d, .string jS] w fun e w' => e = .returned (.int .i64 (M.size jn)) ∧ w = w' := size_sees h jS (by decide)
theorem size_dn {O : Nat → Prop} (h : Sees O d m M w) : Calls Tryz.prog 21 #[ptr d, .string dS] w fun e w' => e = .returned (.int .i64 (M.size dn)) ∧ w = w' := size_sees h dS (by decide)
/-- The write of a sealed sector behind all others. -/
theorem write_lay {O : Nat → Prop} (h : Sees O d m M w) (K N S : Nat) (dd : ByteArray) (hd : dd.size = 232) :
    Calls Tryz.prog 60 #[ptr d, .string jS, .int .i64 (max (M.size jn) 0), .string (sealS K N S dd)] w fun e w' => e = .returned (.int .i64 (layM (Seal.sealL K N S dd.data.toList) M).1) ∧ Sees O d m (layM (Seal.sealL K N S dd.data.toList) M).2 w' ∧ Stays O w w' := by
  have := write_sees h jS (by decide) (max (M.size jn) 0) (sealS K N S dd) (by rw [sealS_size, hd]; decide)
  rw [sealS_list, jS_list] at this
  exact this
theorem close_is (K N S : Nat) (hK : K < 4294967296) (hN : N < 4294967296) (hS : S < 18446744073709551616) (dd : ByteArray) (hd : dd.size = 232) (w : World) :
    Calls Tryz.prog 99 #[sV K N S dd] w fun e w' => e = .returned (.tuple #[.string (sealS K N S dd), .int .i64 0]) ∧ Below w.heap.size w w' := by
  have h := close_any (K : Int) (N : Int) S hS dd w
  obtain ⟨e1, e2⟩ := fit_is K N S dd hK hN hd
  rw [e1, e2] at h
  exact h

set_option maxRecDepth 100000 in
set_option maxHeartbeats 2000000 in
theorem lay_any (h : JS O d m j b P salt M J w) (K N S : Nat) (hK : K < 4294967296) (hN : N < 4294967296) (hS : S < 18446744073709551616) (dd : ByteArray) (hd : dd.size = 232) :
    Calls Tryz.prog 71 #[ptr j, sV K N S dd] w fun e w' => e = .returned (.int .i64 (layM (Seal.sealL K N S dd.data.toList) M).1) ∧ JS O d m j b P salt (layM (Seal.sealL K N S dd.data.toList) M).2 J w' ∧ Stays O w w' := by
  have hc := close_is K N S hK hN hS dd hd
  have HC := hid hc
  have HD := hid hd
  have H := hid h
  clear hc hd h hK hN hS
  unfold sV at HC ⊢
  go_enter Tryz.func71, Tryz.ntmps71
  go_wp2_with fail
  refine (HC.out _).mono ?_
  rintro e w1 ⟨rfl, hb1⟩
  have B1 : Below w.heap.size w w1 := ((Below.refl _ _).alloc (Nat.le_refl _) _).trans (hb1.mono (by simp))
  have H1 := hid (H.out.on B1)
  have HB := hid B1
  have C0 : ∀ wx, Below w1.heap.size w1 wx → wx.cell? ⟨j, 0, none⟩ = some (ptr d) := fun wx hx => blk_cell (H1.out.on hx).box 0
  have D0 := hid C0
  clear hb1 B1 C0
  go_wp2_with fail
  refine Tail.wp_region_quiet_tail 11 (fun wx => Below w1.heap.size w1 wx) (by kernel_rfl) (by kernel_rfl) (Below.refl _ w1).drew ?_
  simp only [List.take_succ_cons, List.take_zero, List.drop_succ_cons, List.drop_zero]
  go_big_quiet_want
  go_big_quiet_op
  go_big_quiet_on
  go_big_quiet_want
  go_big_quiet_op
  apply Exists.intro
  refine ⟨fun _ _ => ?_, ?_⟩
  · with_reducible exact Eq.refl _
  go_big_quiet_on
  go_big_quiet_want
  go_big_quiet_op
  apply Exists.intro
  refine ⟨fun _ _ => ?_, ?_⟩
  · with_reducible exact Eq.refl _
  go_big_quiet_on
  go_big_quiet_want
  go_big_quiet_op
  refine ⟨ptr d, fun wx hx => ?_, ?_⟩
  · have c := D0.out wx hx
    simp [go_sem, c]
  go_big_quiet_on
  go_big_quiet_want
  go_big_quiet_op
  go_big_quiet_on
  go_big_quiet_want
  go_big_quiet_op
  apply Exists.intro
  refine ⟨fun _ _ => ?_, ?_⟩
  · with_reducible exact Eq.refl _
  go_big_quiet_on
  go_big_quiet_want
  go_big_quiet_op
  apply Exists.intro
  refine ⟨fun _ _ => ?_, ?_⟩
  · with_reducible exact Eq.refl _
  go_big_quiet_on
  go_big_quiet_want
  go_big_quiet_op
  refine ⟨ptr d, fun wx hx => ?_, ?_⟩
  · have c := D0.out wx hx
    simp [go_sem, c]
  go_big_quiet_on
  go_big_quiet_want
  go_big_quiet_op
  refine ⟨.int .i64 (M.size jn), fun wx hx => ?_, ?_⟩
  · refine (size_jn ((H1.out.on hx).disk)).mono ?_
    rintro e w9 ⟨rfl, rfl⟩
    exact ⟨rfl, hx⟩
  go_big_quiet_on
  go_big_quiet_want
  go_big_quiet_op
  refine ⟨.int .i64 (max (M.size jn) 0), fun wx hx => ?_, ?_⟩
  · simp [go_sem]
  go_big_quiet_on
  go_big_quiet_want
  go_big_quiet_op
  go_big_quiet_on
  refine wpQuiet_nil ?_
  intro w2 hb2
  have H2 := hid (H1.out.on hb2)
  have HB2 := hid hb2
  clear hb2
  go_wp2_with fail
  refine (write_lay H2.out.disk K N S dd HD.out).mono ?_
  rintro e w3 ⟨rfl, hS3, hSt⟩
  have H3 := hid (H2.out.over hS3 hSt)
  have HT := hid ((stays_of (O := O) HB.out).trans ((stays_of (O := O) HB2.out).trans (fewer hSt (fun k hk => Or.inl hk))))
  clear hS3 hSt
  go_wp2
  go_ret
  exact ⟨rfl, H3.out, HT.out⟩

theorem drop_jn {O : Nat → Prop} (h : Sees O d m M w) : Calls Tryz.prog 30 #[ptr d, .string jS] w fun e w' => e = .returned (.int .i64 (M.drop jn).1) ∧ Sees O d m (M.drop jn).2 w' ∧ Stays O w w' := drop_sees h jS (by decide)
set_option maxRecDepth 100000 in
theorem drop_any {O : Nat → Prop} (h : Sees O d m M w) :
    Calls Tryz.prog 53 #[ptr d] w fun e w' => e = .returned (.int .i64 (dropM M).1) ∧ Sees O d m (dropM M).2 w' ∧ Stays O w w' := by
  have H := hid h
  clear h
  by_cases hs : M.size jn < 0
  · have e : dropM M = (0, M) := if_pos hs
    rw [e]
    have HE := hid e
    clear e
    go_enter Tryz.func53, Tryz.ntmps53
    go_wp2_with fail
    refine (size_jn H.out).mono ?_
    rintro e w1 ⟨rfl, rfl⟩
    go_wp2
    go_ret
    exact ⟨rfl, H.out, Disk.Stays.refl _ _⟩
  · have e : dropM M = M.drop jn := if_neg hs
    rw [e]
    have HE := hid e
    clear e
    go_enter Tryz.func53, Tryz.ntmps53
    go_wp2_with fail
    refine (size_jn H.out).mono ?_
    rintro e w1 ⟨rfl, rfl⟩
    go_wp2_with fail
    refine (drop_jn H.out).mono ?_
    rintro e w2 ⟨rfl, h2, hs2⟩
    have H2 := hid h2
    have HS2 := hid hs2
    clear h2 hs2
    go_wp2
    go_ret
    exact ⟨rfl, H2.out, HS2.out⟩

end Jo
end Go.Proofs.YtpdpjgeoclilhaaGreat

/-
  Contracts of Start, Has, Note, Seal, End.
-/
namespace Go.Proofs.YtpdpjgeoclilhaaGreat
open Go.RowKit Go.Shelf
namespace Jo
open Num (hid fixF)
open Disk (Mod Fil Sees Stays ptr blk_cell blk_free blk_new blk_set blk_other blk_alloc sync_sees)
open Seal (sealS sealS_list sealS_size)
variable {O : Nat → Prop} {d m j b P salt : Nat} {M : Mod} {J : Jou} {w : World}

/-- What Start makes. -/
def Started (O : Nat → Prop) (d m P salt : Nat) (M : Mod) (w : World) (e : Ending) (w' : World) : Prop := ∃ j b, e = .returned (.tuple #[ptr j, .int .i64 0]) ∧ JS O d m j b P salt M j0 w' ∧ Below w.heap.size w w' ∧ w.heap.size ≤ j ∧ w.heap.size ≤ b
theorem js_new (h : Sees O d m M w) (P salt : Nat) : JS O d m (w.heap.size + 1) w.heap.size P salt M j0 ((w.alloc (.map #[] 0)).alloc (.cells (jCells d P salt w.heap.size j0) tJo)) ∧ Below w.heap.size w ((w.alloc (.map #[] 0)).alloc (.cells (jCells d P salt w.heap.size j0) tJo)) := by
  have hb : Below w.heap.size w ((w.alloc (.map #[] 0)).alloc (.cells (jCells d P salt w.heap.size j0) tJo)) := ((Below.refl _ _).alloc (Nat.le_refl _) _).alloc (by simp) _
  have e1 : (w.alloc (.map #[] 0)).heap.size = w.heap.size + 1 := by simp
  refine ⟨⟨(h.more hb).fewer ?_, ?_, ?_, by omega, fun hO => ?_, fun hO => ?_⟩, hb⟩
  · rintro k (hk | rfl | rfl)
    · exact Or.inl hk
    · exact Or.inr ⟨by omega, by simp⟩
    · exact Or.inr ⟨Nat.le_refl _, by simp; omega⟩
  · have := blk_new (w.alloc (.map #[] 0)) (.cells (jCells d P salt w.heap.size j0) tJo)
    rwa [e1] at this
  · exact (NotedAt.new w).apart (F := fun _ => False) ((Disk.Chg.refl _ _).alloc _) (fun x => x)
  · have := Sees.olt' h hO; omega
  · have := Sees.olt' h hO; omega
set_option maxRecDepth 100000 in
set_option maxHeartbeats 1000000 in
theorem start_any (h : Sees O d m M w) (hP : P ≤ 4096) (hs : M.size jn < 0) :
    Calls Tryz.prog 31 #[ptr d, .int .i64 (P : Nat), .int .u64 (salt : Nat)] w (Started O d m P salt M w) := by
  have hmk := run_makeMap (P := Tryz.prog) tMs w
  have H := hid h
  have hP1 : (P : Int) ≤ 4096 := by omega
  clear h hP
  go_enter Tryz.func31, Tryz.ntmps31
  go_wp2_with fail
  refine (size_jn H.out).mono ?_
  rintro e w1 ⟨rfl, rfl⟩
  go_wp2
  go_ret2
  obtain ⟨h1, h2⟩ := js_new H.out P salt
  exact ⟨_, _, rfl, h1, h2, Nat.le_succ _, Nat.le_refl _⟩
set_option maxRecDepth 100000 in
set_option maxHeartbeats 1000000 in
theorem start_state (h : Sees O d m M w) (hP : P ≤ 4096) (hs : 0 ≤ M.size jn) :
    Calls Tryz.prog 31 #[ptr d, .int .i64 (P : Nat), .int .u64 (salt : Nat)] w fun e w' => e = .returned (.tuple #[.pointer none, .int .i64 40]) ∧ w = w' := by
  have H := hid h
  have hP1 : (P : Int) ≤ 4096 := by omega
  clear h hP
  go_enter Tryz.func31, Tryz.ntmps31
  go_wp2_with fail
  refine (size_jn H.out).mono ?_
  rintro e w1 ⟨rfl, rfl⟩
  go_wp2
  go_ret2
  exact ⟨rfl, rfl⟩

set_option maxRecDepth 100000 in
set_option maxHeartbeats 1000000 in
theorem has_any (h : JS O d m j b P salt M J w) (n : Nat) (hn : n ≤ 9223372036854775807) :
    Calls Tryz.prog 34 #[ptr j, .int .i64 (n : Nat)] w fun e w' => e = .returned (.bool (decide (n ∈ J.noted))) ∧ Below w.heap.size w w' := by
  have hlk := h.set.look hn
  have c3 : w.cell? ⟨j, 3, none⟩ = some (.map (some b)) := blk_cell h.box 3
  have hz : w.heap.size < w.heap.size + 1 := by omega
  clear h hn
  go_enter Tryz.func34, Tryz.ntmps34
  go_wp2
  go_ret
  exact ⟨rfl, (Below.refl _ _).alloc (Nat.le_refl _) _⟩

set_option maxRecDepth 100000 in
theorem end_any (h : JS O d m j b P salt M J w) :
    Calls Tryz.prog 35 #[ptr j] w fun e w' => e = .returned (.int .i64 (dropM M).1) ∧ JS O d m j b P salt (dropM M).2 J w' ∧ Stays O w w' := by
  have c0 : w.cell? ⟨j, 0, none⟩ = some (ptr d) := blk_cell h.box 0
  have H := hid h
  clear h
  go_enter Tryz.func35, Tryz.ntmps35
  go_wp2_with fail
  refine (drop_any H.out.disk).mono ?_
  rintro e w2 ⟨rfl, h2, hs2⟩
  have H2 := hid (H.out.over h2 hs2)
  have HS2 := hid (fewer hs2 (fun k hk => (Or.inl hk : O k ∨ k = j ∨ k = b)))
  clear h2 hs2 c0
  go_wp2
  go_ret
  exact ⟨rfl, H2.out, HS2.out⟩

theorem js_noted (h : JS O d m j b P salt M J w) {w2 : World} {l : List Nat} (hset : NotedAt w2 b l) (hc : Disk.Chg (· = b) w w2) (v : Nat) :
    JS O d m j b P salt M ⟨l, J.feet, v⟩ (w2.setCell ⟨j, 5, none⟩ (.int .i64 (v : Nat))) ∧ Stays O w (w2.setCell ⟨j, 5, none⟩ (.int .i64 (v : Nat))) := by
  have hbox : w2.heap[j]? = some (.cells (jCells d P salt b J) tJo (0, 0)) := hc.at h.box h.ne
  have hc3 : Disk.Chg (fun k => k = j ∨ k = b) w (w2.setCell ⟨j, 5, none⟩ (.int .i64 (v : Nat))) := Disk.Chg.setCell (F := fun k => k = j ∨ k = b) (p := ⟨j, 5, none⟩) (hc.mono (fun _ _ e => Or.inr e)) (Or.inr (Or.inl rfl)) _
  refine ⟨⟨sees_side h.disk hc3 (fun k hk _ => ?_), ?_, ?_, h.ne, h.oj, h.ob⟩, hc3.mono (fun k _ hk hO => ?_)⟩
  · rcases hk with e | e
    · exact Or.inr (Or.inl e)
    · exact Or.inr (Or.inr e)
  · have := blk_set hbox 5 (.int .i64 (v : Nat))
    simpa [jCells] using this
  · exact hset.apart (F := (· = j)) (Disk.Chg.setCell (F := (· = j)) (p := ⟨j, 5, none⟩) (Disk.Chg.refl _ _) (Or.inr rfl) _) (fun e => h.ne e.symm)
  · rcases hk with e | e
    · exact h.oj (e ▸ hO)
    · exact h.ob (e ▸ hO)
set_option maxRecDepth 100000 in
set_option maxHeartbeats 2000000 in
theorem note_any (h : JS O d m j b P salt M J w) (hP : P ≤ 4096) (hs : salt < 18446744073709551616) (hl : J.loose ≤ 100000) (hll : J.noted.length ≤ 100000) (n : Nat) (hn : n < P) (dd : ByteArray) (hd : dd.size = 232) :
    Calls Tryz.prog 32 #[ptr j, .int .i64 (n : Nat), .string dd] w fun e w' => e = .returned (.int .i64 (noteM salt J n dd.data.toList M).1) ∧ JS O d m j b P salt (noteM salt J n dd.data.toList M).2.2 (noteM salt J n dd.data.toList M).2.1 w' ∧ Stays O w w' := by
  have hd1 : ((dd.size : Int) != 232) = false := by simp; omega
  have hn1 : (n : Int) < (P : Int) := by omega
  have hn2 : ¬ (P : Int) ≤ (n : Int) := by omega
  have c1 : w.cell? ⟨j, 1, none⟩ = some (.int .i64 (P : Nat)) := blk_cell h.box 1
  have hhas := has_any h n (by omega)
  by_cases hm : n ∈ J.noted
  · have e : noteM salt J n dd.data.toList M = (0, J, M) := if_pos hm
    rw [e]
    rw [decide_eq_true hm] at hhas
    have HH := hid hhas
    have H := hid h
    have HE := hid e
    clear hhas h e hm hP hs hl hll hd hn
    go_enter Tryz.func32, Tryz.ntmps32
    go_wp2_with fail
    refine HH.out.mono ?_
    rintro e w1 ⟨rfl, hb1⟩
    have H1 := hid (H.out.on hb1)
    have HS := hid (stays_of (O := O) hb1)
    clear hb1
    go_wp2
    go_ret
    exact ⟨rfl, H1.out, HS.out⟩
  · rw [decide_eq_false hm] at hhas
    obtain ⟨X, hX⟩ : ∃ X, layM (Seal.sealL 2 n salt dd.data.toList) M = X := ⟨_, rfl⟩
    have hX2 : layM (recL salt n dd.data.toList) M = X := hX
    by_cases he : X.1 = 0
    · have e : noteM salt J n dd.data.toList M = (0, ⟨J.noted ++ [n], J.feet, J.loose + 1⟩, X.2) := by
        unfold noteM
        rw [if_neg hm, hX2, if_neg (by rw [he]; decide)]
      rw [e]
      have he1 : (X.1 != 0) = false := by rw [he]; rfl
      have hw1 : wrap64 ((J.loose : Int) + 1) = ((J.loose + 1 : Nat) : Int) := by rw [Num.wrap_i]; omega
      have HX := hid hX
      clear e he hX hX2
      have HH := hid hhas
      have H := hid h
      have HM := hid hm
      have HP := hid hP
      have HSA := hid hs
      have HL := hid hl
      have HLL := hid hll
      have HD := hid hd
      have HN := hid hn
      clear hhas h hm hP hs hl hll hd hn
      go_enter Tryz.func32, Tryz.ntmps32
      go_wp2_with fail
      refine HH.out.mono ?_
      rintro e w1 ⟨rfl, hb1⟩
      have H1 := hid (H.out.on hb1)
      have HS := hid (stays_of (O := O) hb1)
      have c2 : w1.cell? ⟨j, 2, none⟩ = some (.int .u64 (salt : Nat)) := blk_cell H1.out.box 2
      clear hb1 c1
      go_wp2_with fail
      refine (record_any n salt dd _).mono ?_
      rintro e w2 ⟨rfl, hb2⟩
      have H2 := hid (H1.out.on hb2)
      have HS2 := hid (HS.out.trans (stays_of (O := O) hb2))
      clear hb2 c2
      go_wp2_with fail
      refine (lay_any H2.out 2 n salt (by decide) (by have := HN.out; have := HP.out; omega) HSA.out dd HD.out).mono ?_
      rintro e w3 ⟨rfl, h3, hs3⟩
      have H3 := hid h3
      have HS3 := hid (HS2.out.trans hs3)
      clear h3 hs3
      rw [HX.out] at H3 ⊢
      obtain ⟨w4, hrun, hset, hc4⟩ := H3.out.set.put (n := n) (by have := HN.out; have := HP.out; omega) HLL.out HM.out
      have c3 : w3.cell? ⟨j, 3, none⟩ = some (.map (some b)) := blk_cell H3.out.box 3
      have hbox4 := hc4.at H3.out.box H3.out.ne
      have c5 : w4.cell? ⟨j, 5, none⟩ = some (.int .i64 (J.loose : Nat)) := blk_cell hbox4 5
      have f5 : w4.frozen? ⟨j, 5, none⟩ = false := blk_free hbox4 5
      have HF := hid (js_noted H3.out hset hc4 (J.loose + 1))
      clear hset hc4 hbox4
      go_wp2
      go_ret
      exact ⟨rfl, HF.out.1, HS3.out.trans HF.out.2⟩
    · have e : noteM salt J n dd.data.toList M = (X.1, J, X.2) := by
        unfold noteM
        rw [if_neg hm, hX2, if_pos he]
      rw [e]
      have he1 : (X.1 != 0) = true := by simp [he]
      have HX := hid hX
      clear e he hX hX2
      have HH := hid hhas
      have H := hid h
      have HM := hid hm
      have HP := hid hP
      have HSA := hid hs
      have HL := hid hl
      have HLL := hid hll
      have HD := hid hd
      have HN := hid hn
      clear hhas h hm hP hs hl hll hd hn
      go_enter Tryz.func32, Tryz.ntmps32
      go_wp2_with fail
      refine HH.out.mono ?_
      rintro e w1 ⟨rfl, hb1⟩
      have H1 := hid (H.out.on hb1)
      have HS := hid (stays_of (O := O) hb1)
      have c2 : w1.cell? ⟨j, 2, none⟩ = some (.int .u64 (salt : Nat)) := blk_cell H1.out.box 2
      clear hb1 c1
      go_wp2_with fail
      refine (record_any n salt dd _).mono ?_
      rintro e w2 ⟨rfl, hb2⟩
      have H2 := hid (H1.out.on hb2)
      have HS2 := hid (HS.out.trans (stays_of (O := O) hb2))
      clear hb2 c2
      go_wp2_with fail
      refine (lay_any H2.out 2 n salt (by decide) (by have := HN.out; have := HP.out; omega) HSA.out dd HD.out).mono ?_
      rintro e w3 ⟨rfl, h3, hs3⟩
      have H3 := hid h3
      have HS3 := hid (HS2.out.trans hs3)
      clear h3 hs3
      rw [HX.out] at H3 ⊢
      go_wp2
      go_ret
      exact ⟨rfl, H3.out, HS3.out⟩

end Jo
end Go.Proofs.YtpdpjgeoclilhaaGreat
