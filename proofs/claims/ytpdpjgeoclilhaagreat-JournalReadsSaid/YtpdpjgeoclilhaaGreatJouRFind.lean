/-
  Contract of the reference's Find: it tells what the project's tells.
-/
import Derived.Test.YtpdpjgeoclilhaaGreatGrpJRf
import Derived.Test.YtpdpjgeoclilhaaGreatGrpJSea
import Derived.BigQuiet
import Derived.Test.YtpdpjgeoclilhaaGreatQuietTail
namespace Go.Proofs.YtpdpjgeoclilhaaGreat
open Go.RowKit Go.Shelf
namespace Jo
open Num (hid unfixL runfixed_any)
open Disk (Mod Fil Plc Sees Stays Ctl)
open Seal (openV openE ropen_any zeroV full full_size full_any)
open Mem (Bs bs tS ptr blk_cell blk_free blk_new blk_set blk_other blk_alloc row_kept row_shape row_type wpList_append_run copy_row)
open Ref (Refs RSees)
attribute [local go_sem] Oper.semAt_some

/-- Two rows of the call's own beside the reference's disk. -/
structure RM (R0 : Nat → Prop) (r : Nat) (w0 : World) (M : Mod) (l s : List Rec) (v u : Value) (wr : World) : Prop where
  rj : RJ R0 (fun q => v.ownBlock = some q ∨ u.ownBlock = some q) r M w0 wr
  row : wr.ownsRow 0 tPg 2 v l.length (l.flatMap pV)
  sure : wr.ownsRow 0 tPg 2 u s.length (s.flatMap pV)
  ne : ∀ q, v.ownBlock = some q → u.ownBlock ≠ some q
  new : ∀ q, (v.ownBlock = some q ∨ u.ownBlock = some q) → w0.heap.size ≤ q
variable {R0 : Nat → Prop} {r : Nat} {w0 wr w2 : World} {M M' : Mod} {l s : List Rec} {v u : Value}
theorem RM.hX (h : RM R0 r w0 M l s v u wr) : ∀ q, (v.ownBlock = some q ∨ u.ownBlock = some q) → q < wr.heap.size := fun q hq => hq.elim (fun e => (h.row.lt q e).2) (fun e => (h.sure.lt q e).2)
theorem RM.on (h : RM R0 r w0 M l s v u wr) (hb : Below wr.heap.size wr w2) : RM R0 r w0 M l s v u w2 :=
  ⟨h.rj.on hb, row_kept h.row (F := fun _ => False) (Mem.Chg.of_below hb) (fun _ _ x => x), row_kept h.sure (F := fun _ => False) (Mem.Chg.of_below hb) (fun _ _ x => x), h.ne, h.new⟩
theorem RM.to (h : RM R0 r w0 M l s v u wr) (h1 : RJ R0 (fun q => v.ownBlock = some q ∨ u.ownBlock = some q) r M' w0 w2) (h2 : Disk.Chg (fun q => ¬ (v.ownBlock = some q ∨ u.ownBlock = some q)) wr w2) : RM R0 r w0 M' l s v u w2 :=
  ⟨h1, row_kept h.row (toMem h2) (fun _ hq hx => hx (Or.inl hq)), row_kept h.sure (toMem h2) (fun _ hq hx => hx (Or.inr hq)), h.ne, h.new⟩
theorem RM.push {v' : Value} {x : Rec} (h : RM R0 r w0 M l s v u wr) (ho : w2.ownsRow 0 tPg 2 v' (l ++ [x]).length ((l ++ [x]).flatMap pV)) (hc : Mem.Chg (fun q => v.ownBlock = some q) wr w2) (hk : ∀ q, v'.ownBlock = some q → v.ownBlock = some q ∨ wr.heap.size ≤ q) : RM R0 r w0 M (l ++ [x]) s v' u w2 := by
  have hs := h.rj.chg.size
  refine ⟨h.rj.side (toDisk hc) (fun q hq => ⟨Or.inl hq, h.new q (Or.inl hq)⟩) (fun q hq => ?_), ho, row_kept h.sure hc (fun q hq hx => h.ne q hx hq), fun q hq e => ?_, fun q hq => ?_⟩
  · rcases hq with hq | hq
    · exact (hk q hq).imp_left Or.inl
    · exact Or.inl (Or.inr hq)
  · rcases hk q hq with e2 | e2
    · exact h.ne q e2 e
    · have := (h.sure.lt q e).2
      omega
  · rcases hq with hq | hq
    · rcases hk q hq with e2 | e2
      · exact h.new q (Or.inl e2)
      · omega
    · exact h.new q (Or.inr hq)
/-- The row is copied: the copy takes the other row's place. -/
theorem RM.copied {u' : Value} (h : RM R0 r w0 M l s v u wr) (ho : w2.ownsRow 0 tPg 2 u' l.length (l.flatMap pV)) (hc : Mem.Chg (fun q => wr.heap.size ≤ q) wr w2) (hk : ∀ q, u'.ownBlock = some q → wr.heap.size ≤ q) : RM R0 r w0 M l l v u' w2 := by
  have hs := h.rj.chg.size
  have hb : Below wr.heap.size wr w2 := Disk.Chg.below (toDisk hc) (Nat.le_refl _) (fun k hk hx => by omega)
  refine ⟨h.rj.side (F := fun _ => False) (Disk.Chg.of_below hb) (fun _ x => x.elim) (fun q hq => ?_), row_kept h.row (F := fun _ => False) (Mem.Chg.of_below hb) (fun _ _ x => x), ho, fun q hq e => ?_, fun q hq => ?_⟩
  · rcases hq with hq | hq
    · exact Or.inl (Or.inl hq)
    · exact Or.inr (hk q hq)
  · have h1 := (h.row.lt q hq).2
    have h2 := hk q e
    omega
  · rcases hq with hq | hq
    · exact h.new q (Or.inl hq)
    · have := hk q hq
      omega
/-- A row of nothing. -/
theorem row_zero (w : World) (t : TypeId) : (w.alloc (.cells #[] t)).ownsRow 0 t 2 (.slice (some ⟨w.heap.size, 0, none⟩) 0 0) 0 [] :=
  ⟨rfl, Or.inr ⟨w.heap.size, 0, #[], rfl, Nat.zero_le _, blk_new w _, Nat.le_refl _, Nat.zero_le _, rfl, rfl⟩⟩
/-- append([]api.Page{}, list...). -/
theorem copy_pg {w : World} (h : w.ownsRow 0 tPg 2 v l.length (l.flatMap pV)) (hn : l.length ≤ 100000) :
    ∃ u' w', (Builtin.append_ #[tPgs, tPgs] tPgs #[.slice (some ⟨w.heap.size, 0, none⟩) 0 0, v]).run Tryz.prog (w.alloc (.cells #[] tPg)) = .ok u' w' ∧ w'.ownsRow 0 tPg 2 u' l.length (l.flatMap pV) ∧ Mem.Chg (fun q => w.heap.size ≤ q) w w' ∧ ∀ q, u'.ownBlock = some q → w.heap.size ≤ q := by
  obtain ⟨i, hi, h0, h1, h2⟩ := pgInfo
  have hv := row_kept h (F := fun _ => False) (Mem.Chg.of_below (((Below.refl _ w).alloc (Nat.le_refl _) (.cells #[] tPg)))) (fun _ _ x => x)
  obtain ⟨u', w', hr, ho, hc, hk⟩ := copy_row tPgs tPg i _ 2 24 Tryz.underlying36 hi h0 h1 h2 rfl (by decide) (by decide) (row_zero w tPg) hv (fun x hx => by
    obtain ⟨y, _, hy⟩ := List.mem_flatMap.1 hx
    exact pV_one y x hy) (by omega)
  rw [Nat.zero_add, List.nil_append] at ho
  have hown : ∀ q, (Value.slice (some ⟨w.heap.size, 0, none⟩) 0 0).ownBlock = some q → w.heap.size ≤ q := fun q hq => by
    have e : w.heap.size = q := by injection hq
    omega
  refine ⟨u', w', hr, ho, ((Mem.Chg.refl _ w).alloc _).trans (hc.mono (fun q _ hq => hown q hq)), fun q hq => ?_⟩
  rcases hk q hq with e | e
  · exact hown q e
  · simp at e
    omega
/-- What is handed back. -/
def RPost (R0 : Nat → Prop) (r : Nat) (X : Int × Fnd × Mod) (w0 : World) (e : Ending) (w' : World) : Prop :=
  ∃ v, e = .returned (.tuple #[.int .i64 (ansP X : Nat), v, .bool (ansN X), .int .i64 X.1]) ∧ w'.ownsRow 0 tPg 2 v (ansL X).length ((ansL X).flatMap pV) ∧ RJ R0 (fun q => v.ownBlock = some q) r X.2.2 w0 w' ∧ ∀ q, v.ownBlock = some q → w0.heap.size ≤ q
theorem rpost_none {X : Int × Fnd × Mod} (hX : X.1 ≠ 0 ∨ X.2.1.feet = 0) (h : RM R0 r w0 X.2.2 l s v u wr) {e : Int} (hr : e = X.1) : RPost R0 r X w0 (.returned (.tuple #[.int .i64 0, .slice none 0 0, .bool false, .int .i64 e])) wr := by
  have e0 : ansN X = false := decide_eq_false (fun ⟨h1, h2⟩ => hX.elim (fun x => x h1) (fun x => h2 x))
  have e1 : ansP X = 0 := by unfold ansP; rw [e0]; rfl
  have e2 : ansL X = [] := by unfold ansL; rw [e0]; rfl
  subst hr
  refine ⟨.slice none 0 0, by rw [e0, e1]; rfl, ?_, h.rj.side (F := fun _ => False) (Disk.Chg.refl _ _) (fun _ x => x.elim) (fun q hq => by cases hq), fun q hq => by cases hq⟩
  rw [e2]
  exact ⟨rfl, Or.inl ⟨rfl, rfl⟩⟩
theorem rpost_some {X : Int × Fnd × Mod} (h0 : X.1 = 0) (hX : X.2.1.feet ≠ 0) (h : RM R0 r w0 X.2.2 l (X.2.1.recs.take X.2.1.counted) v u wr) : RPost R0 r X w0 (.returned (.tuple #[.int .i64 (X.2.1.pages : Nat), u, .bool true, .int .i64 0])) wr := by
  have e0 : ansN X = true := decide_eq_true ⟨h0, hX⟩
  have e1 : ansP X = X.2.1.pages := by unfold ansP; rw [e0]; rfl
  have e2 : ansL X = X.2.1.recs.take X.2.1.counted := by unfold ansL; rw [e0]; rfl
  refine ⟨u, by rw [e0, e1, h0], ?_, h.rj.side (F := fun _ => False) (Disk.Chg.refl _ _) (fun _ x => x.elim) (fun q hq => Or.inl (Or.inr hq)), fun q hq => h.new q (Or.inr hq)⟩
  rw [e2]
  exact h.sure
theorem unfix4 (d : Bs) (hd : d.length = 232) : unfixL ((bs d).extract 0 4).data.toList = (aN d, 0) := by
  have e : ((bs d).extract 0 4) = bs (d.take 4) := bs_take d 4
  rw [e, Num.unfix_yes (bs (d.take 4)) (by show 1 ≤ (d.take 4).toArray.size; simp; omega) (by show (d.take 4).toArray.size ≤ 8; simp; omega)]
  rfl
theorem extr (d : Bs) (a b : Nat) : (bs d).extract a b = bs ((d.take b).drop a) := by
  apply ByteArray.ext
  simp [bs, ByteArray.data_extract, List.drop_take]
theorem unfix8 (d : Bs) (hd : d.length = 232) : unfixL ((bs d).extract 4 8).data.toList = (bN d, 0) := by
  rw [extr, Num.unfix_yes (bs ((d.take 8).drop 4)) (by show 1 ≤ ((d.take 8).drop 4).toArray.size; simp; omega) (by show ((d.take 8).drop 4).toArray.size ≤ 8; simp; omega)]
  rfl
theorem full8 (d : Bs) (hd : d.length = 232) : full ((bs d).extract 0 8) = bs (d.take 8 ++ List.replicate 224 0) := by
  have e : ((bs d).extract 0 8) = bs (d.take 8) := bs_take d 8
  rw [e]
  have hs : (bs (d.take 8)).size = 8 := by show (d.take 8).toArray.size = 8; simp; omega
  unfold full
  rw [if_neg (by rw [hs]; decide), hs]
  apply ByteArray.ext
  rw [ByteArray.data_append]
  exact List.append_toArray _ _
def fulB (d : Bs) : ByteArray := bs (d.take 8 ++ List.replicate 224 0)
theorem full_eq (d : Bs) : ((fulB d).toList == (bs d).toList) = fullD d := by
  unfold fulB
  have e : ∀ b : ByteArray, b.toList = b.data.toList := fun b => by simpa using ByteArray.toList_eq b
  rw [e, e]
  show ((d.take 8 ++ List.replicate 224 0 : Bs) == d) = _
  unfold fullD
  by_cases h : d.take 8 ++ List.replicate 224 0 = d
  · rw [decide_eq_true h]; simpa using h
  · rw [decide_eq_false h]; simpa using h
/-- What the loop carries. -/
structure RF (R0 : Nat → Prop) (r : Nat) (w0 : World) (M0 : Mod) (n k : Nat) (f : Fnd) (M : Mod) (v u : Value) (wr : World) : Prop where
  mem : RM R0 r w0 M f.recs (f.recs.take f.counted) v u wr
  fk : Fk k f
  run : findM M0 = findN (n - k) k f M
  fs : M.fs = M0.fs
theorem full8_any (d : Bs) (hd : d.length = 232) (w : World) : Calls Tryz.prog 8 #[.string ((bs d).extract 0 8)] w fun e w' => e = .returned (.string (fulB d)) ∧ Below w.heap.size w w' := by
  have := full_any ((bs d).extract 0 8) w
  rw [full8 d hd] at this
  exact this
theorem unfix4_any (d : Bs) (hd : d.length = 232) (w : World) : Calls Tryz.prog 50 #[.string ((bs d).extract 0 4)] w fun e w' => e = .returned (.tuple #[.int .u64 (aN d : Nat), .int .i64 0]) ∧ w = w' := by
  have := runfixed_any ((bs d).extract 0 4) w
  rw [unfix4 d hd] at this
  exact this
theorem unfix8_any (d : Bs) (hd : d.length = 232) (w : World) : Calls Tryz.prog 50 #[.string ((bs d).extract 4 8)] w fun e w' => e = .returned (.tuple #[.int .u64 (bN d : Nat), .int .i64 0]) ∧ w = w' := by
  have := runfixed_any ((bs d).extract 4 8) w
  rw [unfix8 d hd] at this
  exact this
/-- What a good sector makes of it. -/
def goodN (f : Fnd) (K N S : Nat) (d : Bs) : Option Fnd :=
  if f.begun = true ∧ S ≠ f.salt then none
  else if K = 2 then (if 4096 ≤ N then none else some ⟨true, S, f.recs ++ [(N, d)], max f.above (N + 1), f.feet, f.pages, f.counted⟩)
  else if K = 3 then (if rFoot f N d = false then none else some ⟨true, S, f.recs, f.above, f.feet + 1, aN d, f.recs.length⟩)
  else none
theorem good_is {k : Nat} {f : Fnd} (h : Fk k f) (hk : k ≤ 16384) {x : Bs} (hok : okB x = true) : takeF f x = goodN f (kK x) (kN x) (kS x) (kD x) := by
  have hd := kD_len hok
  obtain ⟨r1, r2⟩ := rfoot_is h hk (kN x) (kD x) hd
  have hfo : (if rightFoot f x = false then none else some ⟨true, kS x, f.recs, f.above, f.feet + 1, footP f x, f.recs.length⟩ : Option Fnd) = if rFoot f (kN x) (kD x) = false then none else some ⟨true, kS x, f.recs, f.above, f.feet + 1, aN (kD x), f.recs.length⟩ := by
    have hfp : footP f x = footPd f (kD x) := by unfold footPd footP kD; rw [head_take]
    rw [right_nd, ← r1, hfp]
    cases hb : rFoot f (kN x) (kD x) with
    | false => rfl
    | true => rw [r2 hb]
  unfold takeF goodN
  rw [hok, if_neg (by decide), hfo]
theorem n_ways (N : Nat) : (4096 ≤ N ∧ (4096 : Int) ≤ (N : Int)) ∨ (¬ 4096 ≤ N ∧ ¬ (4096 : Int) ≤ (N : Int)) := by omega
theorem rf_push {f : Fnd} (h : RM R0 r w0 M f.recs (f.recs.take f.counted) v u wr) (hb : f.counted ≤ f.recs.length) (hl : f.recs.length ≤ 100000) (N : Nat) (dd : Bs) :
    ∃ l' ao3 cap3 w5, f.recs ++ [(N, dd)] = l' ∧ l'.length = f.recs.length + 1 ∧ (Builtin.append_ #[tPgs, tPgs] tPgs #[v, .slice (some ⟨wr.heap.size, 0, none⟩) 1 1]).run Tryz.prog (wr.alloc (.cells #[.int .i64 (N : Nat), .string (bs dd)] tPg)) = .ok (.slice ao3 l'.length cap3) w5 ∧ RM R0 r w0 M l' (l'.take f.counted) (.slice ao3 l'.length cap3) u w5 := by
  obtain ⟨v', w5, hr, ho5, hc5, hk5⟩ := push_pg h.row (N, dd) hl
  have H5 := h.push ho5 hc5 hk5
  obtain ⟨ao3, cap3, hv', -⟩ := row_shape ho5
  subst hv'
  refine ⟨_, ao3, cap3, w5, rfl, by rw [List.length_append]; rfl, hr, ?_⟩
  rw [List.take_append_of_le_length hb]
  exact H5
theorem ne_b {a b : Nat} (h : ¬ a = b) : ((a : Int) != (b : Int)) = true := by simp; omega
theorem eq_b {a b : Nat} (h : a = b) : ((a : Int) != (b : Int)) = false := by simp [h]
theorem ne3_b {a : Nat} (h : ¬ a = 3) : ((a : Int) != 3) = true := by simp; omega
theorem gt_b {a : Nat} (h : ¬ a ≤ 4096) : (a : Int) > 4096 := by omega
theorem le_b {a : Nat} (h : a ≤ 4096) : ¬ (a : Int) > 4096 := by omega
theorem pos_b {a : Nat} (h : ¬ a = 0) : (a : Int) > 0 := by omega
theorem npos_b {a : Nat} (h : a = 0) : ¬ (a : Int) > 0 := by omega
theorem wr_b {a : Nat} (h : a ≤ 4096) : wrap64 (a : Int) = (a : Int) := by rw [Num.wrap_i]; omega
/-- A right foot, its parts apart. -/
def rfB (fl : Bool) (N lo B feet A pages : Nat) (al : Bool) : Bool := fl && decide (N = lo) && decide (B = feet) && decide (A ≤ 4096) && (decide (feet = 0) || decide (A = pages)) && al
theorem rfB_true {fl : Bool} {N lo B feet A pages : Nat} {al : Bool} (c1 : fl = true) (c2 : N = lo) (c3 : B = feet) (c4 : A ≤ 4096) (c5 : feet = 0 ∨ A = pages) : rfB fl N lo B feet A pages al = al := by
  unfold rfB
  rw [c1, decide_eq_true c2, decide_eq_true c3, decide_eq_true c4]
  rcases c5 with h | h
  · rw [decide_eq_true h]; rfl
  · rw [decide_eq_true h, Bool.or_true]; rfl
theorem rfB_false {fl : Bool} {N lo B feet A pages : Nat} {al : Bool} (h : fl = false ∨ N ≠ lo ∨ B ≠ feet ∨ ¬ A ≤ 4096 ∨ (feet ≠ 0 ∧ A ≠ pages)) : rfB fl N lo B feet A pages al = false := by
  unfold rfB
  rcases h with h | h | h | h | ⟨h, h'⟩
  · rw [h]; rfl
  · rw [decide_eq_false h, Bool.and_false]; rfl
  · rw [decide_eq_false h, Bool.and_false]; rfl
  · rw [decide_eq_false h, Bool.and_false]; rfl
  · rw [decide_eq_false h, decide_eq_false h', Bool.or_false, Bool.and_false]; rfl
theorem wrap_u64 (n : Nat) (h : n ≤ 1000000) : IntKind.u64.wrap (n : Int) = (n : Int) := by
  simp [IntKind.wrap, IntKind.signed, IntKind.bits]
  omega
theorem fs_size {A B : Mod} (h : A.fs = B.fs) (n : Disk.Nam) : A.size n = B.size n := by unfold Disk.Mod.size; rw [h]
theorem rsize_le {X : Nat → Prop} (h : RJ R0 X r M w0 wr) : M.size jn ≤ 16384 := by
  obtain ⟨D, J, g⟩ := h.good
  rw [size_j g.fs]
  cases J with
  | none => decide
  | some F => have := (g.j F rfl).1; show (F.ps.length : Int) ≤ 16384; omega
set_option maxRecDepth 100000 in
set_option maxHeartbeats 8000000 in
theorem rfind_any {w : World} (h : RJ R0 (fun _ => False) r M w w) :
    Calls Tryz.prog 15 #[ptr r] w (RPost R0 r (findM M) w) := by
  have hsz := rsize_le h
  obtain ⟨sz, hsze⟩ : ∃ x, M.size jn = x := ⟨_, rfl⟩
  obtain ⟨n, hn⟩ : ∃ n, sz.toNat = n := ⟨_, rfl⟩
  have hn16 : n ≤ 16384 := by omega
  have hmod : findM M = findN n 0 f0 M := by unfold findM; rw [hsze, hn]
  rw [hsze] at hsz
  obtain ⟨XM, hXM⟩ : ∃ x, findM M = x := ⟨_, rfl⟩
  rw [hXM]
  have HXM := hid hXM
  have HSZ := hid hsze
  obtain ⟨wa, hwa⟩ : ∃ x, w.alloc (.cells #[] tPg) = x := ⟨_, rfl⟩
  obtain ⟨wb, hwb⟩ : ∃ x, wa.alloc (.cells #[] tPg) = x := ⟨_, rfl⟩
  have za : wa.heap.size = w.heap.size + 1 := by rw [← hwa]; simp
  have HF0 : Hid (RF R0 r w M n 0 f0 M (.slice (some ⟨w.heap.size, 0, none⟩) 0 0) (.slice (some ⟨w.heap.size + 1, 0, none⟩) 0 0) wb) := hid (by
    have ba : Below w.heap.size w wa := by rw [← hwa]; exact (Below.refl _ _).alloc (Nat.le_refl _) _
    have bb : Below wa.heap.size wa wb := by rw [← hwb]; exact (Below.refl _ _).alloc (Nat.le_refl _) _
    have r1 : wa.ownsRow 0 tPg 2 (.slice (some ⟨w.heap.size, 0, none⟩) 0 0) 0 [] := by rw [← hwa]; exact row_zero w tPg
    have r2 : wb.ownsRow 0 tPg 2 (.slice (some ⟨w.heap.size + 1, 0, none⟩) 0 0) 0 [] := by rw [← hwb, ← za]; exact row_zero wa tPg
    refine ⟨⟨h.side (F := fun _ => False) (Disk.Chg.of_below (ba.trans (bb.mono ba.size))) (fun _ x => x.elim) (fun q hq => ?_), row_kept r1 (F := fun _ => False) (Mem.Chg.of_below bb) (fun _ _ x => x), r2, fun q h1 h2 => ?_, fun q hq => ?_⟩, fk0, by rw [Nat.sub_zero]; exact hmod, rfl⟩
    · rcases hq with hq | hq
      · have e1 : w.heap.size = q := by injection hq
        exact Or.inr (by omega)
      · have e2 : w.heap.size + 1 = q := by injection hq
        exact Or.inr (by omega)
    · have e1 : w.heap.size = q := by injection h1
      have e2 : w.heap.size + 1 = q := by injection h2
      omega
    · rcases hq with hq | hq
      · have e1 : w.heap.size = q := by injection hq
        omega
      · have e2 : w.heap.size + 1 = q := by injection hq
        omega)
  have HWA := hid hwa
  have HWB := hid hwb
  have HM := hid hmod
  have HN := hid hn
  clear hsze hwa hwb hmod hXM hn h
  go_enter Tryz.func15, Tryz.ntmps15
  go_wp2_with fail
  try rw [HWA.out]
  try rw [HWB.out]
  go_loopw [6, 7, 8, 9, 10, 11, 12] (fun pv fv lv av sv tv iv wr => ∃ (k lo : Nat) (f : Fnd) (Mk : Mod) (ao1 : Option Addr) (cap1 : Nat) (ao2 : Option Addr) (cap2 : Nat), k ≤ n ∧ lo + f.counted = f.recs.length ∧ pv = .int .i64 (f.pages : Nat) ∧ fv = .int .i64 (f.feet : Nat) ∧ lv = .int .i64 (lo : Nat) ∧ av = .slice ao1 f.recs.length cap1 ∧ sv = .slice ao2 f.counted cap2 ∧ tv = .int .u64 (f.salt : Nat) ∧ iv = .int .i64 k ∧ Hid (RF R0 r w M n k f Mk (.slice ao1 f.recs.length cap1) (.slice ao2 f.counted cap2) wr)) (fun _ _ _ _ _ _ iv _ => n - (intOf iv).toNat)
  case atStart => exact ⟨0, 0, f0, M, _, _, _, _, Nat.zero_le _, rfl, rfl, rfl, rfl, rfl, rfl, rfl, rfl, HF0⟩
  case round =>
    obtain ⟨k, lo, f, Mk, ao1, cap1, ao2, cap2, hk, hlo, rfl, rfl, rfl, rfl, rfl, rfl, rfl, HI⟩ := hrel
    have HSK : Hid (Mk.size jn = sz) := hid ((fs_size HI.out.fs jn).trans HSZ.out)
    have hbi := HI.out.fk.bi
    have hb1 := hbi.recs
    have hb2 := hbi.feet
    have hb3 := hbi.pages
    have hb4 := hbi.counted
    clear hbi
    have hrl : f.recs.length ≤ 100000 := by omega
    by_cases hlt : (k : Int) < sz
    · have hkn : k < n := by have := HN.out; omega
      have hfn : n - k = (n - (k + 1)) + 1 := by omega
      go_wp2_with fail
      refine (rsize_jn HI.out.mem.rj).mono ?_
      rintro e w1 ⟨rfl, rfl⟩
      rw [HSK.out]
      go_wp2_with fail
      refine (rread_jn HI.out.mem.rj HI.out.mem.hX k (by omega)).mono ?_
      rintro e w2 ⟨rfl, h2, hs2⟩
      have H2 := hid (HI.out.mem.to h2 hs2)
      have hm2 := HI.out.run
      have htorn := read_torn Mk k
      have hfs2 : (Mk.read jn (k : Int)).2.2.fs = M.fs := (read_ways Mk k).1.trans HI.out.fs
      rw [hfn] at hm2
      unfold findN at hm2
      clear h2 hs2
      generalize (Mk.read jn (k : Int)).2.1 = e at *
      generalize (Mk.read jn (k : Int)).1 = x at *
      generalize (Mk.read jn (k : Int)).2.2 = M2 at *
      rw [HXM.out] at hm2
      have HM2 := hid hm2
      have HT := hid htorn
      have HFS := hid hfs2
      clear hm2 htorn hfs2
      by_cases h13 : e = 13
      · have hx := HT.out h13
        subst h13
        subst hx
        have HX : Hid (XM = (0, f, M2)) := hid (by rw [HM2.out, if_neg (by decide), take_nil])
        clear HM2 HT
        by_cases hfe : f.feet = 0
        · have hz1 : ((f.feet : Int) == 0) = true := by simp; omega
          have HFE := hid hfe
          clear hfe
          go_wp2
          refine bodyPost_ret (v := .tuple #[.int .i64 0, .slice none 0 0, .bool false, .int .i64 0]) (by simp [results, go_sem]) rfl ?_
          rw [HX.out]
          exact rpost_none (Or.inr HFE.out) H2.out rfl
        · have hz1 : ((f.feet : Int) == 0) = false := by simp; omega
          have HFE := hid hfe
          clear hfe
          go_wp2
          refine bodyPost_ret (v := .tuple #[.int .i64 (f.pages : Nat), .slice ao2 f.counted cap2, .bool true, .int .i64 0]) (by simp [results, go_sem]) rfl ?_
          rw [HX.out]
          exact rpost_some (X := (0, f, M2)) rfl HFE.out H2.out
      · have h131 : (e == 13) = false := by simp [h13]
        by_cases he : e = 0
        · subst he
          have HM3 : Hid (XM = match takeF f x with | none => (0, f, M2) | some g => findN (n - (k + 1)) (k + 1) g M2) := hid (HM2.out.trans (if_neg (by decide)))
          clear HM2 HT h13
          by_cases hok : okB x = true
          · have hd := kD_len hok
            have hKl := kK_lt x
            have hNl := kN_lt x
            have ho := ropen_any (bs x)
            obtain ⟨o1, o2⟩ := open_ok hok
            rw [o1, o2] at ho
            have HG : Hid (takeF f x = goodN f (kK x) (kN x) (kS x) (kD x)) := hid (good_is HI.out.fk (by omega) hok)
            have HFG : Hid (∀ g, takeF f x = some g → Fk (k + 1) g) := hid (fun g hg => HI.out.fk.take hg)
            unfold sV at ho
            rw [HG.out] at HM3 HFG
            have hbg : f.begun = decide (0 < k) := HI.out.fk.beg
            clear HG o1 o2 hok
            generalize kK x = K at *
            generalize kN x = N at *
            generalize kS x = S at *
            generalize kD x = dd at *
            have HO := hid ho
            have HD := hid hd
            clear ho hd
            go_wp2_with fail
            refine (HO.out _).mono ?_
            rintro e w3 ⟨rfl, hb3'⟩
            have H3 := hid (H2.out.on hb3')
            have hb34 : Below w3.heap.size w3 (w3.alloc (.cells #[.int .i64 (K : Nat), .int .i64 (N : Nat), .int .u64 (S : Nat), .string (bs dd)] tSe)) := (Below.refl _ _).alloc (Nat.le_refl _) _
            have hq := blk_new w3 (.cells #[.int .i64 (K : Nat), .int .i64 (N : Nat), .int .u64 (S : Nat), .string (bs dd)] tSe)
            have H4 := hid (H3.out.on hb34)
            obtain ⟨w4, hw4⟩ : ∃ y, w3.alloc (.cells #[.int .i64 (K : Nat), .int .i64 (N : Nat), .int .u64 (S : Nat), .string (bs dd)] tSe) = y := ⟨_, rfl⟩
            rw [hw4] at hq H4 hb34
            have HW4 := hid hw4
            have HQ : Hid (∀ wx, Below w4.heap.size w4 wx → wx.heap[w3.heap.size]? = some (.cells #[.int .i64 (K : Nat), .int .i64 (N : Nat), .int .u64 (S : Nat), .string (bs dd)] tSe (0, 0))) := hid fun wx hx => (hx.block _ (lt_of_block hq)).trans hq
            clear hb3' hb34 hw4 hq
            go_upto_region 17 with fail
            rw [HW4.out]
            have q0 : w4.cell? ⟨w3.heap.size, 0, none⟩ = some (.int .i64 (K : Nat)) := blk_cell (HQ.out _ (Below.refl _ _)) 0
            have q1 : w4.cell? ⟨w3.heap.size, 1, none⟩ = some (.int .i64 (N : Nat)) := blk_cell (HQ.out _ (Below.refl _ _)) 1
            have q2 : w4.cell? ⟨w3.heap.size, 2, none⟩ = some (.int .u64 (S : Nat)) := blk_cell (HQ.out _ (Below.refl _ _)) 2
            have q3 : w4.cell? ⟨w3.heap.size, 3, none⟩ = some (.string (bs dd)) := blk_cell (HQ.out _ (Below.refl _ _)) 3
            by_cases hsalt : 0 < k ∧ S ≠ f.salt
            · have hk0 : (k : Int) > 0 := by omega
              have hs1 : ((S : Int) != (f.salt : Int)) = true := by simp; omega
              have HX : Hid (XM = (0, f, M2)) := hid (by
                rw [HM3.out]
                unfold goodN
                rw [if_pos ⟨by rw [hbg]; simp; omega, hsalt.2⟩])
              clear hsalt HM3 HFG hbg
              by_cases hfe : f.feet = 0
              · have hz1 : ((f.feet : Int) == 0) = true := by simp; omega
                have HFE := hid hfe
                clear hfe
                go_wp2
                refine bodyPost_ret (v := .tuple #[.int .i64 0, .slice none 0 0, .bool false, .int .i64 0]) (by simp [results, go_sem]) rfl ?_
                rw [HX.out]
                exact rpost_none (Or.inr HFE.out) H4.out rfl
              · have hz1 : ((f.feet : Int) == 0) = false := by simp; omega
                have HFE := hid hfe
                clear hfe
                go_wp2
                refine bodyPost_ret (v := .tuple #[.int .i64 (f.pages : Nat), .slice ao2 f.counted cap2, .bool true, .int .i64 0]) (by simp [results, go_sem]) rfl ?_
                rw [HX.out]
                exact rpost_some (X := (0, f, M2)) rfl HFE.out H4.out
            · have hsalt' : ¬ ((k : Int) > 0) ∨ ((S : Int) != (f.salt : Int)) = false := by
                rcases Nat.eq_zero_or_pos k with h0 | h0
                · exact Or.inl (by omega)
                · refine Or.inr ?_
                  have : S = f.salt := by
                    rcases Nat.lt_or_ge S f.salt with h1 | h1
                    · exact absurd ⟨h0, by omega⟩ hsalt
                    · rcases Nat.lt_or_ge f.salt S with h2 | h2
                      · exact absurd ⟨h0, by omega⟩ hsalt
                      · omega
                  simp [this]
              have HG : Hid (goodN f K N S dd = if K = 2 then (if 4096 ≤ N then none else some ⟨true, S, f.recs ++ [(N, dd)], max f.above (N + 1), f.feet, f.pages, f.counted⟩)
                  else if K = 3 then (if rFoot f N dd = false then none else some ⟨true, S, f.recs, f.above, f.feet + 1, aN dd, f.recs.length⟩)
                  else none) := hid (by
                unfold goodN
                exact if_neg (fun ⟨h1, h2⟩ => hsalt ⟨by rw [hbg] at h1; simpa using h1, h2⟩))
              rw [HG.out] at HM3 HFG
              clear hsalt hbg HG
              go_cut [58] (fun cv wx => cv = .bool false ∧ wx = w4)
              case first =>
                rcases hsalt' with hx | hx
                · go_wp2_with fail
                  go_meet
                  exact ⟨rfl, rfl⟩
                · by_cases hk0 : (k : Int) > 0
                  · go_wp2_with fail
                    go_meet
                    exact ⟨rfl, rfl⟩
                  · go_wp2_with fail
                    go_meet
                    exact ⟨rfl, rfl⟩
              case rest =>
              obtain ⟨rfl, rfl⟩ := hcut
              clear hsalt'
              by_cases hK2 : K = 2
              · subst hK2
                rcases n_ways N with ⟨hN, hN1⟩ | ⟨hN, hN1⟩
                · have HX : Hid (XM = (0, f, M2)) := hid (by rw [HM3.out, if_pos rfl, if_pos hN])
                  clear HM3 HFG hN
                  by_cases hfe : f.feet = 0
                  · have hz1 : ((f.feet : Int) == 0) = true := by simp; omega
                    have HFE := hid hfe
                    clear hfe
                    go_wp2
                    refine bodyPost_ret (v := .tuple #[.int .i64 0, .slice none 0 0, .bool false, .int .i64 0]) (by simp [results, go_sem]) rfl ?_
                    rw [HX.out]
                    exact rpost_none (Or.inr HFE.out) H4.out rfl
                  · have hz1 : ((f.feet : Int) == 0) = false := by simp; omega
                    have HFE := hid hfe
                    clear hfe
                    go_wp2
                    refine bodyPost_ret (v := .tuple #[.int .i64 (f.pages : Nat), .slice ao2 f.counted cap2, .bool true, .int .i64 0]) (by simp [results, go_sem]) rfl ?_
                    rw [HX.out]
                    exact rpost_some (X := (0, f, M2)) rfl HFE.out H4.out
                · rw [if_pos rfl, if_neg hN] at HM3 HFG
                  obtain ⟨l', ao3, cap3, w5, hl', hlen', hr, H5⟩ := rf_push H4.out hb4 hrl N dd
                  rw [hl'] at HM3 HFG
                  dsimp only at HM3
                  have HR := hid hr
                  have HNX : Hid (RF R0 r w M n (k + 1) ⟨true, S, l', max f.above (N + 1), f.feet, f.pages, f.counted⟩ M2 (.slice ao3 l'.length cap3) (.slice ao2 f.counted cap2) w5) := hid ⟨H5, HFG.out _ rfl, HXM.out.trans HM3.out, HFS.out⟩
                  have HL : Hid (lo + 1 + f.counted = l'.length) := hid (by rw [hlen', ← hlo, Nat.add_right_comm])
                  clear HM3 HFG hN hr H5 hl'
                  go_wp2_with (at_builtin; refine wpList_append_run rfl (.tmp 67) (.tmp 73) tPgs tPgs rfl _ _ (by simp [Act.eval]) (by simp [Act.eval]) HR.out ?_)
                  go_roundw
                  case rel => exact ⟨k + 1, lo + 1, ⟨true, S, l', max f.above (N + 1), f.feet, f.pages, f.counted⟩, M2, ao3, cap3, ao2, cap2, hkn, HL.out, rfl, rfl, by go_num, by simp only [hlen'], rfl, rfl, by go_num, HNX⟩
                  case measure => simp [intOf]; omega
              · have hK2b : ((K : Int) == 2) = false := by have hh : ¬ (K : Int) = 2 := fun h => hK2 (Int.ofNat.inj h); simpa using hh
                rw [if_neg hK2] at HM3 HFG
                have hds : (bs dd).size = 232 := HD.out
                have hd4 : (4 : Int) ≤ ((bs dd).size : Int) := by rw [hds]; decide
                have hd8 : (8 : Int) ≤ ((bs dd).size : Int) := by rw [hds]; decide
                have HDS := hid hds
                clear hds
                have C3 : Hid (∀ wx, Below wc.heap.size wc wx → wx.cell? ⟨w3.heap.size, 3, none⟩ = some (.string (bs dd))) := hid fun wx hx => blk_cell (HQ.out wx hx) 3
                go_wp2_with fail
                refine (unfix4_any dd HD.out wc).mono ?_
                rintro e w5 ⟨rfl, rfl⟩
                go_wp2_with fail
                refine (unfix8_any dd HD.out wc).mono ?_
                rintro e w5 ⟨rfl, rfl⟩
                go_wp2_with fail
                refine Seal.wp_region_quiet_in (fun wx => Below wc.heap.size wc wx) (by kernel_rfl) (by kernel_rfl) (Below.refl _ wc).drew ?_
                go_big_quiet_want
                go_big_quiet_op
                apply Exists.intro
                refine ⟨fun _ _ => ?_, ?_⟩
                · with_reducible exact Eq.refl _
                go_big_quiet_on
                go_big_quiet_want
                go_big_quiet_op
                refine ⟨.string (bs dd), fun wx hx => ?_, ?_⟩
                · have c := C3.out wx hx
                  simp [go_sem, c]
                go_big_quiet_on
                go_big_quiet_want
                go_big_quiet_op
                apply Exists.intro
                refine ⟨fun _ _ => ?_, ?_⟩
                · with_reducible exact Eq.refl _
                go_big_quiet_on
                go_big_quiet_want
                go_big_quiet_op
                refine ⟨.string (fulB dd), fun wx hx => ?_, ?_⟩
                · refine (full8_any dd HD.out wx).mono ?_
                  rintro e w9 ⟨rfl, hb9⟩
                  exact ⟨rfl, hx.trans (hb9.mono hx.size)⟩
                go_big_quiet_on
                go_big_quiet_want
                go_big_quiet_op
                apply Exists.intro
                refine ⟨fun _ _ => ?_, ?_⟩
                · with_reducible exact Eq.refl _
                go_big_quiet_on
                go_big_quiet_want
                go_big_quiet_op
                refine ⟨.string (bs dd), fun wx hx => ?_, ?_⟩
                · have c := C3.out wx hx
                  simp [go_sem, c]
                go_big_quiet_on
                go_big_quiet_want
                go_big_quiet_op
                refine ⟨.bool (fullD dd), fun wx hx => ?_, ?_⟩
                · simp [go_sem, full_eq]
                go_big_quiet_on
                go_big_quiet_want
                go_big_quiet_op
                go_big_quiet_on
                refine wpQuiet_nil ?_
                intro w5 hb5
                have H5 := hid (H4.out.on hb5)
                have HQ5 : Hid (∀ wx, Below w5.heap.size w5 wx → wx.heap[w3.heap.size]? = some (.cells #[.int .i64 (K : Nat), .int .i64 (N : Nat), .int .u64 (S : Nat), .string (bs dd)] tSe (0, 0))) := hid fun wx hx => HQ.out wx (hb5.trans (hx.mono hb5.size))
                clear hb5 q0 q1 q2 q3
                have hwf : IntKind.u64.wrap (f.feet : Int) = (f.feet : Int) := wrap_u64 _ (by omega)
                have hwp : IntKind.u64.wrap (f.pages : Int) = (f.pages : Int) := wrap_u64 _ (by omega)
                have HRF : Hid (rFoot f N dd = rfB (fullD dd) N (f.recs.length - f.counted) (bN dd) f.feet (aN dd) f.pages (f.recs.all (fun x => decide (x.1 < aN dd)))) := hid rfl
                have hlo' : f.recs.length - f.counted = lo := by omega
                rw [hlo'] at HRF
                clear hlo'
                have HBL : Hid (∀ A : Nat, Calls Tryz.prog 51 #[.slice ao1 f.recs.length cap1, .int .i64 (A : Nat)] w5 fun e w' => e = .returned (.bool (f.recs.all fun x => decide (x.1 < A))) ∧ w5 = w') := hid (fun A => below_any hrl (pgr_of H5.out.row) A)
                generalize aN dd = A at *
                generalize bN dd = B at *
                generalize fullD dd = fl at *
                generalize rFoot f N dd = rf at *
                have s0 : w5.cell? ⟨w3.heap.size, 0, none⟩ = some (.int .i64 (K : Nat)) := blk_cell (HQ5.out _ (Below.refl _ _)) 0
                have s1 : w5.cell? ⟨w3.heap.size, 1, none⟩ = some (.int .i64 (N : Nat)) := blk_cell (HQ5.out _ (Below.refl _ _)) 1
                obtain ⟨q, hq⟩ : ∃ q, (decide (K = 3) && rf) = q := ⟨_, rfl⟩
                have HQQ := hid hq
                clear hq
                go_upto_region 26 with fail
                go_cut [137] (fun cv wx => cv = .bool (!q) ∧ wx = w5)
                case first =>
                  by_cases c1 : K = 3
                  · subst c1
                    have HQ1 : Hid (rf = q) := hid (by have := HQQ.out; simpa using this)
                    cases fl with
                    | false =>
                      obtain rfl : q = false := by rw [← HQ1.out, HRF.out]; exact rfB_false (Or.inl rfl)
                      go_wp2_with fail
                      go_meet
                      exact ⟨rfl, rfl⟩
                    | true =>
                    by_cases c2 : N = lo
                    · subst c2
                      have c2b := eq_b (rfl : N = N)
                      by_cases c3 : B = f.feet
                      · subst c3
                        have c3b := eq_b (rfl : f.feet = f.feet)
                        by_cases c4 : A ≤ 4096
                        · have c4b := le_b c4
                          have c4c := wr_b c4
                          by_cases c5 : f.feet = 0
                          · have c5b := npos_b c5
                            have HQ2 : Hid ((f.recs.all fun x => decide (x.1 < A)) = q) := hid (by rw [← HQ1.out, HRF.out, rfB_true rfl rfl rfl c4 (Or.inl c5)])
                            have HC5 := hid c5
                            have HC4 := hid c4
                            clear c5 c4 HRF
                            go_wp2_with fail
                            refine (HBL.out A).mono ?_
                            rintro e w6 ⟨rfl, rfl⟩
                            rw [HQ2.out]
                            go_wp2_with fail
                            go_meet
                            exact ⟨rfl, rfl⟩
                          · have c5b := pos_b c5
                            by_cases c6 : A = f.pages
                            · have c6b := eq_b c6
                              have HQ2 : Hid ((f.recs.all fun x => decide (x.1 < A)) = q) := hid (by rw [← HQ1.out, HRF.out, rfB_true rfl rfl rfl c4 (Or.inr c6)])
                              have HC6 := hid c6
                              have HC5 := hid c5
                              have HC4 := hid c4
                              clear c6 c5 c4 HRF
                              go_wp2_with fail
                              refine (HBL.out A).mono ?_
                              rintro e w6 ⟨rfl, rfl⟩
                              rw [HQ2.out]
                              go_wp2_with fail
                              go_meet
                              exact ⟨rfl, rfl⟩
                            · have c6b := ne_b c6
                              obtain rfl : q = false := by rw [← HQ1.out, HRF.out]; exact rfB_false (Or.inr (Or.inr (Or.inr (Or.inr ⟨c5, c6⟩))))
                              clear c6 c5
                              go_wp2_with fail
                              go_meet
                              exact ⟨rfl, rfl⟩
                        · have c4b := gt_b c4
                          obtain rfl : q = false := by rw [← HQ1.out, HRF.out]; exact rfB_false (Or.inr (Or.inr (Or.inr (Or.inl c4))))
                          clear c4
                          go_wp2_with fail
                          go_meet
                          exact ⟨rfl, rfl⟩
                      · have c3b := ne_b c3
                        obtain rfl : q = false := by rw [← HQ1.out, HRF.out]; exact rfB_false (Or.inr (Or.inr (Or.inl c3)))
                        clear c3
                        go_wp2_with fail
                        go_meet
                        exact ⟨rfl, rfl⟩
                    · have c2b := ne_b c2
                      obtain rfl : q = false := by rw [← HQ1.out, HRF.out]; exact rfB_false (Or.inr (Or.inl c2))
                      clear c2
                      go_wp2_with fail
                      go_meet
                      exact ⟨rfl, rfl⟩
                  · have c1b := ne3_b c1
                    obtain rfl : q = false := by rw [← HQQ.out]; simp [c1]
                    clear c1
                    go_wp2_with fail
                    go_meet
                    exact ⟨rfl, rfl⟩
                case rest =>
                obtain ⟨rfl, rfl⟩ := hcut
                clear HRF HBL s0 s1 hwf hwp
                cases q with
                | false =>
                  have HX : Hid (XM = (0, f, M2)) := hid (by
                    rw [HM3.out]
                    have := HQQ.out
                    by_cases c1 : K = 3
                    · rw [if_pos c1, if_pos (by simpa [c1] using this)]
                    · rw [if_neg c1])
                  clear HM3 HFG HQQ
                  by_cases hfe : f.feet = 0
                  · have hz1 : ((f.feet : Int) == 0) = true := by simp; omega
                    have HFE := hid hfe
                    clear hfe
                    go_wp2
                    refine bodyPost_ret (v := .tuple #[.int .i64 0, .slice none 0 0, .bool false, .int .i64 0]) (by simp [results, go_sem]) rfl ?_
                    rw [HX.out]
                    exact rpost_none (Or.inr HFE.out) H5.out rfl
                  · have hz1 : ((f.feet : Int) == 0) = false := by simp; omega
                    have HFE := hid hfe
                    clear hfe
                    go_wp2
                    refine bodyPost_ret (v := .tuple #[.int .i64 (f.pages : Nat), .slice ao2 f.counted cap2, .bool true, .int .i64 0]) (by simp [results, go_sem]) rfl ?_
                    rw [HX.out]
                    exact rpost_some (X := (0, f, M2)) rfl HFE.out H5.out
                | true =>
                  have hq1 : K = 3 ∧ rf = true := by simpa using HQQ.out
                  rw [if_pos hq1.1, if_neg (by rw [hq1.2]; decide)] at HM3 HFG
                  obtain ⟨u', w6, hr6, ho6, hc6, hk6⟩ := copy_pg H5.out.row hrl
                  have H6 := H5.out.copied ho6 hc6 hk6
                  obtain ⟨ao3, cap3, hu', -⟩ := row_shape ho6
                  subst hu'
                  dsimp only at HM3
                  have HR6 := hid hr6
                  have HNX : Hid (RF R0 r w M n (k + 1) ⟨true, S, f.recs, f.above, f.feet + 1, A, f.recs.length⟩ M2 (.slice ao1 f.recs.length cap1) (.slice ao3 f.recs.length cap3) w6) := hid ⟨by simpa only [List.take_length] using H6, HFG.out _ rfl, HXM.out.trans HM3.out, HFS.out⟩
                  have hA16 : A ≤ 4096 := (HFG.out _ rfl).bi.pages
                  have hA6 := wr_b hA16
                  have HL6 : Hid (0 + f.recs.length = f.recs.length) := hid (Nat.zero_add _)
                  clear HM3 HFG HQQ hq1 hr6 ho6 hc6 hk6 H6 hA16
                  go_wp2_with (at_builtin; refine wpList_append_run rfl (.tmp 142) (.tmp 143) tPgs tPgs rfl _ _ (by simp [Act.eval]) (by simp [Act.eval]) HR6.out ?_)
                  go_roundw
                  case rel => exact ⟨k + 1, 0, ⟨true, S, f.recs, f.above, f.feet + 1, A, f.recs.length⟩, M2, ao1, cap1, ao3, cap3, hkn, HL6.out, rfl, by go_num, rfl, rfl, rfl, rfl, by go_num, HNX⟩
                  case measure => simp [intOf]; omega
          · have hok' : okB x = false := by simpa using hok
            obtain ⟨e1, e2⟩ := open_not hok'
            have ho := ropen_any (bs x)
            rw [e1] at ho
            have he1 : (openE (bs x) != 0) = true := by simp [e2]
            have HX : Hid (XM = (0, f, M2)) := hid (by rw [HM3.out]; unfold takeF; rw [if_pos hok'])
            generalize openE (bs x) = oe at *
            unfold zeroV at ho
            have HO := hid ho
            clear ho e1 e2 hok hok' HM3
            go_wp2_with fail
            refine (HO.out _).mono ?_
            rintro e w3 ⟨rfl, hb3'⟩
            have H3 := hid (H2.out.on hb3')
            clear hb3'
            by_cases hfe : f.feet = 0
            · have hz1 : ((f.feet : Int) == 0) = true := by simp; omega
              have HFE := hid hfe
              clear hfe
              go_wp2
              refine bodyPost_ret (v := .tuple #[.int .i64 0, .slice none 0 0, .bool false, .int .i64 0]) (by simp [results, go_sem]) rfl ?_
              rw [HX.out]
              exact rpost_none (Or.inr HFE.out) (H3.out.on ((Below.refl _ _).alloc (Nat.le_refl _) _)) rfl
            · have hz1 : ((f.feet : Int) == 0) = false := by simp; omega
              have HFE := hid hfe
              clear hfe
              go_wp2
              refine bodyPost_ret (v := .tuple #[.int .i64 (f.pages : Nat), .slice ao2 f.counted cap2, .bool true, .int .i64 0]) (by simp [results, go_sem]) rfl ?_
              rw [HX.out]
              exact rpost_some (X := (0, f, M2)) rfl HFE.out (H3.out.on ((Below.refl _ _).alloc (Nat.le_refl _) _))
        · have he1 : (e != 0) = true := by simp [he]
          have HX : Hid (XM = (e, f, M2)) := hid (by rw [HM2.out, if_pos ⟨he, h13⟩])
          have HE := hid he
          have H13 := hid h13
          clear he h13 HM2 HT
          go_wp2
          refine bodyPost_ret (v := .tuple #[.int .i64 0, .slice none 0 0, .bool false, .int .i64 e]) (by simp [results, go_sem]) rfl ?_
          rw [HX.out]
          exact rpost_none (Or.inl HE.out) H2.out rfl
    · have HX : Hid (XM = (0, f, Mk)) := hid (by
        have h1 : n - k = 0 := by have := HN.out; omega
        rw [← HXM.out, HI.out.run, h1]
        rfl)
      have H2 := hid HI.out.mem
      go_wp2_with fail
      refine (rsize_jn HI.out.mem.rj).mono ?_
      rintro e w1 ⟨rfl, rfl⟩
      rw [HSK.out]
      by_cases hfe : f.feet = 0
      · have hz1 : ((f.feet : Int) == 0) = true := by simp; omega
        have HFE := hid hfe
        clear hfe
        go_wp2
        refine bodyPost_ret (v := .tuple #[.int .i64 0, .slice none 0 0, .bool false, .int .i64 0]) (by simp [results, go_sem]) rfl ?_
        rw [HX.out]
        exact rpost_none (Or.inr HFE.out) H2.out rfl
      · have hz1 : ((f.feet : Int) == 0) = false := by simp; omega
        have HFE := hid hfe
        clear hfe
        go_wp2
        refine bodyPost_ret (v := .tuple #[.int .i64 (f.pages : Nat), .slice ao2 f.counted cap2, .bool true, .int .i64 0]) (by simp [results, go_sem]) rfl ?_
        rw [HX.out]
        exact rpost_some (X := (0, f, Mk)) rfl HFE.out H2.out
end Jo
end Go.Proofs.YtpdpjgeoclilhaaGreat
