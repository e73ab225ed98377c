/-
  Put together: ShelfFree, ShelfFull, ShelfLab, ShelfArm.
-/
import Derived.Test.YtoifhcmgeackdaaGreatDoorGrpTrShB
import Derived.Test.YtoifhcmgeackdaaGreatDoorGrpTrNum
/-
  Contracts of the shelf's Free, and of New(limit).
-/
namespace Go.Proofs.YtoifhcmgeackdaaGreatDoor
open Go.RowKit
namespace Sh
open Sp
open Num (hid)
open Mem (Bs bs IAt tI tS tIs tSs Chg Row ptr blk_cell blk_free blk_new blk_set blk_other blk_alloc row_kept row_shape row_type)
variable {s d g : Nat} {lim : Int} {h : Hd} {arm : Int} {S : St} {w w' : World}
set_option maxRecDepth 100000 in
set_option maxHeartbeats 4000000 in
theorem free_any (A : ShAt s d lim h arm S w) (ha : arm < 1) (hf : Fit h) {c : Nat} (hS : Small c S) (hc : c ≤ 30000) {n : Int} (hn : Wf n) :
    Calls Tryz.prog 20 #[ptr s, .int .i64 n] w fun e w' => e = .returned (.int .i64 (freeM h S n).1) ∧ ShAt s d lim (freeM h S n).2.1 arm (freeM h S n).2.2 w' ∧ Chg (Two s d) w w' := by
  have HC := hid (call_ok A.blk ha)
  have HH := hid (has_any A.pages hn)
  obtain ⟨-, -, -, -, -, -, -, c7, -⟩ := A.blk.cells
  have HA := hid A
  have HT := hid (fun (wz : World) (D : DeskR (· = d) wz d 0 S) => give_map D hS hc h hf n)
  cases ef : S.f n with
  | none =>
    have e : freeM h S n = (21, h, S) := if_pos ef
    rw [e]
    rw [ef] at HH
    clear A ha hS hc hf e ef HT hn
    go_enter Tryz.func20, Tryz.ntmps20
    go_wp2_with fail
    refine HC.out.mono ?_
    rintro e w1 ⟨rfl, rfl⟩
    go_wp2_with fail
    refine HH.out.mono ?_
    rintro e w1 ⟨rfl, rfl⟩
    go_wp2
    go_ret
    exact ⟨rfl, HA.out, Chg.refl _ _⟩
  | some x =>
    have e : freeM h S n = after (giveM h S n) h := if_neg (by rw [ef]; simp)
    rw [e]
    rw [ef] at HH
    generalize hX : giveM h S n = X at *
    obtain ⟨⟨h', e1⟩, S'⟩ := X
    have hA2 := A.blk
    unfold giveV hV at HT
    simp only at HT
    clear A ha hS hc hf hX e ef hn
    go_enter Tryz.func20, Tryz.ntmps20
    go_wp2_with fail
    refine HC.out.mono ?_
    rintro e w1 ⟨rfl, rfl⟩
    go_wp2_with fail
    refine HH.out.mono ?_
    rintro e w2 ⟨rfl, ew⟩
    have HD2 : Hid (DeskR (· = d) w d 0 S) := hid HA.out.pages
    have HN2 : Hid (s < w.heap.size ∧ d < w.heap.size ∧ s ≠ d) := hid ⟨HA.out.lt.1, HA.out.lt.2, HA.out.ne⟩
    clear c7
    subst ew
    obtain ⟨c1, c2, c3, c4, c5, c6, c7⟩ := hA2.seven
    have K2 := hid hA2
    clear hA2
    go_upto_region 6 with fail
    have HTA := hid (HT.out w.drew (HD2.out.on (Below.refl _ _).drew))
    have HTB := hid (HT.out (w.alloc zObj).drew (HD2.out.on ((Below.refl _ _).alloc (Nat.le_refl _) zObj).drew))
    have KA := hid (ShBlk.seven (show ShBlk s d lim h arm w.drew from K2.out))
    have KB := hid (ShBlk.seven (show ShBlk s d lim h arm (w.alloc zObj).drew from K2.out.beside zObj))
    go_region_held3 (fun W => W.cell? ⟨s, 1, none⟩ = some (.int .i64 h.mode) ∧ W.cell? ⟨s, 2, none⟩ = some (.int .i64 h.pages) ∧ W.cell? ⟨s, 3, none⟩ = some (.int .i64 h.trunk) ∧ W.cell? ⟨s, 4, none⟩ = some (.int .i64 h.spare) ∧ W.cell? ⟨s, 5, none⟩ = some (.int .i64 h.root) ∧ W.cell? ⟨s, 6, none⟩ = some (.int .u64 (h.change : Nat)) ∧ W.cell? ⟨s, 7, none⟩ = some (.map (some d)))
      (first | with_reducible exact KA.out | with_reducible exact KB.out | with_reducible exact K3.out | with_reducible exact K4.out | with_reducible exact K5.out)
      (first
        | go_at_call 51; with_reducible refine HTA.out.mono ?_; rintro e w3 ⟨rfl, hd3, hc3⟩; have F3 := hid (take_callA K2.out HD2.out HN2.out hd3 hc3); have K3 := hid (ShBlk.seven F3.out.1); have K4 := hid (ShBlk.seven (F3.out.1.beside zObj)); have K5 := hid (ShBlk.seven (F3.out.1.beside (hObj h'))); clear hd3 hc3
        | go_at_call 51; with_reducible refine HTB.out.mono ?_; rintro e w3 ⟨rfl, hd3, hc3⟩; have F3 := hid (take_callB K2.out HD2.out HN2.out hd3 hc3); have K3 := hid (ShBlk.seven F3.out.1); have K5 := hid (ShBlk.seven (ShBlk.box6 F3.out.1 (F3.out.2.1) h')); obtain ⟨x0, x1, x2, x3, x4, x5⟩ := F3.out.2.2.1.cells; obtain ⟨z0, z1, z2, z3, z4, z5⟩ := F3.out.2.2.1.free; have hxl := F3.out.2.2.1.lt; clear hd3 hc3)
    · have E4 := hid (fin_A F3.out h')
      generalize hg : w3.heap.size = g at *
      generalize w3.alloc (.cells #[.int .i64 h'.mode, .int .i64 h'.pages, .int .i64 h'.trunk, .int .i64 h'.spare, .int .i64 h'.root, .int .u64 (h'.change : Nat)] tH) = w4 at *
      obtain ⟨q0, q1, q2, q3, q4, q5, q6, q7, q8⟩ := E4.out.at'.blk.cells
      obtain ⟨f1, f2, f3, f4, f5, f6, f8⟩ := E4.out.at'.blk.free
      obtain ⟨x0, x1, x2, x3, x4, x5⟩ := E4.out.hb.cells
      have l1 := E4.out.at'.lt.1
      have l2 := E4.out.hb.lt
      by_cases he : e1 = 0
      · subst he
        have hm : after ((h', 0), S') h = (0, h', S') := if_neg (fun e => e rfl)
        have HM := hid hm
        have HA5 := hid (E4.out.at'.putA h')
        clear hm
        go_wp2
        go_ret
        have HM := HM.out
        rw [HM]
        exact ⟨rfl, HA5.out.1, ((E4.out.chg.mono (fun _ _ e => Or.inr e)).trans (HA5.out.2.mono (fun _ _ e => Or.inl e)))⟩
      · have hm : after ((h', e1), S') h = (e1, h, S') := if_pos he
        have HM := hid hm
        have he2 : (e1 != 0) = true := by simpa using he
        clear hm he
        go_wp2
        go_ret
        have HM := HM.out
        rw [HM]
        exact ⟨rfl, E4.out.at', (E4.out.chg.mono (fun _ _ e => Or.inr e))⟩
    · have E4 := hid (fin_B F3.out HN2.out h')
      unfold put6 at E4
      generalize hg : w.heap.size = g at *
      clear x0 x1 x2 x3 x4 x5 z0 z1 z2 z3 z4 z5 hxl
      generalize (((((w3.setCell ⟨g, 0, none⟩ (.int .i64 h'.mode)).setCell ⟨g, 1, none⟩ (.int .i64 h'.pages)).setCell ⟨g, 2, none⟩ (.int .i64 h'.trunk)).setCell ⟨g, 3, none⟩ (.int .i64 h'.spare)).setCell ⟨g, 4, none⟩ (.int .i64 h'.root)).setCell ⟨g, 5, none⟩ (.int .u64 (h'.change : Nat)) = w4 at *
      obtain ⟨q0, q1, q2, q3, q4, q5, q6, q7, q8⟩ := E4.out.at'.blk.cells
      obtain ⟨f1, f2, f3, f4, f5, f6, f8⟩ := E4.out.at'.blk.free
      obtain ⟨x0, x1, x2, x3, x4, x5⟩ := E4.out.hb.cells
      have l1 := E4.out.at'.lt.1
      have l2 := E4.out.hb.lt
      by_cases he : e1 = 0
      · subst he
        have hm : after ((h', 0), S') h = (0, h', S') := if_neg (fun e => e rfl)
        have HM := hid hm
        have HA5 := hid (E4.out.at'.putA h')
        clear hm
        go_wp2
        go_ret
        have HM := HM.out
        rw [HM]
        exact ⟨rfl, HA5.out.1, ((E4.out.chg.mono (fun _ _ e => Or.inr e)).trans (HA5.out.2.mono (fun _ _ e => Or.inl e)))⟩
      · have hm : after ((h', e1), S') h = (e1, h, S') := if_pos he
        have HM := hid hm
        have he2 : (e1 != 0) = true := by simpa using he
        clear hm he
        go_wp2
        go_ret
        have HM := HM.out
        rw [HM]
        exact ⟨rfl, E4.out.at', (E4.out.chg.mono (fun _ _ e => Or.inr e))⟩
/-! ### New(limit) -/
def h1 : Hd := ⟨1, 1, 0, 0, 0, 0⟩
def S0 : St := ⟨fun _ => none, 0⟩
theorem fit1 : Fit h1 := by unfold Fit; decide
theorem small0 : Small 0 S0 := Nat.le_refl _
theorem dom0 : Dom h1 S0 := inv_new.dom
theorem fresh_head (w : World) : Calls Tryz.prog 32 #[] w fun e w' => e = .returned (hV h1) ∧ Below w.heap.size w w' := by
  go_enter Tryz.func32, Tryz.ntmps32
  go_wp2
  exact bodyPost_ret (v := hV h1) (by simp [results, hV, h1, go_sem]) rfl ⟨rfl, (Below.refl _ _).alloc (Nat.le_refl _) _⟩
theorem map_new (w : World) : DeskR (· = w.heap.size) (w.alloc (.map #[] 0)) w.heap.size 0 S0 := by
  have hno : ∀ k x, ¬ S0.f k = some x := fun k x h => absurd (show (none : Option Bs) = some x from h) (by simp)
  exact { own := rfl, len := fun k x h => absurd h (hno k x), map := ⟨_, World.ownsMap_made w Tryz.prog tI (plainElem (H := Unit) Tryz.prog tS), ⟨fun k x _ h => absurd h (hno k x), fun k _ _ => rfl⟩⟩ }
theorem shelf_new (w : World) (lim : Int) : ShAt (w.heap.size + 1) w.heap.size lim h1 0 S0 ((w.alloc (.map #[] 0)).alloc (.cells (shC lim h1 w.heap.size 0) tSh)) ∧ Below w.heap.size w ((w.alloc (.map #[] 0)).alloc (.cells (shC lim h1 w.heap.size 0) tSh)) := by
  have hb := blk_new (w.alloc (.map #[] 0)) (.cells (shC lim h1 w.heap.size 0) tSh)
  have e1 : (w.alloc (.map #[] 0)).heap.size = w.heap.size + 1 := by simp
  rw [e1] at hb
  have hb2 : Below (w.alloc (.map #[] 0)).heap.size (w.alloc (.map #[] 0)) ((w.alloc (.map #[] 0)).alloc (.cells (shC lim h1 w.heap.size 0) tSh)) := (Below.refl _ _).alloc (Nat.le_refl _) _
  exact ⟨⟨hb, (map_new w).on hb2⟩, ((Below.refl _ _).alloc (Nat.le_refl _) _).alloc (by rw [e1]; omega) _⟩
set_option maxRecDepth 100000 in
set_option maxHeartbeats 1000000 in
theorem newS_any (lim : Int) (h1' : 1 ≤ lim) (h2' : lim ≤ 4096) (w : World) :
    Calls Tryz.prog 10 #[.int .i64 lim] w fun e w' => ∃ s d, e = .returned (ptr s) ∧ ShAt s d lim h1 0 S0 w' ∧ Below w.heap.size w w' ∧ w.heap.size ≤ s ∧ w.heap.size ≤ d := by
  have hmk := fun (w : World) => run_makeMap (P := Tryz.prog) tMp w
  have hm : min (max lim 1) 4096 = lim := by omega
  have HN := hid (fun w => shelf_new w lim)
  have HF := hid (fun w => fresh_head w)
  unfold hV h1 at HF
  simp only at HF
  clear h1' h2'
  go_enter Tryz.func10, Tryz.ntmps10
  go_wp2_with fail
  refine (HF.out _).mono ?_
  rintro e w1 ⟨rfl, hb⟩
  have HB := hid hb
  have hmk := hmk w1
  clear hb
  go_wp2
  go_ret
  obtain ⟨k1, k2⟩ := HN.out w1
  have hs := HB.out.size
  exact ⟨_, _, rfl, k1, HB.out.trans (k2.mono hs), by omega, by omega⟩
end Sh
end Go.Proofs.YtoifhcmgeackdaaGreatDoor

/-
  Contract of Full: the bytes of a page; and of a statement's own act: what it puts.
-/
namespace Go.Proofs.YtoifhcmgeackdaaGreatDoor
open Go.RowKit
namespace Sh
open Sp
open Num (hid bcells)
open Mem (Bs bs ptr)
def zerosL (n : Nat) : List UInt8 := List.replicate n 0
def zerosS (n : Nat) : ByteArray := ⟨(zerosL n).toArray⟩
theorem zerosS_size (n : Nat) : (zerosS n).size = n := by show (zerosL n).toArray.size = n; simp [zerosL]
/-- A made row of noughts. -/
theorem make_row (w : World) (n : Nat) (hn : n ≤ 1000000) : ∃ w', (Instr.makeSlice 42 (.int .i64 (n : Int)) (.int .i64 (n : Int))).run Tryz.prog w = .ok (.slice (some ⟨w.heap.size, 0, none⟩) n n) w' ∧
    w'.ownsRow w.heap.size 5 1 (.slice (some ⟨w.heap.size, 0, none⟩) n n) n (bcells (zerosL n)) ∧ Below w.heap.size w w' := by
  obtain ⟨i, hi, h0, h1, h2⟩ := info_parts Num.Tryz.info5
  obtain ⟨w', hr, ho, hg⟩ := run_make_full (P := Tryz.prog) w w.heap.size 42 5 i _ 1 Tryz.underlying42 hi h0 h1 .i64 .i64 n (by rw [h2]; omega) (by unfold maxLen; omega) (Nat.le_refl _)
  rw [Nat.mul_one] at ho
  have hz := Num.made_zero ho
  rw [List.append_nil] at hz
  exact ⟨w', hr, hz, (Below.refl _ w).grown hg (Nat.le_refl _) (fun k hk => by cases hk)⟩
/-- string(make([]byte, n)) in two steps. -/
theorem make_conv (w : World) (n : Nat) (h1 : 1 ≤ n) (hn : n ≤ 1000000) : ∃ w', (Instr.makeSlice 42 (.int .i64 (n : Int)) (.int .i64 (n : Int))).run Tryz.prog w = .ok (.slice (some ⟨w.heap.size, 0, none⟩) n n) w' ∧
    (convert 42 9 (.slice (some ⟨w.heap.size, 0, none⟩) n n)).run Tryz.prog w' = .ok (.string (zerosS n)) w' ∧ Below w.heap.size w w' := by
  obtain ⟨w', hr, ho, hb⟩ := make_row w n hn
  exact ⟨w', hr, Num.conv_own (P := Tryz.prog) (l := zerosL n) (n := n) 42 9 5 Tryz.underlying42 Tryz.underlying5 Tryz.underlying9 (by simp [zerosL]) (by simp [zerosL]; omega) ho, hb⟩

def full (s : ByteArray) : ByteArray := if 232 ≤ s.size then s.extract 0 232 else s ++ zerosS (232 - s.size)
theorem full_size (s : ByteArray) : (full s).size = 232 := by
  unfold full
  split
  · rename_i h; rw [ByteArray.size_extract]; omega
  · rename_i h; rw [ByteArray.size_append, zerosS_size]; omega

set_option maxRecDepth 100000 in
set_option maxHeartbeats 400000 in
theorem full_any (s : ByteArray) (w : World) :
    Calls Tryz.prog 15 #[.string s] w fun e w' => e = .returned (.string (full s)) ∧ Below w.heap.size w w' := by
  by_cases h : 232 ≤ s.size
  · have hf : full s = s.extract 0 232 := if_pos h
    rw [hf]
    have h1 : (232 : Int) ≤ (s.size : Int) := by omega
    have h2 : 232 ≤ s.size := h
    clear h hf
    go_enter Tryz.func15, Tryz.ntmps15
    go_wp2
    go_ret
    exact ⟨rfl, Below.refl _ _⟩
  · have hf : full s = s ++ zerosS (232 - s.size) := if_neg h
    rw [hf]
    have h1 : ¬ (232 : Int) ≤ (s.size : Int) := by omega
    obtain ⟨w1, hmk, hcv, hb⟩ := make_conv w (232 - s.size) (by omega) (by omega)
    have e : (((232 - s.size : Nat) : Int)) = 232 - (s.size : Int) := by omega
    rw [e] at hmk
    have hz : ¬ 9223372036854775807 < s.size + (zerosS (232 - s.size)).size := by rw [zerosS_size]; omega
    clear h hf e
    go_enter Tryz.func15, Tryz.ntmps15
    go_wp2
    go_ret
    exact ⟨rfl, hb⟩

theorem full_data (s : ByteArray) : ∃ l : Bs, full s = bs l ∧ l.length = 232 := by
  refine ⟨(full s).data.toList, ?_, ?_⟩
  · show _ = (⟨(full s).data.toList.toArray⟩ : ByteArray)
    rw [Array.toArray_toList]
  · have := full_size s
    rw [Array.length_toList]
    exact this
end Sh
end Go.Proofs.YtoifhcmgeackdaaGreatDoor

/-
  What the statements' walks carry: a shelf of the call's own, rows of the call's own, the old memory; its calls as they go on.
-/
namespace Go.Proofs.YtoifhcmgeackdaaGreatDoor
open Go.RowKit
namespace Sh
open Sp
open Num (hid)
open Mem (Bs bs IAt tI tS tIs tSs Chg Row ptr blk_cell blk_free blk_new blk_set blk_other blk_alloc row_kept row_shape row_type)
structure ShL (s d N cnt : Nat) (lim : Int) (h : Hd) (arm : Int) (S : St) (w0 w : World) : Prop where
  at' : ShAt s d lim h arm S w
  ns : N ≤ s
  nd : N ≤ d
  be : Below N w0 w
  sm : Small cnt S
variable {s d N cnt : Nat} {lim : Int} {h : Hd} {arm : Int} {S : St} {w0 w w' : World}
theorem ShL.size (k : ShL s d N cnt lim h arm S w0 w) : N ≤ w.heap.size := Nat.le_trans k.ns (Nat.le_of_lt k.at'.lt.1)
theorem ShL.kept (k : ShL s d N cnt lim h arm S w0 w) (hb : Below w.heap.size w w') : ShL s d N cnt lim h arm S w0 w' := ⟨k.at'.on hb, k.ns, k.nd, k.be.trans (hb.mono k.size), k.sm⟩
theorem ShL.turned {cnt' : Nat} {h' : Hd} {arm' : Int} {S' : St} (k : ShL s d N cnt lim h arm S w0 w) (A : ShAt s d lim h' arm' S' w') (hc : Chg (Two s d) w w') (hm : Small cnt' S') : ShL s d N cnt' lim h' arm' S' w0 w' :=
  ⟨A, k.ns, k.nd, k.be.trans (hc.below k.size (fun j hj e => by have := k.ns; have := k.nd; rcases e with e | e <;> omega)), hm⟩
/-- Something of the call's own, beside the shelf, has turned. -/
theorem ShL.beside {F : Nat → Prop} (k : ShL s d N cnt lim h arm S w0 w) (hc : Chg F w w') (hF : ∀ g, F g → N ≤ g ∧ g ≠ s ∧ g ≠ d) : ShL s d N cnt lim h arm S w0 w' :=
  ⟨k.at'.apart hc (fun e => (hF s e).2.1 rfl) (fun e => (hF d e).2.2 rfl), k.ns, k.nd, k.be.trans (hc.below k.size (fun j hj e => by have := (hF j e).1; omega)), k.sm⟩
theorem ShL.more (k : ShL s d N cnt lim h arm S w0 w) {cnt' : Nat} (hc : cnt ≤ cnt') : ShL s d N cnt' lim h arm S w0 w := ⟨k.at', k.ns, k.nd, k.be, k.sm.more hc⟩
/-- A row of the call's own, beside the shelf. -/
structure Own (s d N : Nat) (t : TypeId) (w : World) (v : Value) (n : Nat) (xs : List Value) : Prop where
  row : w.ownsRow 0 t 1 v n xs
  own : ∀ g, v.ownBlock = some g → N ≤ g ∧ g ≠ s ∧ g ≠ d
variable {t : TypeId} {v : Value} {n : Nat} {xs : List Value}
theorem Own.on (h : Own s d N t w v n xs) (hb : Below w.heap.size w w') : Own s d N t w' v n xs := ⟨row_kept h.row (Chg.of_below (F := fun _ => False) hb) (fun _ _ h => h), h.own⟩
theorem Own.turned (h : Own s d N t w v n xs) (hc : Chg (Two s d) w w') : Own s d N t w' v n xs := ⟨row_kept h.row hc (fun g hg e => by have := h.own g hg; rcases e with e | e <;> omega), h.own⟩
theorem Own.apart {F : Nat → Prop} (h : Own s d N t w v n xs) (hc : Chg F w w') (hF : ∀ g, v.ownBlock = some g → ¬ F g) : Own s d N t w' v n xs := ⟨row_kept h.row hc hF, h.own⟩
/-- A row that was made or grown beside the shelf. -/
theorem Own.made {v' : Value} {n' : Nat} {xs' : List Value} (k : ShL s d N cnt lim h arm S w0 w) (hr : w'.ownsRow 0 t 1 v' n' xs') (hg : ∀ g, v'.ownBlock = some g → w.heap.size ≤ g) : Own s d N t w' v' n' xs' := ⟨hr, fun g e => by
  have h1 := hg g e
  have h2 := k.at'.lt
  have h3 := k.size
  omega⟩
theorem Own.grown {v' : Value} {n' : Nat} {xs' : List Value} (o : Own s d N t w v n xs) (k : ShL s d N cnt lim h arm S w0 w) (hr : w'.ownsRow 0 t 1 v' n' xs') (hg : ∀ g, v'.ownBlock = some g → v.ownBlock = some g ∨ w.heap.size ≤ g) : Own s d N t w' v' n' xs' := ⟨hr, fun g e => by
  rcases hg g e with h1 | h1
  · exact o.own g h1
  · have h2 := k.at'.lt
    have h3 := k.size
    omega⟩
/-! ### fields of a head -/
theorem fld1 (a b c x e f : Int) (w : World) : (Instr.field tH (.agg #[.int .i64 a, .int .i64 b, .int .i64 c, .int .i64 x, .int .i64 e, .int .u64 f]) 1).run Tryz.prog w = .ok (.int .i64 b) w := by kernel_rfl
theorem fld3 (a b c x e f : Int) (w : World) : (Instr.field tH (.agg #[.int .i64 a, .int .i64 b, .int .i64 c, .int .i64 x, .int .i64 e, .int .u64 f]) 3).run Tryz.prog w = .ok (.int .i64 x) w := by kernel_rfl
/-! ### calls -/
variable {U F : List Int}
theorem ShL.take (k : ShL s d N cnt lim h arm S w0 w) (ha : arm < 1) (hc : cnt ≤ 20000) (inv : Inv h S U F) (hl : lim ≤ 4096) (hp : h.pages ≤ lim) (hroom : ¬ (F.length = 0 ∧ lim ≤ h.pages)) :
    Calls Tryz.prog 12 #[ptr s] w fun e w' => ∃ (n : Int) (h' : Hd) (S' : St) (F' : List Int), e = .returned (.tuple #[.int .i64 n, .int .i64 0]) ∧ ShL s d N (cnt + 3) lim h' arm S' w0 w' ∧ Inv h' S' (U ++ [n]) F' ∧ h'.pages ≤ lim ∧ n ∉ U ∧ 1 ≤ n ∧ n < h'.pages ∧ F'.length = F.length - 1 ∧ (∀ x, x ∈ U → S'.f x = S.f x) ∧ S'.f n = some (zeros 232) ∧ Chg (Two s d) w w' := by
  obtain ⟨n, h', S', F', hg, h1, h2, h3, h4, h5, h6, h7, h8⟩ := inv_take inv (by have := inv.sp; omega) (zeros 232)
  have hspare : h.spare = F.length := inv.sp
  have hq : newM lim h S = ((n, 0), h', S'.set n (zeros 232)) := by
    unfold newM
    rw [if_neg (by omega), hg]
    exact if_neg (fun e => e rfl)
  refine (new_any k.at' ha (inv.fit (by omega)) k.sm (by omega)).mono ?_
  rintro e w' ⟨rfl, hA, hC⟩
  rw [hq] at hA ⊢
  have hm : Small (cnt + 3) (S'.set n (zeros 232)) := by
    have := k.sm
    unfold Small at *
    show S'.n + 1 ≤ _
    omega
  refine ⟨n, h', _, F', rfl, k.turned hA hC hm, h6, ?_, h3, h4, h5, h7, h2, set_same _ _ _, hC⟩
  rw [h8]
  split
  · rename_i h9
    have : ¬ lim ≤ h.pages := fun e => hroom ⟨h9, e⟩
    omega
  · omega
theorem ShL.full (k : ShL s d N cnt lim h arm S w0 w) (ha : arm < 1) (hc : cnt ≤ 20000) (inv : Inv h S U F) (hp4 : h.pages ≤ 4096) (hF : F.length = 0) (hp : lim ≤ h.pages) :
    Calls Tryz.prog 12 #[ptr s] w fun e w' => e = .returned (.tuple #[.int .i64 0, .int .i64 22]) ∧ ShL s d N cnt lim h arm S w0 w' ∧ Chg (Two s d) w w' := by
  have hspare : h.spare = F.length := inv.sp
  have hq : newM lim h S = ((0, 22), h, S) := if_pos ⟨by omega, hp⟩
  refine (new_any k.at' ha (inv.fit hp4) k.sm (by omega)).mono ?_
  rintro e w' ⟨rfl, hA, hC⟩
  rw [hq] at hA ⊢
  exact ⟨rfl, k.turned hA hC k.sm, hC⟩
theorem ShL.give (k : ShL s d N cnt lim h arm S w0 w) (ha : arm < 1) (hc : cnt ≤ 20000) (inv : Inv h S U F) (hp : h.pages ≤ 4096) {i : Nat} (hi : i < U.length) :
    Calls Tryz.prog 20 #[ptr s, .int .i64 U[i]] w fun e w' => ∃ (h' : Hd) (S' : St), e = .returned (.int .i64 0) ∧ ShL s d N (cnt + 3) lim h' arm S' w0 w' ∧ Inv h' S' (U.take i ++ U.drop (i + 1)) (U[i] :: F) ∧ h'.pages = h.pages ∧ (∀ x, x ∈ U.take i ++ U.drop (i + 1) → S'.f x = S.f x) ∧ Chg (Two s d) w w' := by
  have hr := inv.rg U[i] (List.mem_append_left F (List.getElem_mem hi))
  obtain ⟨x, hx⟩ := inv.dom.yes hr.1 hr.2
  obtain ⟨h', S', hg, h1, h2, h3, h4⟩ := inv_give inv hp hi
  have hq : freeM h S U[i] = (0, h', S') := by
    unfold freeM
    rw [if_neg (by rw [hx]; simp), hg]
    exact if_neg (fun e => e rfl)
  refine (free_any k.at' ha (inv.fit hp) k.sm (by omega) (wf_of (by omega) (by omega))).mono ?_
  rintro e w' ⟨rfl, hA, hC⟩
  rw [hq] at hA ⊢
  have hm : Small (cnt + 3) S' := by
    have := k.sm
    unfold Small at *
    omega
  exact ⟨h', S', rfl, k.turned hA hC hm, h3, h4, h2, hC⟩
theorem ShL.put (k : ShL s d N cnt lim h arm S w0 w) (ha : arm < 1) (hc : cnt ≤ 20000) (inv : Inv h S U F) (hp : h.pages ≤ 4096) {n : Int} (hn : n ∈ U) (x : Bs) (hx : x.length = 232) :
    Calls Tryz.prog 14 #[ptr s, .int .i64 n, .string (bs x)] w fun e w' => e = .returned (.int .i64 0) ∧ ShL s d N (cnt + 3) lim h arm (S.set n x) w0 w' ∧ Inv h (S.set n x) U F ∧ Chg (Two s d) w w' := by
  have hr := inv.rg n (List.mem_append_left F hn)
  obtain ⟨y, hy⟩ := inv.dom.yes hr.1 hr.2
  refine (put_ok k.at' ha k.sm (by omega) (wf_of (by omega) (by omega)) x).mono ?_
  rintro e w' ⟨rfl, hA, hC⟩
  rw [put_yes hy hx] at hA ⊢
  have hm : Small (cnt + 3) (S.set n x) := by
    have := k.sm
    unfold Small at *
    show S.n + 1 ≤ _
    omega
  exact ⟨rfl, k.turned hA hC hm, inv.put hn x, hC⟩
theorem ShL.get (k : ShL s d N cnt lim h arm S w0 w) (ha : arm < 1) {n : Int} (hn : Wf n) {x : Bs} (hx : S.f n = some x) :
    Calls Tryz.prog 97 #[ptr s, .int .i64 n] w fun e w' => e = .returned (.tuple #[.string (bs x), .int .i64 0]) ∧ Below w.heap.size w w' := by
  refine (get_ok k.at' ha hn).mono ?_
  rintro e w' ⟨rfl, hb⟩
  rw [get_yes hx]
  exact ⟨rfl, hb⟩
theorem ShL.new (lim : Int) (h1' : 1 ≤ lim) (h2' : lim ≤ 4096) {w0 w : World} (hb0 : Below w0.heap.size w0 w) :
    Calls Tryz.prog 10 #[.int .i64 lim] w fun e w' => ∃ s d, e = .returned (ptr s) ∧ ShL s d w0.heap.size 0 lim h1 0 S0 w0 w' := by
  refine (newS_any lim h1' h2' w).mono ?_
  rintro e w' ⟨s, d, rfl, hA, hb, hs, hd⟩
  have := hb0.size
  exact ⟨s, d, rfl, hA, by omega, by omega, hb0.trans (hb.mono hb0.size), small0⟩
end Sh
end Go.Proofs.YtoifhcmgeackdaaGreatDoor

/-
  A shelf whose calls may fail one day: Get, Put and New as they count.
-/
namespace Go.Proofs.YtoifhcmgeackdaaGreatDoor
open Go.RowKit
namespace Sh
open Sp
open Num (hid)
open Mem (Bs bs IAt tI tS tIs tSs Chg Row ptr blk_cell blk_free blk_new blk_set blk_other blk_alloc row_kept row_shape row_type)
variable {s d : Nat} {lim : Int} {h : Hd} {arm : Int} {S : St} {w w' : World}
/-- What Arm counts to, behind a call. -/
def spend (arm : Int) : Int := if arm < 1 then arm else arm - 1
theorem spend_low {arm : Int} (h : arm < 1) : spend arm = arm := if_pos h
/-- The next call doesn't fail. -/
def Calm (arm : Int) : Prop := arm ≠ 1 ∧ arm ≤ 1000
set_option maxRecDepth 100000 in
theorem call_any (A : ShAt s d lim h arm S w) (ha : Calm arm) : Calls Tryz.prog 34 #[ptr s] w fun e w' => e = .returned (.int .i64 0) ∧ ShAt s d lim h (spend arm) S w' ∧ Chg (Two s d) w w' := by
  by_cases h0 : arm < 1
  · refine (call_ok A.blk h0).mono ?_
    rintro e w' ⟨rfl, rfl⟩
    rw [spend_low h0]
    exact ⟨rfl, A, Chg.refl _ _⟩
  · obtain ⟨-, -, -, -, -, -, -, -, c8⟩ := A.blk.cells
    obtain ⟨-, -, -, -, -, -, f8⟩ := A.blk.free
    have hlt := A.lt.1
    have hs : spend arm = arm - 1 := if_neg h0
    have h2 : 1 < arm := by unfold Calm at ha; omega
    have h1 : (arm == 1) = false := by rw [beq_eq_false_iff_ne]; omega
    have hw : wrap64 (arm - 1) = arm - 1 := by rw [Num.wrap_i]; unfold Calm at ha; omega
    have HC : Hid (Chg (· = s) w (w.setCell ⟨s, 8, none⟩ (.int .i64 (arm - 1)))) := hid ((Chg.refl _ w).root 8 _)
    have HA : Hid (ShAt s d lim h (arm - 1) S (w.setCell ⟨s, 8, none⟩ (.int .i64 (arm - 1)))) := hid ⟨blk_set A.blk 8 _, A.pages.apart HC.out (fun k hk e => A.ne (hk.symm.trans e))⟩
    rw [hs]
    clear A hs h0 ha
    go_enter Tryz.func34, Tryz.ntmps34
    go_wp2
    go_ret
    exact ⟨rfl, HA.out, HC.out.mono (fun _ _ e => Or.inl e)⟩
set_option maxRecDepth 100000 in
theorem get_arm (A : ShAt s d lim h arm S w) (ha : Calm arm) {n : Int} (hn : Wf n) :
    Calls Tryz.prog 97 #[ptr s, .int .i64 n] w fun e w' => e = .returned (.tuple #[.string (bs (S.get n).1.1), .int .i64 (S.get n).1.2]) ∧ ShAt s d lim h (spend arm) S w' ∧ Chg (Two s d) w w' := by
  have HC := hid (call_any A ha)
  have HG := hid (fun (wz : World) (D : DeskR (· = d) wz d 0 S) => pget_any D hn)
  generalize (S.get n).1 = x at *
  clear A ha hn
  go_enter Tryz.func97, Tryz.ntmps97
  go_wp2_with fail
  refine HC.out.mono ?_
  rintro e w1 ⟨rfl, hA, hC⟩
  have HA := hid hA
  have HC1 := hid hC
  obtain ⟨-, -, -, -, -, -, -, c7, -⟩ := hA.blk.cells
  clear hA hC
  go_wp2_with fail
  refine (HG.out _ HA.out.pages).mono ?_
  rintro e w2 ⟨rfl, hb⟩
  have HB := hid hb
  clear hb c7
  go_wp2
  go_ret2
  exact ⟨rfl, HA.out.on HB.out, HC1.out.trans (Chg.of_below HB.out)⟩
set_option maxRecDepth 100000 in
theorem put_arm (A : ShAt s d lim h arm S w) (ha : Calm arm) {c : Nat} (hS : Small c S) (hc : c ≤ 50000) {n : Int} (hn : Wf n) (x : Bs) :
    Calls Tryz.prog 14 #[ptr s, .int .i64 n, .string (bs x)] w fun e w' => e = .returned (.int .i64 (S.put n x).1) ∧ ShAt s d lim h (spend arm) (S.put n x).2 w' ∧ Chg (Two s d) w w' := by
  have HC := hid (call_any A ha)
  have HP := hid (fun (wz : World) (D : DeskR (· = d) wz d 0 S) => dput_any D hS hc n hn x)
  generalize S.put n x = y at *
  generalize spend arm = arm2 at *
  clear A ha hn hS hc
  go_enter Tryz.func14, Tryz.ntmps14
  go_wp2_with fail
  refine HC.out.mono ?_
  rintro e w1 ⟨rfl, hA, hC⟩
  have HA := hid hA
  have HC1 := hid hC
  obtain ⟨-, -, -, -, -, -, -, c7, -⟩ := hA.blk.cells
  clear hA hC
  go_wp2_with fail
  refine (HP.out _ HA.out.pages).mono ?_
  rintro e w2 ⟨rfl, hd, hc⟩
  have HF : Hid (ShAt s d lim h arm2 y.2 w2 ∧ Chg (Two s d) w w2) := hid ⟨⟨hc.at HA.out.blk HA.out.ne, hd⟩, HC1.out.trans (hc.mono (fun _ _ e => Or.inr e))⟩
  clear hd hc c7
  go_wp2
  go_ret
  exact ⟨rfl, HF.out.1, HF.out.2⟩
set_option maxRecDepth 100000 in
theorem new_io1 (b : ShBlk s d lim h 1 w) :
    Calls Tryz.prog 12 #[ptr s] w fun e w' => e = .returned (.tuple #[.int .i64 0, .int .i64 11]) ∧ w = w' := by
  have HC := hid (call_io b)
  clear b
  go_enter Tryz.func12, Tryz.ntmps12
  go_wp2_with fail
  refine HC.out.mono ?_
  rintro e w1 ⟨rfl, rfl⟩
  go_wp2
  go_ret2
  exact ⟨rfl, rfl⟩
set_option maxRecDepth 100000 in
set_option maxHeartbeats 4000000 in
theorem new_arm {w0 : World} {arm0 : Int} (A0 : ShAt s d lim h arm0 S w0) (ha0 : Calm arm0) (hf : Fit h) {c : Nat} (hS : Small c S) (hc : c ≤ 30000) :
    Calls Tryz.prog 12 #[ptr s] w0 fun e w' => e = .returned (.tuple #[.int .i64 (newM lim h S).1.1, .int .i64 (newM lim h S).1.2]) ∧ ShAt s d lim (newM lim h S).2.1 (spend arm0) (newM lim h S).2.2 w' ∧ Chg (Two s d) w0 w' := by
  have HC := hid (call_any A0 ha0)
  generalize spend arm0 = arm at *
  have HT := hid (fun (wz : World) (D : DeskR (· = d) wz d 0 S) => take_map D hS hc h hf)
  have HW := hid (take_wf hf S)
  have HSM := hid (And.intro (small_takeM hS h) hc)
  by_cases hg1 : h.spare = 0 ∧ lim ≤ h.pages
  · obtain ⟨g1, g2⟩ := hg1
    have e : newM lim h S = ((0, 22), h, S) := if_pos ⟨g1, g2⟩
    rw [e]
    have h1 : (h.spare == 0) = true := by simpa using g1
    have h2 : decide (lim ≤ h.pages) = true := decide_eq_true g2
    clear A0 ha0 hS hc hf g1 HT HW e
    go_enter Tryz.func12, Tryz.ntmps12
    go_wp2_with fail
    refine HC.out.mono ?_
    rintro e w ⟨rfl, A, hC0⟩
    have HC0 := hid hC0
    have HA := hid A
    have hA2 := A.blk
    obtain ⟨c0, c1, c2, c3, c4, c5, c6, c7, c8⟩ := A.blk.cells
    have hlt := A.lt.1
    clear A hC0
    go_wp2_with fail
    go_quiet (fail)
    rename_i nq
    have HB := hid (below_drewN (Below.refl w.heap.size w) nq)
    go_wp2
    go_ret2
    exact ⟨rfl, HA.out.on HB.out, HC0.out.trans (Chg.of_below HB.out)⟩
  · have e : newM lim h S = more (takeM h S) h := if_neg hg1
    rw [e]
    have hq : (h.spare == 0) = false ∨ ((h.spare == 0) = true ∧ decide (lim ≤ h.pages) = false) := by
      by_cases h0 : h.spare = 0
      · exact Or.inr ⟨by simpa using h0, decide_eq_false (fun h1 => hg1 ⟨h0, h1⟩)⟩
      · exact Or.inl (by simpa using h0)
    generalize hX : takeM h S = X at *
    obtain ⟨⟨n, h', e1⟩, S'⟩ := X
    simp only at HW HSM
    unfold takeV hV at HT
    simp only at HT
    clear A0 ha0 hS hc hf hg1 hX e
    rcases hq with hq | ⟨hq, hq2⟩
    all_goals
      go_enter Tryz.func12, Tryz.ntmps12
      go_wp2_with fail
      refine HC.out.mono ?_
      rintro e w ⟨rfl, A, hC0⟩
      have HC0 := hid hC0
      have HA := hid A
      have hA2 := A.blk
      obtain ⟨c0, c1, c2, c3, c4, c5, c6, c7, c8⟩ := A.blk.cells
      have hlt := A.lt.1
      clear A hC0
      go_wp2_with fail
      go_quiet (fail)
      rename_i nq
      have HB := hid (below_drewN (Below.refl w.heap.size w) nq)
      have hb2 : ShBlk s d lim h arm (w.drewN nq) := hA2
      have HD2 : Hid (DeskR (· = d) (w.drewN nq) d 0 S) := hid (HA.out.pages.on HB.out)
      have HN2 : Hid (s < (w.drewN nq).heap.size ∧ d < (w.drewN nq).heap.size ∧ s ≠ d) := hid ⟨HA.out.lt.1, HA.out.lt.2, HA.out.ne⟩
      clear c0 c1 c2 c3 c4 c5 c6 c7 c8 hA2
      generalize w.drewN nq = w2 at *
      obtain ⟨c1, c2, c3, c4, c5, c6, c7⟩ := hb2.seven
      have K2 := hid hb2
      clear hb2
      go_upto_region 6 with fail
      have HTA := hid (HT.out w2.drew (HD2.out.on (Below.refl _ _).drew))
      have HTB := hid (HT.out (w2.alloc zObj).drew (HD2.out.on ((Below.refl _ _).alloc (Nat.le_refl _) zObj).drew))
      have KA := hid (ShBlk.seven (show ShBlk s d lim h arm w2.drew from K2.out))
      have KB := hid (ShBlk.seven (show ShBlk s d lim h arm (w2.alloc zObj).drew from K2.out.beside zObj))
      go_region_held3 (fun W => W.cell? ⟨s, 1, none⟩ = some (.int .i64 h.mode) ∧ W.cell? ⟨s, 2, none⟩ = some (.int .i64 h.pages) ∧ W.cell? ⟨s, 3, none⟩ = some (.int .i64 h.trunk) ∧ W.cell? ⟨s, 4, none⟩ = some (.int .i64 h.spare) ∧ W.cell? ⟨s, 5, none⟩ = some (.int .i64 h.root) ∧ W.cell? ⟨s, 6, none⟩ = some (.int .u64 (h.change : Nat)) ∧ W.cell? ⟨s, 7, none⟩ = some (.map (some d)))
        (first | with_reducible exact KA.out | with_reducible exact KB.out | with_reducible exact K3.out | with_reducible exact K4.out | with_reducible exact K5.out)
        (first
          | go_at_call 35; with_reducible refine HTA.out.mono ?_; rintro e w3 ⟨rfl, hd3, hc3⟩; have F3 := hid (take_callA K2.out HD2.out HN2.out hd3 hc3); have K3 := hid (ShBlk.seven F3.out.1); have K4 := hid (ShBlk.seven (F3.out.1.beside zObj)); have K5 := hid (ShBlk.seven (F3.out.1.beside (hObj h'))); clear hd3 hc3
          | go_at_call 35; with_reducible refine HTB.out.mono ?_; rintro e w3 ⟨rfl, hd3, hc3⟩; have F3 := hid (take_callB K2.out HD2.out HN2.out hd3 hc3); have K3 := hid (ShBlk.seven F3.out.1); have K5 := hid (ShBlk.seven (ShBlk.box6 F3.out.1 (F3.out.2.1) h')); obtain ⟨x0, x1, x2, x3, x4, x5⟩ := F3.out.2.2.1.cells; obtain ⟨z0, z1, z2, z3, z4, z5⟩ := F3.out.2.2.1.free; have hxl := F3.out.2.2.1.lt; clear hd3 hc3)
      · have E4 := hid (fin_A F3.out h')
        generalize hg : w3.heap.size = g at *
        generalize w3.alloc (.cells #[.int .i64 h'.mode, .int .i64 h'.pages, .int .i64 h'.trunk, .int .i64 h'.spare, .int .i64 h'.root, .int .u64 (h'.change : Nat)] tH) = w4 at *
        obtain ⟨q0, q1, q2, q3, q4, q5, q6, q7, q8⟩ := E4.out.at'.blk.cells
        obtain ⟨f1, f2, f3, f4, f5, f6, f8⟩ := E4.out.at'.blk.free
        obtain ⟨x0, x1, x2, x3, x4, x5⟩ := E4.out.hb.cells
        have l1 := E4.out.at'.lt.1
        have l2 := E4.out.hb.lt
        by_cases he : e1 = 0
        · subst he
          have hm : more ((n, h', 0), S') h = ((n, 0), h', S'.set n (zeros 232)) := if_neg (fun e => e rfl)
          have HM := hid hm
          have hwn := HW.out rfl
          have HA5 := hid (E4.out.at'.putA h')
          have HP5 := hid (fun (w6 : World) (A6 : ShAt s d lim h' arm S' w6) => A6.page HSM.out.1 (by have := HSM.out.2; omega) hwn (zeros 232) (zeros_len 232))
          clear hm hwn
          go_upto_region 10 with fail
          clear q0 q1 q2 q3 q4 q5 q6 q7 q8 f1 f2 f3 f4 f5 f6 f8 x0 x1 x2 x3 x4 x5 l1 l2
          unfold putH at HA5
          generalize (((((w4.setCell ⟨s, 1, none⟩ (.int .i64 h'.mode)).setCell ⟨s, 2, none⟩ (.int .i64 h'.pages)).setCell ⟨s, 3, none⟩ (.int .i64 h'.trunk)).setCell ⟨s, 4, none⟩ (.int .i64 h'.spare)).setCell ⟨s, 5, none⟩ (.int .i64 h'.root)).setCell ⟨s, 6, none⟩ (.int .u64 (h'.change : Nat)) = w5 at *
          have HRZ := hid (zeros_any w5.drew)
          have J5 := hid (ShBlk.map7 (show ShBlk s d lim h' arm w5.drew from HA5.out.1.blk))
          go_region_held3 (fun W => W.cell? ⟨s, 7, none⟩ = some (.map (some d)))
            (first | with_reducible exact J5.out | with_reducible exact J6.out | with_reducible exact J7.out)
            (first
              | go_at_call 36; with_reducible refine HRZ.out.mono ?_; rintro e w6 ⟨rfl, hb6⟩; obtain ⟨w7, hrun, hA7, hC7⟩ := put_fin HA5.out.1 hb6 HP5.out; have J6 := hid (ShBlk.map7 (hA7.1)); have J7 := hid (ShBlk.map7 hA7.2.blk); have K7 := hid (And.intro hA7.2 hC7); clear hb6 hA7 hC7)
          go_wp2
          go_ret2
          have HM := HM.out
          rw [HM]
          exact ⟨rfl, K7.out.1, ((HC0.out.trans (Chg.of_below HB.out)).trans (E4.out.chg.mono (fun _ _ e => Or.inr e))).trans ((HA5.out.2.mono (fun _ _ e => Or.inl e)).trans K7.out.2)⟩
        · have hm : more ((n, h', e1), S') h = ((0, e1), h, S') := if_pos he
          have HM := hid hm
          have he2 : (e1 != 0) = true := by simpa using he
          clear hm he
          go_wp2
          go_ret2
          have HM := HM.out
          rw [HM]
          exact ⟨rfl, E4.out.at', (HC0.out.trans (Chg.of_below HB.out)).trans (E4.out.chg.mono (fun _ _ e => Or.inr e))⟩
      · have E4 := hid (fin_B F3.out HN2.out h')
        unfold put6 at E4
        generalize hg : w2.heap.size = g at *
        clear x0 x1 x2 x3 x4 x5 z0 z1 z2 z3 z4 z5 hxl
        generalize (((((w3.setCell ⟨g, 0, none⟩ (.int .i64 h'.mode)).setCell ⟨g, 1, none⟩ (.int .i64 h'.pages)).setCell ⟨g, 2, none⟩ (.int .i64 h'.trunk)).setCell ⟨g, 3, none⟩ (.int .i64 h'.spare)).setCell ⟨g, 4, none⟩ (.int .i64 h'.root)).setCell ⟨g, 5, none⟩ (.int .u64 (h'.change : Nat)) = w4 at *
        obtain ⟨q0, q1, q2, q3, q4, q5, q6, q7, q8⟩ := E4.out.at'.blk.cells
        obtain ⟨f1, f2, f3, f4, f5, f6, f8⟩ := E4.out.at'.blk.free
        obtain ⟨x0, x1, x2, x3, x4, x5⟩ := E4.out.hb.cells
        have l1 := E4.out.at'.lt.1
        have l2 := E4.out.hb.lt
        by_cases he : e1 = 0
        · subst he
          have hm : more ((n, h', 0), S') h = ((n, 0), h', S'.set n (zeros 232)) := if_neg (fun e => e rfl)
          have HM := hid hm
          have hwn := HW.out rfl
          have HA5 := hid (E4.out.at'.putA h')
          have HP5 := hid (fun (w6 : World) (A6 : ShAt s d lim h' arm S' w6) => A6.page HSM.out.1 (by have := HSM.out.2; omega) hwn (zeros 232) (zeros_len 232))
          clear hm hwn
          go_upto_region 10 with fail
          clear q0 q1 q2 q3 q4 q5 q6 q7 q8 f1 f2 f3 f4 f5 f6 f8 x0 x1 x2 x3 x4 x5 l1 l2
          unfold putH at HA5
          generalize (((((w4.setCell ⟨s, 1, none⟩ (.int .i64 h'.mode)).setCell ⟨s, 2, none⟩ (.int .i64 h'.pages)).setCell ⟨s, 3, none⟩ (.int .i64 h'.trunk)).setCell ⟨s, 4, none⟩ (.int .i64 h'.spare)).setCell ⟨s, 5, none⟩ (.int .i64 h'.root)).setCell ⟨s, 6, none⟩ (.int .u64 (h'.change : Nat)) = w5 at *
          have HRZ := hid (zeros_any w5.drew)
          have J5 := hid (ShBlk.map7 (show ShBlk s d lim h' arm w5.drew from HA5.out.1.blk))
          go_region_held3 (fun W => W.cell? ⟨s, 7, none⟩ = some (.map (some d)))
            (first | with_reducible exact J5.out | with_reducible exact J6.out | with_reducible exact J7.out)
            (first
              | go_at_call 36; with_reducible refine HRZ.out.mono ?_; rintro e w6 ⟨rfl, hb6⟩; obtain ⟨w7, hrun, hA7, hC7⟩ := put_fin HA5.out.1 hb6 HP5.out; have J6 := hid (ShBlk.map7 (hA7.1)); have J7 := hid (ShBlk.map7 hA7.2.blk); have K7 := hid (And.intro hA7.2 hC7); clear hb6 hA7 hC7)
          go_wp2
          go_ret2
          have HM := HM.out
          rw [HM]
          exact ⟨rfl, K7.out.1, ((HC0.out.trans (Chg.of_below HB.out)).trans (E4.out.chg.mono (fun _ _ e => Or.inr e))).trans ((HA5.out.2.mono (fun _ _ e => Or.inl e)).trans K7.out.2)⟩
        · have hm : more ((n, h', e1), S') h = ((0, e1), h, S') := if_pos he
          have HM := hid hm
          have he2 : (e1 != 0) = true := by simpa using he
          clear hm he
          go_wp2
          go_ret2
          have HM := HM.out
          rw [HM]
          exact ⟨rfl, E4.out.at', (HC0.out.trans (Chg.of_below HB.out)).trans (E4.out.chg.mono (fun _ _ e => Or.inr e))⟩
/-! ### with what a walk carries -/
variable {N cnt : Nat} {w0 : World} {U F : List Int}
theorem calm_spend {arm : Int} (h : Calm arm) : spend arm ≤ 1000 := by
  unfold Calm at h
  unfold spend
  split <;> omega
theorem ShL.takeA (k : ShL s d N cnt lim h arm S w0 w) (ha : Calm arm) (hc : cnt ≤ 20000) (inv : Inv h S U F) (hl : lim ≤ 4096) (hp : h.pages ≤ lim) (hroom : ¬ (F.length = 0 ∧ lim ≤ h.pages)) :
    Calls Tryz.prog 12 #[ptr s] w fun e w' => ∃ (n : Int) (h' : Hd) (S' : St) (F' : List Int), e = .returned (.tuple #[.int .i64 n, .int .i64 0]) ∧ ShL s d N (cnt + 3) lim h' (spend arm) S' w0 w' ∧ Inv h' S' (U ++ [n]) F' ∧ (h'.pages ≤ lim ∧ h'.pages = h.pages + (if F.length = 0 then 1 else 0)) ∧ n ∉ U ∧ 1 ≤ n ∧ n < h'.pages ∧ F'.length = F.length - 1 ∧ (∀ x, x ∈ U → S'.f x = S.f x) ∧ Chg (Two s d) w w' := by
  obtain ⟨n, h', S', F', hg, h1, h2, h3, h4, h5, h6, h7, h8⟩ := inv_take inv (by have := inv.sp; omega) (zeros 232)
  have hspare : h.spare = F.length := inv.sp
  have hq : newM lim h S = ((n, 0), h', S'.set n (zeros 232)) := by
    unfold newM
    rw [if_neg (by omega), hg]
    exact if_neg (fun e => e rfl)
  refine (new_arm k.at' ha (inv.fit (by omega)) k.sm (by omega)).mono ?_
  rintro e w' ⟨rfl, hA, hC⟩
  rw [hq] at hA ⊢
  have hm : Small (cnt + 3) (S'.set n (zeros 232)) := by
    have := k.sm
    unfold Small at *
    show S'.n + 1 ≤ _
    omega
  refine ⟨n, h', _, F', rfl, k.turned hA hC hm, h6, ⟨?_, h8⟩, h3, h4, h5, h7, h2, hC⟩
  rw [h8]
  split
  · rename_i h9
    have : ¬ lim ≤ h.pages := fun e => hroom ⟨h9, e⟩
    omega
  · omega
theorem ShL.fullA (k : ShL s d N cnt lim h arm S w0 w) (ha : Calm arm) (hc : cnt ≤ 20000) (inv : Inv h S U F) (hp4 : h.pages ≤ 4096) (hF : F.length = 0) (hp : lim ≤ h.pages) :
    Calls Tryz.prog 12 #[ptr s] w fun e w' => e = .returned (.tuple #[.int .i64 0, .int .i64 22]) ∧ ShL s d N cnt lim h (spend arm) S w0 w' ∧ Chg (Two s d) w w' := by
  have hspare : h.spare = F.length := inv.sp
  have hq : newM lim h S = ((0, 22), h, S) := if_pos ⟨by omega, hp⟩
  refine (new_arm k.at' ha (inv.fit hp4) k.sm (by omega)).mono ?_
  rintro e w' ⟨rfl, hA, hC⟩
  rw [hq] at hA ⊢
  exact ⟨rfl, k.turned hA hC k.sm, hC⟩
theorem ShL.putA (k : ShL s d N cnt lim h arm S w0 w) (ha : Calm arm) (hc : cnt ≤ 20000) (inv : Inv h S U F) (hp : h.pages ≤ 4096) {n : Int} (hn : n ∈ U) (x : Bs) (hx : x.length = 232) :
    Calls Tryz.prog 14 #[ptr s, .int .i64 n, .string (bs x)] w fun e w' => e = .returned (.int .i64 0) ∧ ShL s d N (cnt + 3) lim h (spend arm) (S.set n x) w0 w' ∧ Inv h (S.set n x) U F ∧ Chg (Two s d) w w' := by
  have hr := inv.rg n (List.mem_append_left F hn)
  obtain ⟨y, hy⟩ := inv.dom.yes hr.1 hr.2
  refine (put_arm k.at' ha k.sm (by omega) (wf_of (by omega) (by omega)) x).mono ?_
  rintro e w' ⟨rfl, hA, hC⟩
  rw [put_yes hy hx] at hA ⊢
  have hm : Small (cnt + 3) (S.set n x) := by
    have := k.sm
    unfold Small at *
    show S.n + 1 ≤ _
    omega
  exact ⟨rfl, k.turned hA hC hm, inv.put hn x, hC⟩
theorem ShL.getA (k : ShL s d N cnt lim h arm S w0 w) (ha : Calm arm) {n : Int} (hn : Wf n) :
    Calls Tryz.prog 97 #[ptr s, .int .i64 n] w fun e w' => e = .returned (.tuple #[.string (bs (S.get n).1.1), .int .i64 (S.get n).1.2]) ∧ ShL s d N cnt lim h (spend arm) S w0 w' ∧ Chg (Two s d) w w' := by
  refine (get_arm k.at' ha hn).mono ?_
  rintro e w' ⟨rfl, hA, hC⟩
  exact ⟨rfl, k.turned hA hC k.sm, hC⟩
theorem new_lim (lim : Int) (h1' : lim < 1) (w : World) :
    Calls Tryz.prog 10 #[.int .i64 lim] w fun e w' => ∃ s d, e = .returned (ptr s) ∧ ShAt s d 1 h1 0 S0 w' ∧ Below w.heap.size w w' ∧ w.heap.size ≤ s ∧ w.heap.size ≤ d := by
  have hmk := fun (w : World) => run_makeMap (P := Tryz.prog) tMp w
  have hm : min (max lim 1) 4096 = 1 := by omega
  have HN := hid (fun w => shelf_new w 1)
  have HF := hid (fun w => fresh_head w)
  unfold hV h1 at HF
  simp only at HF
  clear h1'
  go_enter Tryz.func10, Tryz.ntmps10
  go_wp2_with fail
  refine (HF.out _).mono ?_
  rintro e w1 ⟨rfl, hb⟩
  have HB := hid hb
  have hmk := hmk w1
  clear hb
  go_wp2
  go_ret
  obtain ⟨k1, k2⟩ := HN.out w1
  have hs := HB.out.size
  exact ⟨_, _, rfl, k1, HB.out.trans (k2.mono hs), by omega, by omega⟩
theorem ShL.newL (lim : Int) (h2' : lim ≤ 4096) {w0 w : World} (hb0 : Below w0.heap.size w0 w) :
    Calls Tryz.prog 10 #[.int .i64 lim] w fun e w' => ∃ s d, e = .returned (ptr s) ∧ ShL s d w0.heap.size 0 (max lim 1) h1 0 S0 w0 w' := by
  have hs0 := hb0.size
  by_cases h : 1 ≤ lim
  · rw [Int.max_eq_left h]
    exact ShL.new lim h h2' hb0
  · rw [Int.max_eq_right (by omega)]
    refine (new_lim lim (by omega) w).mono ?_
    rintro e w' ⟨s, d, rfl, hA, hb, hs, hd⟩
    exact ⟨s, d, rfl, hA, by omega, by omega, hb0.trans (hb.mono hs0), small0⟩
end Sh
end Go.Proofs.YtoifhcmgeackdaaGreatDoor
