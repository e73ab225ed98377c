/-
  Put together: DiskNames, DiskOper, DiskModel, DiskDir, DiskClos.
-/
import Derived.Test.YtgmbiiocjhkpdaaGreatGrpJDka
import Derived.Test.YtgmbiiocjhkpdaaGreatDiskShelf
import Derived.Shelf.SlIter.Nil
import Derived.Shelf.SortM.Plain
import Derived.Shelf.SortM.SortNone
import Derived.RegionTactic
/-
  Contract of the project's disk: its names, rising.
-/
namespace Go.Proofs.YtgmbiiocjhkpdaaGreat
open Go.RowKit Go.Maps Go.Sort Go.Shelf
namespace Disk
open Num (hid bcells)


theorem before_lt : ∀ {a b : List UInt8}, bytesBefore a b = true → a < b
  | [], [], h => by cases h
  | [], _ :: _, _ => List.nil_lt_cons _ _
  | _ :: _, [], h => by cases h
  | x :: r, y :: s, h => by
    have h' : (decide (x < y) || (x == y && bytesBefore r s)) = true := h
    rw [List.cons_lt_cons_iff]
    simp only [Bool.or_eq_true, decide_eq_true_eq, Bool.and_eq_true, beq_iff_eq] at h'
    exact h'.imp_right fun h => ⟨h.1, before_lt h.2⟩

theorem sorted_names {L : Ents} (h : Rises L) {ss : List (List UInt8)} (hp : ss.Perm (L.map (·.1))) : ss.mergeSort (fun x y => decide (x ≤ y)) = L.map (·.1) := by
  refine List.Perm.eq_of_pairwise (le := fun a b => decide (a ≤ b) = true) ?_ ?_ ?_ ((List.mergeSort_perm _ _).trans hp)
  · intro a b _ _ h1 h2
    simp only [decide_eq_true_eq] at h1 h2
    exact List.le_antisymm h1 h2
  · refine List.pairwise_mergeSort ?_ ?_ _
    · intro a b c h1 h2
      simp only [decide_eq_true_eq] at h1 h2 ⊢
      exact List.le_trans h1 h2
    · intro a b
      simp only [Bool.or_eq_true, decide_eq_true_eq]
      exact List.le_total a b
  · rw [List.pairwise_map]
    refine h.imp fun {a b} hab => ?_
    simp only [decide_eq_true_eq]
    exact List.le_of_lt (before_lt hab)

/-- slices.Sort's two contracts at this dump, at the fence that asks nothing. -/
theorem sortsD (m : Nat) : AnyZ.SortsIn Tryz.prog Tryz.sortedD_ren Fence.wide m :=
  ⟨fun blk off cap ss W hH hblk hsz => callsIn_wide.2 (AnyM.slices_Sort_string Tryz.sortD blk off cap ss W hH hblk hsz),
   fun p cap W => callsIn_wide.2 (AnyM.slices_Sort_string_none Tryz.sortD p cap W)⟩

set_option maxRecDepth 100000 in
set_option maxHeartbeats 1000000 in
theorem names_any (tag : Nat → Tag) (w : World) (d m : Nat) (c : Ctl) (L : Ents) (D : DiskAt tag w d m c L) :
    Calls Tryz.prog 74 #[ptr d] w fun e w' => ∃ v, e = .returned v ∧ w'.ownsRow w.heap.size tStr 1 v L.length ((L.map (·.1)).map encStr) ∧ RowKit.Below w.heap.size w w' := by
  obtain ⟨c0, -, -, -, -, -, -, -⟩ := root_cells D.root.blk
  have hown : w.ownsMap Tryz.prog tStr RP m L.length (datum L) := D.owns
  have hfew := D.few
  have hmax : Maps.size (datum L) ≤ maxLen := by rw [datum_size]; unfold maxLen; omega
  have hbytes : Maps.size (datum L) * 16 ≤ 140737488355328 := by rw [datum_size]; omega
  have hris := D.owns.rises
  refine (callsIn_wide (n := 6)).1 ?_
  have hbl := hown.lt
  have hseq : SeqGives Fence.wide 2 Tryz.prog 135 #[.pointer (some ⟨w.heap.size, 0, none⟩)] encStr (fun ss => ss.Perm (strKeys (datum L))) (Maps.size (datum L)) (w.alloc (.cells #[.map (some m)] tMap)) :=
    AnyZ.keys_gives (ρ := Tryz.keysD_ren) { Tryz.keysD with } Fence.wide _ trivial rfl (by omega) w.heap.size m L.length (datum L) _ (by simp) (by simp) (by
      obtain ⟨es, clock, hb, Ft, hs, hD⟩ := hown
      exact ⟨es, clock, (Below.heap_alloc _ _ m hbl).trans hb, Ft, hs, hD⟩)
  have cK : ∀ mb W, CallsIn Fence.wide 5 Tryz.prog 111 #[.map mb] W fun e w' => e = .returned (.func (.func 135) #[] #[.pointer (some ⟨W.heap.size, 0, none⟩)]) ∧ w' = W.alloc (.cells #[.map mb] tMap) := fun mb W => AnyZ.keys_in Tryz.keysD Fence.wide 5 trivial rfl mb W
  have cS := AnyZ.sorted_in Tryz.sortedD Fence.wide 5 trivial trivial trivial trivial rfl (by omega) (sortsD _) (enters_of Tryz.func134 (by kernel_rfl) rfl) 135 #[.pointer (some ⟨w.heap.size, 0, none⟩)] trivial (enters_of Tryz.func135 (by kernel_rfl) rfl) _ _ hmax hbytes _ hseq
  change CallsIn _ _ Tryz.prog 110 _ _ _ at cS
  have hfK : Fence.wide.fn 111 := trivial
  have hfS : Fence.wide.fn 110 := trivial
  have HD := hid D
  have HO := hid hown
  have HRIS := hid hris
  clear D hown hris hmax hbytes
  refine callsIn_of_wp Tryz.func74 rfl trivial ?_ rfl
  simp only [Tryz.ntmps74, List.size_toArray, List.length_cons, List.length_nil, Nat.reduceAdd, Nat.reduceSub, Array.replicate_succ, Array.replicate_zero, List.push_toArray, List.append_toArray, List.nil_append, List.cons_append]
  gi_wp2_with (first
    | (gi_at_call 111; refine (cK _ _).mono ?_; rintro e w' ⟨rfl, rfl⟩)
    | (gi_at_call 110; refine cS.mono ?_; rintro e w' ⟨v, ss, rfl, hS, hrow, hnil, hb⟩))
  go_ret
  have hk : strKeys (datum L) = L.map (·.1) := by
    unfold datum strKeys
    simp only [List.map_map]
    rfl
  rw [hk] at hS
  have hl : ss.length = L.length := by rw [hS.length_eq, List.length_map]
  rw [sorted_names HRIS.out hS, hl] at hrow
  exact ⟨v, rfl, ownsRow_base_a hrow (by simp), ((RowKit.Below.refl _ w).alloc (Nat.le_refl _) _).trans (hb.mono (by simp))⟩

end Disk
end Go.Proofs.YtgmbiiocjhkpdaaGreat

/-
  Contracts of the project's disk: an operation is refused, counted, has a fault, or is done.
-/
namespace Go.Proofs.YtgmbiiocjhkpdaaGreat
open Go.RowKit
namespace Disk
open Num (hid bcells)

/-- A call that turns the struct alone leaves the rest. -/
theorem DiskAt.turned {tag : Nat → Tag} {w w' : World} {d m : Nat} {c c' : Ctl} {L : Ents} (h : DiskAt tag w d m c L) (ht : Turns m d c' w w') (ok : c'.Ok) : DiskAt tag w' d m c' L := by
  have hmd : ¬ m = d := fun e => by have h1 := h.root.tagm; rw [e, h.root.tagd] at h1; cases h1
  refine ⟨⟨ht.1, h.root.tagd, h.root.tagm, ok⟩, h.owns.kept ht.2 hmd, h.files.kept ht.2 (fun _ _ => rfl) ?_, h.few⟩
  rintro k rfl
  rw [h.root.tagd]
  exact ⟨by simp, fun n => ⟨by simp, by simp⟩⟩

/-- What an operation ends in. -/
def Ran (tag : Nat → Tag) (d m : Nat) (c : Ctl) (L : Ents) (fit : Bool) (P : Int → World → Prop) (w : World) (e : Ending) (w' : World) : Prop :=
  ∃ x, e = .returned (.int .i64 x) ∧ ((c.refusal fit ≠ 0 ∧ x = c.refusal fit ∧ DiskAt tag w' d m (c.begun fit) L ∧ Chg (· = d) w w') ∨ (c.refusal fit = 0 ∧ P x w'))
def Gives (P : Int → World → Prop) (e : Ending) (w' : World) : Prop := ∃ x, e = .returned (.int .i64 x) ∧ P x w'

set_option maxRecDepth 100000 in
set_option maxHeartbeats 1000000 in
theorem operate_write (tag : Nat → Tag) (w : World) (d m : Nat) (c : Ctl) (L : Ents) (D : DiskAt tag w d m c L) (x1 x2 x3 x4 : Value) (fit : Bool) (P : Int → World → Prop)
    (hrun : c.refusal fit = 0 → ∀ w1, DiskAt tag w1 d m (c.begun fit) L → Chg (· = d) w w1 → Calls Tryz.prog 93 #[x1, x2, x3, x4] w1 (Gives P)) :
    Calls Tryz.prog 92 #[ptr d, .bool fit, .func (.func 93) #[] #[x1, x2, x3, x4]] w (Ran tag d m c L fit P w) := by
  obtain ⟨-, -, c2, c3, c4, c5, c6, -⟩ := root_cells D.root.blk
  have f6 := blk_free D.root.blk 6
  have HD := hid D
  have HR := hid hrun
  have b0 := D.root.blk
  have ok := D.root.ok
  clear D hrun
  cases fit with
  | false =>
    clear c2 c3 c4 c5 c6 f6 b0 ok
    go_enter Tryz.func92, Tryz.ntmps92
    go_wp2
    go_ret
    exact ⟨1, rfl, Or.inl ⟨(by show (1 : Int) ≠ 0; decide), rfl, HD.out, Chg.refl _ _⟩⟩
  | true =>
    cases hd : c.down with
    | true =>
      rw [hd] at c5
      have HDN := hid hd
      clear c2 c3 c4 c6 f6 b0 ok hd
      go_enter Tryz.func92, Tryz.ntmps92
      go_wp2
      go_ret
      have e : c.refusal true = 10 := by simp [Ctl.refusal, HDN.out]
      have e2 : c.begun true = c := by simp [Ctl.begun, HDN.out]
      exact ⟨10, rfl, Or.inl ⟨by rw [e]; decide, by rw [e], by rw [e2]; exact HD.out, Chg.refl _ _⟩⟩
    | false =>
      rw [hd] at c5
      have HDN := hid hd
      have b1 := set_ops b0 (inc c.ops)
      have HB1 := hid b1
      have OK := hid ok
      have hck : Chg (· = d) w (w.setCell ⟨d, 6, none⟩ (.int .i64 (inc c.ops))) := (Chg.refl _ _).root 6 _
      have HCK := hid hck
      clear c2 c3 c4 hd ok b1 hck
      go_enter Tryz.func92, Tryz.ntmps92
      go_wp2_with fail
      refine (next_any d m _ _ HB1.out (OK.out.opsed _)).mono ?_
      rintro e w1 ⟨rfl, ht⟩
      have ht2 : Turns m d c.counted w w1 := ⟨ht.1, HCK.out.trans ht.2⟩
      have D1 := HD.out.turned ht2 OK.out.counted
      have HD1 := hid D1
      have HT := hid ht2
      have hff : ({ c with ops := inc c.ops } : Ctl).fault = c.fault := rfl
      have hf012 : c.fault = 0 ∨ c.fault = 1 ∨ c.fault = 2 := by
        have h5 := OK.out.some
        unfold Ctl.fault
        split
        · rename_i h1
          have := h5 (by omega)
          omega
        · exact Or.inl rfl
      rw [hff]
      clear ht ht2 D1 hff
      rcases hf012 with hf | hf | hf
      · have e1 : c.refusal true = 0 := by simp [Ctl.refusal, HDN.out, hf]
        have e2 : c.begun true = c.counted := by simp [Ctl.begun, HDN.out, hf]
        have HE := hid e1
        have hr := HR.out e1 w1 (by rw [e2]; exact HD1.out) HT.out.2
        rw [hf]
        clear hf e1 e2
        go_wp2_with fail
        refine hr.mono ?_
        rintro e w2 ⟨x, rfl, hp⟩
        have HP := hid hp
        clear hp hr
        go_wp2
        go_ret
        exact ⟨x, rfl, Or.inr ⟨HE.out, HP.out⟩⟩
      · have e1 : c.refusal true = 11 := by simp [Ctl.refusal, HDN.out, hf]
        have e2 : c.begun true = c.counted := by simp [Ctl.begun, HDN.out, hf]
        have HE := hid e1
        have HE2 := hid e2
        rw [hf]
        clear hf e1 e2
        go_wp2
        go_ret
        exact ⟨11, rfl, Or.inl ⟨by rw [HE.out]; decide, HE.out.symm, by rw [HE2.out]; exact HD1.out, HT.out.2⟩⟩
      · have e1 : c.refusal true = 10 := by simp [Ctl.refusal, HDN.out, hf]
        have e2 : c.begun true = c.counted.offed := by simp [Ctl.begun, HDN.out, hf]
        have HE := hid e1
        have HE2 := hid e2
        rw [hf]
        clear hf e1 e2
        go_wp2_with fail
        refine (off_any d m _ _ HD1.out.root.blk).mono ?_
        rintro e w2 ⟨rfl, ht⟩
        have HT2 := hid ht
        clear ht
        go_wp2
        go_ret
        exact ⟨10, rfl, Or.inl ⟨by rw [HE.out]; decide, HE.out.symm, by rw [HE2.out]; exact HD1.out.turned HT2.out OK.out.counted.offed, HT.out.2.trans HT2.out.2⟩⟩

set_option maxRecDepth 100000 in
set_option maxHeartbeats 1000000 in
theorem operate_file (tag : Nat → Tag) (w : World) (d m : Nat) (c : Ctl) (L : Ents) (D : DiskAt tag w d m c L) (x1 x2 x3 : Value) (fit : Bool) (P : Int → World → Prop)
    (hrun : c.refusal fit = 0 → ∀ w1, DiskAt tag w1 d m (c.begun fit) L → Chg (· = d) w w1 → Calls Tryz.prog 130 #[x1, x2, x3] w1 (Gives P)) :
    Calls Tryz.prog 92 #[ptr d, .bool fit, .func (.func 130) #[] #[x1, x2, x3]] w (Ran tag d m c L fit P w) := by
  obtain ⟨-, -, c2, c3, c4, c5, c6, -⟩ := root_cells D.root.blk
  have f6 := blk_free D.root.blk 6
  have HD := hid D
  have HR := hid hrun
  have b0 := D.root.blk
  have ok := D.root.ok
  clear D hrun
  cases fit with
  | false =>
    clear c2 c3 c4 c5 c6 f6 b0 ok
    go_enter Tryz.func92, Tryz.ntmps92
    go_wp2
    go_ret
    exact ⟨1, rfl, Or.inl ⟨(by show (1 : Int) ≠ 0; decide), rfl, HD.out, Chg.refl _ _⟩⟩
  | true =>
    cases hd : c.down with
    | true =>
      rw [hd] at c5
      have HDN := hid hd
      clear c2 c3 c4 c6 f6 b0 ok hd
      go_enter Tryz.func92, Tryz.ntmps92
      go_wp2
      go_ret
      have e : c.refusal true = 10 := by simp [Ctl.refusal, HDN.out]
      have e2 : c.begun true = c := by simp [Ctl.begun, HDN.out]
      exact ⟨10, rfl, Or.inl ⟨by rw [e]; decide, by rw [e], by rw [e2]; exact HD.out, Chg.refl _ _⟩⟩
    | false =>
      rw [hd] at c5
      have HDN := hid hd
      have b1 := set_ops b0 (inc c.ops)
      have HB1 := hid b1
      have OK := hid ok
      have hck : Chg (· = d) w (w.setCell ⟨d, 6, none⟩ (.int .i64 (inc c.ops))) := (Chg.refl _ _).root 6 _
      have HCK := hid hck
      clear c2 c3 c4 hd ok b1 hck
      go_enter Tryz.func92, Tryz.ntmps92
      go_wp2_with fail
      refine (next_any d m _ _ HB1.out (OK.out.opsed _)).mono ?_
      rintro e w1 ⟨rfl, ht⟩
      have ht2 : Turns m d c.counted w w1 := ⟨ht.1, HCK.out.trans ht.2⟩
      have D1 := HD.out.turned ht2 OK.out.counted
      have HD1 := hid D1
      have HT := hid ht2
      have hff : ({ c with ops := inc c.ops } : Ctl).fault = c.fault := rfl
      have hf012 : c.fault = 0 ∨ c.fault = 1 ∨ c.fault = 2 := by
        have h5 := OK.out.some
        unfold Ctl.fault
        split
        · rename_i h1
          have := h5 (by omega)
          omega
        · exact Or.inl rfl
      rw [hff]
      clear ht ht2 D1 hff
      rcases hf012 with hf | hf | hf
      · have e1 : c.refusal true = 0 := by simp [Ctl.refusal, HDN.out, hf]
        have e2 : c.begun true = c.counted := by simp [Ctl.begun, HDN.out, hf]
        have HE := hid e1
        have hr := HR.out e1 w1 (by rw [e2]; exact HD1.out) HT.out.2
        rw [hf]
        clear hf e1 e2
        go_wp2_with fail
        refine hr.mono ?_
        rintro e w2 ⟨x, rfl, hp⟩
        have HP := hid hp
        clear hp hr
        go_wp2
        go_ret
        exact ⟨x, rfl, Or.inr ⟨HE.out, HP.out⟩⟩
      · have e1 : c.refusal true = 11 := by simp [Ctl.refusal, HDN.out, hf]
        have e2 : c.begun true = c.counted := by simp [Ctl.begun, HDN.out, hf]
        have HE := hid e1
        have HE2 := hid e2
        rw [hf]
        clear hf e1 e2
        go_wp2
        go_ret
        exact ⟨11, rfl, Or.inl ⟨by rw [HE.out]; decide, HE.out.symm, by rw [HE2.out]; exact HD1.out, HT.out.2⟩⟩
      · have e1 : c.refusal true = 10 := by simp [Ctl.refusal, HDN.out, hf]
        have e2 : c.begun true = c.counted.offed := by simp [Ctl.begun, HDN.out, hf]
        have HE := hid e1
        have HE2 := hid e2
        rw [hf]
        clear hf e1 e2
        go_wp2_with fail
        refine (off_any d m _ _ HD1.out.root.blk).mono ?_
        rintro e w2 ⟨rfl, ht⟩
        have HT2 := hid ht
        clear ht
        go_wp2
        go_ret
        exact ⟨10, rfl, Or.inl ⟨by rw [HE.out]; decide, HE.out.symm, by rw [HE2.out]; exact HD1.out.turned HT2.out OK.out.counted.offed, HT.out.2.trans HT2.out.2⟩⟩

end Disk
end Go.Proofs.YtgmbiiocjhkpdaaGreat

/-
  A disk, plainly: what each call answers, and what the disk is behind it.
-/
namespace Go.Proofs.YtgmbiiocjhkpdaaGreat
open Go.RowKit
namespace Disk

abbrev Dir := List (Nam × Fil)
structure Mod where
  c : Ctl
  fs : Dir

def nameFit (n : Nam) : Bool := decide (1 ≤ n.length ∧ n.length ≤ 16)
def lensD (fs : Dir) : Nat := (fs.map fun e => e.2.ps.length).sum
def holdsB (fs : Dir) (n : Nam) : Bool := (get? fs n).isSome || decide (fs.length < 8)
def emptyFil : Fil := ⟨[], false⟩
/-- An operation that isn't refused and has no fault. -/
def Mod.run (M : Mod) (fit : Bool) (f : Dir → Int × Dir) : Int × Mod :=
  if M.c.refusal fit ≠ 0 then (M.c.refusal fit, ⟨M.c.begun fit, M.fs⟩) else ((f M.fs).1, ⟨M.c.begun fit, (f M.fs).2⟩)
def writeD (room : Int) (n : Nam) (i : Int) (l : List UInt8) (fs : Dir) : Int × Dir :=
  let F := (get? fs n).getD emptyFil
  if (F.ps.length : Int) < i then (14, fs)
  else if i = F.ps.length ∧ (holdsB fs n = false ∨ room ≤ (lensD fs : Nat)) then (12, fs)
  else (0, ins fs n (F.write i.toNat l))
def onD (n : Nam) (f : Fil → Int × Dir) (fs : Dir) : Int × Dir := match get? fs n with | none => (14, fs) | some F => f F
def syncD (n : Nam) (fs : Dir) : Int × Dir := onD n (fun F => (0, ins fs n F.sync)) fs
def cutD (n : Nam) (i : Int) (fs : Dir) : Int × Dir := onD n (fun F => if (F.ps.length : Int) < i then (14, fs) else (0, ins fs n (F.cut i.toNat))) fs
def dropD (n : Nam) (fs : Dir) : Int × Dir := onD n (fun _ => (0, del fs n)) fs
/-- What a read of a sector gives. -/
def readNow (s : Sec) : List UInt8 × Int := match s with | none => ([], 13) | some s => (s, 0)
/-- What a read of a file gives. -/
def Fil.read (F : Fil) (i : Int) : List UInt8 × Int :=
  if i < 0 then ([], 14) else match F.ps[i.toNat]? with | none => ([], 14) | some p => readNow p.now
def readD (n : Nam) (i : Int) (fs : Dir) : List UInt8 × Int := match get? fs n with | none => ([], 14) | some F => F.read i

def Mod.write (M : Mod) (n : Nam) (i : Int) (l : List UInt8) : Int × Mod := M.run (nameFit n && decide (0 ≤ i) && decide (l.length = 256)) (writeD M.c.room n i l)
def Mod.sync (M : Mod) (n : Nam) : Int × Mod := M.run (nameFit n) (syncD n)
def Mod.cut (M : Mod) (n : Nam) (i : Int) : Int × Mod := M.run (decide (0 ≤ i) && nameFit n) (cutD n i)
def Mod.drop (M : Mod) (n : Nam) : Int × Mod := M.run (nameFit n) (dropD n)
def Mod.read (M : Mod) (n : Nam) (i : Int) : List UInt8 × Int × Mod :=
  if M.c.refusal (nameFit n) ≠ 0 then ([], M.c.refusal (nameFit n), ⟨M.c.begun (nameFit n), M.fs⟩) else ((readD n i M.fs).1, (readD n i M.fs).2, ⟨M.c.begun (nameFit n), M.fs⟩)
def Mod.room (M : Mod) (n : Int) : Mod := ⟨{ M.c with room := clamp n }, M.fs⟩
def Mod.arm (M : Mod) (a k m : Int) : Mod := ⟨M.c.armed a k m, M.fs⟩
def Mod.off (M : Mod) : Mod := ⟨M.c.offed, M.fs⟩
/-- All files wake, one behind the other. -/
def wakes (l : List Int) : Nat → Dir → Dir
  | _, [] => []
  | k, e :: r => (if e.2.lives l k then [(e.1, e.2.woken l k)] else []) ++ wakes l (counts k e.2.ps) r
def Mod.on (M : Mod) (l : List Int) : Mod := if M.c.down then ⟨{ M.c with down := false }, wakes l 0 M.fs⟩ else M
def loadedF (l : List UInt8) : Fil := ⟨(List.range ((l.length + 255) / 256)).map fun i => (⟨some (fitted (l.drop (i * 256))), some (some (fitted (l.drop (i * 256)))), false⟩ : Plc), true⟩
def Mod.load (M : Mod) (n : Nam) (l : List UInt8) : Int × Mod :=
  if nameFit n = false ∨ 1048576 < l.length then (1, M) else if holdsB M.fs n = false then (12, M) else (0, ⟨M.c, ins M.fs n (loadedF l)⟩)
def Mod.size (M : Mod) (n : Nam) : Int := match get? M.fs n with | none => -1 | some F => (F.ps.length : Nat)
def Mod.bytes (M : Mod) (n : Nam) : List UInt8 := match get? M.fs n with | none => [] | some F => F.bytes
def Mod.names (M : Mod) : List Nam := M.fs.map (·.1)
def Mod.new (room : Int) : Mod := ⟨⟨clamp room, 0, 0, 0, false, 0, 0⟩, []⟩

end Disk
end Go.Proofs.YtgmbiiocjhkpdaaGreat

/-
  The map of files in memory and the plain list of files: put, taken away; a call on one file leaves the others.
-/
namespace Go.Proofs.YtgmbiiocjhkpdaaGreat
open Go.RowKit
namespace Disk
open Num (hid bcells)

def dirOf (L : Ents) : Dir := L.map fun e => (e.1, e.2.2)
theorem dirOf_get (L : Ents) (n : Nam) : get? (dirOf L) n = (get? L n).map (·.2) := by
  unfold get? dirOf
  rw [List.find?_map]
  have e : ((fun e : Nam × Fil => e.1 == n) ∘ fun e : Nam × (Nat × Fil) => (e.1, e.2.2)) = fun e => e.1 == n := by funext e; rfl
  rw [e]
  cases List.find? (fun e : Nam × (Nat × Fil) => e.1 == n) L <;> rfl
theorem dirOf_del (L : Ents) (n : Nam) : dirOf (del L n) = del (dirOf L) n := by
  unfold dirOf del
  rw [List.filter_map]; rfl
theorem dirOf_insB (x : Nam × (Nat × Fil)) : ∀ L : Ents, dirOf (insB x L) = insB (x.1, x.2.2) (dirOf L)
  | [] => rfl
  | y :: r => by
    have ih := dirOf_insB x r
    unfold dirOf at ih ⊢
    simp only [List.map_cons, insB]
    cases bytesBefore x.1 y.1
    · simp only [Bool.false_eq_true, if_false, List.map_cons, ih]
    · simp
theorem dirOf_ins (L : Ents) (n : Nam) (b : Nat) (F : Fil) : dirOf (ins L n (b, F)) = ins (dirOf L) n F := by
  unfold ins
  rw [dirOf_insB, dirOf_del]
theorem dirOf_lens (L : Ents) : lensD (dirOf L) = lens L := by simp [lensD, dirOf, lens, Function.comp_def]
theorem dirOf_len (L : Ents) : (dirOf L).length = L.length := by simp [dirOf]
theorem dirOf_can (L : Ents) (n : Nam) : holdsB (dirOf L) n = canB L n := by
  unfold holdsB canB
  rw [dirOf_get, dirOf_len]; simp

theorem mem_insB {α : Type} {x : Nam × α} : ∀ {L : List (Nam × α)} {y : Nam × α}, y ∈ insB x L → y = x ∨ y ∈ L
  | [], y, h => Or.inl (by simpa [insB] using h)
  | z :: r, y, h => by
    simp only [insB] at h
    split at h
    · rcases List.mem_cons.1 h with h | h
      · exact Or.inl h
      · exact Or.inr h
    · rcases List.mem_cons.1 h with h | h
      · exact Or.inr (h ▸ List.mem_cons_self ..)
      · exact (mem_insB h).imp_right (List.mem_cons_of_mem _)
theorem mem_del {α : Type} {L : List (Nam × α)} {n : Nam} {y : Nam × α} (h : y ∈ del L n) : y ∈ L ∧ y.1 ≠ n := by
  unfold del at h
  rw [List.mem_filter] at h
  exact ⟨h.1, by simpa using h.2⟩
theorem mem_ins {α : Type} {L : List (Nam × α)} {n : Nam} {a : α} {y : Nam × α} (h : y ∈ ins L n a) : y = (n, a) ∨ y ∈ L ∧ y.1 ≠ n := (mem_insB h).imp_right mem_del
theorem insB_len {α : Type} (x : Nam × α) : ∀ L : List (Nam × α), (insB x L).length = L.length + 1
  | [] => rfl
  | y :: r => by simp only [insB]; split <;> simp [insB_len x r]
theorem before_asymm {a b : List UInt8} (h : bytesBefore a b = true) : bytesBefore b a = false := by
  cases h2 : bytesBefore b a with
  | false => rfl
  | true => exact absurd (before_lt h2) (List.lt_asymm (before_lt h))
theorem del_self {α : Type} {L : List (Nam × α)} {n : Nam} (h : ∀ e ∈ L, e.1 ≠ n) : del L n = L := by
  unfold del
  rw [List.filter_eq_self]
  intro e he
  simp [h e he]
/-- A name that is there, rising: its entry is another one. -/
theorem ins_there {α : Type} : ∀ {L : List (Nam × α)} {n : Nam} {x : α} (a : α), L.Pairwise (fun p q => bytesBefore p.1 q.1 = true) → get? L n = some x → ins L n a = L.map fun e => if e.1 == n then (n, a) else e
  | [], n, x, a, _, h => by cases h
  | e :: r, n, x, a, hp, h => by
    have hp1 := (List.pairwise_cons.1 hp).1
    have hp2 := (List.pairwise_cons.1 hp).2
    by_cases he : e.1 = n
    · have hne : ∀ q ∈ r, q.1 ≠ n := fun q hq hqn => by
        have := hp1 q hq
        rw [he, hqn, bytesBefore_irrefl] at this; cases this
      have e1 : del (e :: r) n = r := by
        unfold del
        rw [List.filter_cons_of_neg (by simp [he])]
        exact del_self hne
      have e2 : r.map (fun e => if e.1 == n then (n, a) else e) = r := by
        conv => rhs; rw [← List.map_id r]
        refine List.map_congr_left fun q hq => ?_
        simp [hne q hq]
      unfold ins
      rw [e1, List.map_cons, e2]
      simp only [he, beq_self_eq_true, if_true]
      cases r with
      | nil => rfl
      | cons q r =>
        have := hp1 q (List.mem_cons_self ..)
        rw [he] at this
        simp only [insB, this, if_true]
    · have h2 : get? r n = some x := by
        unfold get? at h ⊢
        rw [List.find?_cons_of_neg (by simp [he])] at h
        exact h
      have hmem := get?_mem h2
      have hb := hp1 _ hmem
      have ih := ins_there a hp2 h2
      unfold ins at ih ⊢
      have e1 : del (e :: r) n = e :: del r n := by
        unfold del
        rw [List.filter_cons_of_pos (by simp [he])]
      rw [e1, List.map_cons, ← ih]
      simp only [insB, before_asymm hb, Bool.false_eq_true, if_false]
      simp [he]
theorem get?_of_mem {α : Type} : ∀ {L : List (Nam × α)}, L.Pairwise (fun p q => bytesBefore p.1 q.1 = true) → ∀ {e : Nam × α}, e ∈ L → get? L e.1 = some e.2
  | [], _, e, h => by cases h
  | z :: r, hp, e, h => by
    have hp1 := (List.pairwise_cons.1 hp).1
    rcases List.mem_cons.1 h with h | h
    · subst h
      unfold get?
      rw [List.find?_cons_of_pos (by simp)]; rfl
    · have hne : z.1 ≠ e.1 := fun hz => by
        have := hp1 e h
        rw [hz, bytesBefore_irrefl] at this; cases this
      have ih := get?_of_mem (List.pairwise_cons.1 hp).2 h
      unfold get? at ih ⊢
      rw [List.find?_cons_of_neg (by simp [hne])]
      exact ih
theorem datum_there {L : Ents} (hr : Rises L) {n : Nam} {b : Nat} {F F' : Fil} (h : get? L n = some (b, F)) : datum (ins L n (b, F')) = datum L ∧ (ins L n (b, F')).length = L.length := by
  rw [ins_there (b, F') hr h]
  refine ⟨?_, by rw [List.length_map]⟩
  unfold datum
  rw [List.map_map]
  congr 1
  refine List.map_congr_left fun e he => ?_
  by_cases hn : e.1 = n
  · have hm := get?_of_mem hr he
    rw [hn, h] at hm
    have h2 : e.2 = (b, F) := (Option.some.inj hm).symm
    simp [hn, h2]
  · simp [hn]

/-- What is a disk's own. -/
def Mine (tag : Nat → Tag) : Nat → Prop := fun k => tag k ≠ .other ∧ tag k ≠ .sec
/-- A call of the disk: what it is behind the call. -/
def Out (tag : Nat → Tag) (d m : Nat) (M : Mod) (w w' : World) : Prop :=
  ∃ tag' L', DiskAt tag' w' d m M.c L' ∧ dirOf L' = M.fs ∧ (∀ k, k < w.heap.size → tag' k = tag k) ∧ Chg (Mine tag) w w'

/-- A call on one file. -/
theorem DiskAt.filed {tag : Nat → Tag} {w w' : World} {d m : Nat} {c : Ctl} {L : Ents} (D : DiskAt tag w d m c L) {n : Nam} {b : Nat} {F F' : Fil} (hg : get? L n = some (b, F)) (h : FileTurned tag n b F' w w') :
    Out tag d m ⟨c, ins (dirOf L) n F'⟩ w w' := by
  obtain ⟨tag', v, Q, hf, ht, hc⟩ := h
  obtain ⟨hd, hl⟩ := datum_there D.owns.rises (F' := F') hg
  have hm : ¬ (tag m = .file n ∨ tag m = .row n) := by rintro (e | e) <;> rw [D.root.tagm] at e <;> cases e
  have hdd : ¬ (tag d = .file n ∨ tag d = .row n) := by rintro (e | e) <;> rw [D.root.tagd] at e <;> cases e
  refine ⟨tag', ins L n (b, F'), ⟨D.root.kept D.mlt hc ht hdd, ?_, ?_, by rw [hl]; exact D.few⟩, dirOf_ins L n b F', ht, hc.mono ?_⟩
  · unfold Owns
    rw [hd, hl]
    exact D.owns.kept hc hm
  · intro e he
    rcases mem_ins he with rfl | ⟨he, hne⟩
    · exact ⟨v, Q, hf⟩
    · obtain ⟨v2, Q2, hf2⟩ := D.files e he
      refine ⟨v2, Q2, hf2.kept hc ht ?_⟩
      rintro k (e | e) <;> rw [e] <;> refine ⟨by simp, ?_, ?_⟩ <;> intro h <;> cases h <;> exact hne rfl
  · rintro k _ (e | e) <;> unfold Mine <;> rw [e] <;> simp

end Disk
end Go.Proofs.YtgmbiiocjhkpdaaGreat

/-
  Contracts of the functions that the project's disk hands to onFile.
-/
namespace Go.Proofs.YtgmbiiocjhkpdaaGreat
open Go.RowKit
namespace Disk
open Num (hid bcells)

set_option maxRecDepth 100000 in
theorem sync1_any (tag : Nat → Tag) (w : World) (n : Nam) (f : Nat) (F : Fil) (v : Value) (Q : Pls) (h : FileAt tag w n f F v Q) :
    Calls Tryz.prog 103 #[ptr f] w (Gives fun x w' => x = 0 ∧ FileTurned tag n f F.sync w w') := by
  have HH := hid h
  clear h
  go_enter Tryz.func103, Tryz.ntmps103
  go_wp2_with fail
  refine (fsync_any tag _ n f F v Q HH.out).mono ?_
  rintro e w1 ⟨rfl, ht⟩
  have HT := hid ht
  clear ht
  go_wp2
  go_ret
  exact ⟨0, rfl, rfl, HT.out⟩

/-- The number of a file's places, as the walk asks it. -/
theorem row_len {w : World} {v : Value} {Q : Pls} (h : w.ownsRow 0 tPlace 3 v Q.length (Pls.cells Q)) : (v = .slice none 0 0 ∧ Q = []) ∨ ∃ g cap, v = .slice (some ⟨g, 0, none⟩) Q.length cap ∧ Q.length ≤ cap ∧ cap ≤ maxLen := by
  rcases h.2 with ⟨hv, hn⟩ | ⟨g, cap, cur, hv, _, _, hn0, hm0, -, -⟩
  · exact Or.inl ⟨hv, List.eq_nil_of_length_eq_zero hn⟩
  · exact Or.inr ⟨g, cap, hv, hn0, hm0⟩

/-- What a cut of a file that is there gives. -/
def CutGives (tag : Nat → Tag) (n : Nam) (f : Nat) (F : Fil) (i : Int) (w : World) (x : Int) (w' : World) : Prop :=
  if (F.ps.length : Int) < i then x = 14 ∧ Chg (fun _ => False) w w' else x = 0 ∧ FileTurned tag n f (F.cut i.toNat) w w'
set_option maxRecDepth 100000 in
theorem cut1_any (tag : Nat → Tag) (w : World) (n : Nam) (f : Nat) (F : Fil) (v : Value) (Q : Pls) (h : FileAt tag w n f F v Q) (a : Nat) (i : Int) (hi : 0 ≤ i) (ha : w.cell? ⟨a, 0, none⟩ = some (.int .i64 i)) :
    Calls Tryz.prog 107 #[ptr f, ptr a] w (Gives (CutGives tag n f F i w)) := by
  have c0 : w.cell? ⟨f, 0, none⟩ = some v := blk_cell h.blk 0
  have hps : F.ps.length = Q.length := by rw [h.ps, List.length_map]
  have hlen := h.len
  obtain ⟨k, rfl⟩ : ∃ k : Nat, i = k := ⟨i.toNat, by omega⟩
  have HH := hid h
  have hrow := row_len h.row
  by_cases hlt : Q.length < k
  · have HP := hid hps
    have HL := hid hlt
    have hlt2 : ((Q.length : Nat) : Int) < (k : Int) := by omega
    rcases hrow with ⟨rfl, rfl⟩ | ⟨g, cap, rfl, hn0, hm0⟩
    · have hlt3 : (0 : Int) < (k : Int) := hlt2
      clear h hps hlt hlt2
      go_enter Tryz.func107, Tryz.ntmps107
      go_wp2
      go_region
      all_goals
        go_wp2
        go_ret
        refine ⟨14, rfl, ?_⟩
        unfold CutGives
        rw [if_pos (by have := HP.out; have := HL.out; omega)]
        exact ⟨rfl, (Chg.refl _ _).drew⟩
    · clear h hps hlt hlt2
      have hlt := HL.out
      go_enter Tryz.func107, Tryz.ntmps107
      go_wp2
      go_region
      all_goals
        go_wp2
        go_ret
        refine ⟨14, rfl, ?_⟩
        unfold CutGives
        rw [if_pos (by have := HP.out; have := HL.out; omega)]
        exact ⟨rfl, (Chg.refl _ _).drew⟩
  · have HP := hid hps
    have hle : k ≤ Q.length := by omega
    have HC := hid (fcut_any tag w.drew n f F v Q h.drew k hle)
    have HL := hid hle
    rcases hrow with ⟨rfl, rfl⟩ | ⟨g, cap, rfl, hn0, hm0⟩
    · obtain rfl : k = 0 := by simpa using hle
      clear h hps hlt hle
      go_enter Tryz.func107, Tryz.ntmps107
      go_wp2
      go_region
      all_goals
        go_wp2_with fail
        refine HC.out.mono ?_
        rintro e w1 ⟨rfl, ht⟩
        have HT := hid ht
        clear ht
        go_wp2
        go_ret
        refine ⟨0, rfl, ?_⟩
        unfold CutGives
        rw [if_neg (by have := HP.out; have := HL.out; omega)]
        obtain ⟨t, v2, Q2, h1, h2, h3⟩ := HT.out
        exact ⟨rfl, t, v2, Q2, h1, h2, ((Chg.refl _ w).drew).trans h3⟩
    · clear h hps
      go_enter Tryz.func107, Tryz.ntmps107
      go_wp2
      go_region
      all_goals
        go_wp2_with fail
        refine HC.out.mono ?_
        rintro e w1 ⟨rfl, ht⟩
        have HT := hid ht
        clear ht
        go_wp2
        go_ret
        refine ⟨0, rfl, ?_⟩
        unfold CutGives
        rw [if_neg (by have := HP.out; have := HL.out; omega)]
        obtain ⟨t, v2, Q2, h1, h2, h3⟩ := HT.out
        exact ⟨rfl, t, v2, Q2, h1, h2, ((Chg.refl _ w).drew).trans h3⟩

/-- A call that takes a file away. -/
theorem DiskAt.dropped {tag : Nat → Tag} {w w' : World} {d m : Nat} {c : Ctl} {L : Ents} (D : DiskAt tag w d m c L) (n : Nam) (ho : Owns w' m (del L n)) (ht : w.mapTurned w' m) : Out tag d m ⟨c, del (dirOf L) n⟩ w w' := by
  have hg := ht.grown
  have hc : Chg (· = m) w w' := (Chg.refl _ w).grown hg (fun k hk => Or.inr (by cases hk; rfl))
  have hdm : ¬ d = m := fun e => by have h1 := D.root.tagd; rw [e, D.root.tagm] at h1; cases h1
  have hF : ∀ k, k = m → tag k ≠ .sec ∧ ∀ n, tag k ≠ .file n ∧ tag k ≠ .row n := by
    rintro k rfl; rw [D.root.tagm]; exact ⟨by simp, fun n => ⟨by simp, by simp⟩⟩
  refine ⟨tag, del L n, ⟨D.root.kept D.mlt hc (fun _ _ => rfl) hdm, ho, ?_, ?_⟩, dirOf_del L n, fun _ _ => rfl, hc.mono ?_⟩
  · intro e he
    exact (D.files.kept hc (fun _ _ => rfl) hF) e (mem_del he).1
  · have h1 : (del L n).length ≤ L.length := List.length_filter_le _ _
    have := D.few
    show (del L n).length ≤ 8
    omega
  · rintro k _ rfl; unfold Mine; rw [D.root.tagm]; simp

set_option maxRecDepth 100000 in
theorem drop1_any (tag : Nat → Tag) (w : World) (d m : Nat) (c : Ctl) (L : Ents) (D : DiskAt tag w d m c L) (s : ByteArray) (hs : s.size ≤ maxLen) (f a1 a2 : Nat)
    (b1 : w.cell? ⟨a1, 0, none⟩ = some (ptr d)) (b2 : w.cell? ⟨a2, 0, none⟩ = some (.string s)) :
    Calls Tryz.prog 109 #[ptr f, ptr a1, ptr a2] w (Gives fun x w' => x = 0 ∧ Out tag d m ⟨c, del (dirOf L) s.data.toList⟩ w w') := by
  obtain ⟨c0, -, -, -, -, -, -, -⟩ := root_cells D.root.blk
  have ho : Owns w.drew m L := D.owns
  obtain ⟨w', hrun, ho', ht⟩ := ho.drop s hs 0
  have hd := D.kept (tag' := tag) ((Chg.refl (fun _ => False) w).drew) (fun _ _ => rfl) (fun _ h => h.elim)
  have hout := hd.dropped s.data.toList ho' ht
  have HO := hid hout
  clear D ho ho' ht hd hout
  go_enter Tryz.func109, Tryz.ntmps109
  go_wp2
  go_region
  all_goals
    go_wp2
    go_ret
    obtain ⟨t, L', h1, h2, h3, h4⟩ := HO.out
    exact ⟨0, rfl, rfl, t, L', h1, h2, h3, ((Chg.refl _ w).drew).trans h4⟩

/-- What a read gives, and where its bytes lie. -/
def ReadGives (F : Fil) (i : Int) (a : Nat) (w : World) (x : Int) (w' : World) : Prop :=
  x = (F.read i).2 ∧ Chg (· = a) w w' ∧ w'.heap[a]? = some (.cells #[.string ⟨(F.read i).1.toArray⟩] tStr (0, 0))

theorem sec_cells {tag : Nat → Tag} {w : World} {b : Nat} {s : Sec} (h : SecAt tag w b s) : w.cell? ⟨b, 256, none⟩ = some (.bool s.isNone) ∧ ∀ j (hj : j < (s.getD zeros).length), w.cell? ⟨b, j, none⟩ = some (.int .u8 ((s.getD zeros)[j].toNat : Int)) := by
  have hl := h.len
  constructor
  · rw [blk_cell h.blk, secCells, List.getElem?_toArray, List.getElem?_append_right (by rw [Num.bcells_len, hl]; omega), Num.bcells_len, hl]; rfl
  · intro j hj
    rw [blk_cell h.blk, secCells, List.getElem?_toArray, List.getElem?_append_left (by rw [Num.bcells_len]; exact hj)]
    unfold bcells
    rw [List.getElem?_map, List.getElem?_eq_getElem hj]; rfl

set_option maxRecDepth 100000 in
theorem read1_any (tag : Nat → Tag) (w : World) (n : Nam) (f : Nat) (F : Fil) (v : Value) (Q : Pls) (h : FileAt tag w n f F v Q) (a1 a2 : Nat) (i : Int) (hi : i ≤ 9223372036854775807)
    (b1 : w.cell? ⟨a1, 0, none⟩ = some (.int .i64 i)) (b2 : w.heap[a2]? = some (.cells #[.string ⟨#[]⟩] tStr (0, 0))) :
    Calls Tryz.prog 105 #[ptr f, ptr a1, ptr a2] w (Gives (ReadGives F i a2 w)) := by
  have c0 : w.cell? ⟨f, 0, none⟩ = some v := blk_cell h.blk 0
  have hps : F.ps = Q.map (·.2) := h.ps
  have hlen := h.len
  have HB := hid b2
  have HPS := hid hps
  by_cases hneg : i < 0
  · have hr : F.read i = ([], 14) := by unfold Fil.read; rw [if_pos hneg]
    have HR := hid hr
    have hd : decide (i < 0) = true := decide_eq_true hneg
    clear hps b2 h hr
    go_enter Tryz.func105, Tryz.ntmps105
    go_wp2
    go_quiet (fail)
    go_wp2
    go_ret
    exact ⟨14, rfl, by rw [HR.out], (Chg.refl _ w).drewN _, by rw [HR.out]; exact HB.out⟩
  · obtain ⟨k, rfl⟩ : ∃ k : Nat, i = k := ⟨i.toNat, by omega⟩
    have hd : decide ((k : Int) < 0) = false := decide_eq_false (by omega)
    by_cases hlt : k < Q.length
    · have hp := h.pls Q[k] (List.getElem_mem hlt)
      obtain ⟨g, cap, hv, hle, hcap, hg⟩ := row_some h.row (by omega)
      subst hv
      have hpc := place_cells (i := k) h.row hlt rfl
      obtain ⟨k0, -, -, -, -, -⟩ := hpc
      obtain ⟨t0, ts⟩ := sec_cells hp.now
      have hl := hp.now.len
      have hd2 : decide (Q.length ≤ k) = false := decide_eq_false (by omega)
      have hfk : F.ps[k]? = some Q[k].2 := by rw [hps, List.getElem?_map, List.getElem?_eq_getElem hlt]; rfl
      have hr : F.read (k : Int) = readNow Q[k].2.now := by
        unfold Fil.read; rw [if_neg hneg]; simp only [Int.toNat_natCast, hfk]
      cases hn : Q[k].2.now with
      | none =>
        rw [hn] at t0 hr
        have t1 : _ = some (Value.bool true) := t0
        have HR := hid hr
        clear hps b2 h hr hp t0 ts hl hfk hn
        go_enter Tryz.func105, Tryz.ntmps105
        go_wp2
        go_quiet (fail)
        go_wp2
        go_quiet (fail)
        go_wp2
        go_ret
        exact ⟨13, rfl, by rw [HR.out]; rfl, (Chg.refl _ w).drewN _, by rw [HR.out]; exact HB.out⟩
      | some l =>
        rw [hn] at t0 hr ts hl
        have t1 : _ = some (Value.bool false) := t0
        have hconv : ∀ q, (convert 99 tStr (.slice (some ⟨Q[k].1.now, 0, none⟩) 256 256)).run Tryz.prog (w.drewN q) = .ok (.string ⟨l.toArray⟩) (w.drewN q) := fun q => by
          have hl2 : l.length = 256 := hl
          have := run_convert_bytes_back (P := Tryz.prog) (w.drewN q) 99 tStr 5 ⟨Q[k].1.now, 0, none⟩ 256 l Tryz.underlying99 Tryz.underlying5 Tryz.underlying9 (fun j hj => by
            rw [show (⟨Q[k].1.now, 0, none⟩ : Addr).add j = ⟨Q[k].1.now, j, none⟩ from by simp [Addr.add]; omega]
            exact ts j hj)
          rw [hl2] at this
          exact this
        have b20 := cell_of_one b2
        have f20 := free_of_one b2
        have HR := hid hr
        clear hps b2 h hr hp t0 ts hl hfk hn
        go_enter Tryz.func105, Tryz.ntmps105
        go_wp2
        go_quiet (fail)
        go_wp2
        go_quiet (fail)
        go_wp2
        go_ret
        refine ⟨0, rfl, by rw [HR.out]; rfl, ?_, ?_⟩
        · exact ((Chg.refl _ w).root 0 _).drewN _
        · rw [HR.out]
          exact one_setCell HB.out
    · have hfk : F.ps[k]? = none := by rw [hps, List.getElem?_map, List.getElem?_eq_none (by omega)]; rfl
      have hr : F.read (k : Int) = ([], 14) := by
        unfold Fil.read; rw [if_neg hneg]; simp only [Int.toNat_natCast, hfk]
      have HR := hid hr
      have hrow := row_len h.row
      have hd2 : decide (Q.length ≤ k) = true := decide_eq_true (by omega)
      rcases hrow with ⟨rfl, rfl⟩ | ⟨g, cap, rfl, hn0, hm0⟩
      · have hd3 : decide ((0 : Int) ≤ (k : Int)) = true := decide_eq_true (by omega)
        clear hps b2 h hr hfk hd2 hlt
        go_enter Tryz.func105, Tryz.ntmps105
        go_wp2
        go_quiet (fail)
        go_wp2
        go_ret
        exact ⟨14, rfl, by rw [HR.out], (Chg.refl _ w).drewN _, by rw [HR.out]; exact HB.out⟩
      · clear hps b2 h hr hfk hlt
        go_enter Tryz.func105, Tryz.ntmps105
        go_wp2
        go_quiet (fail)
        go_wp2
        go_ret
        exact ⟨14, rfl, by rw [HR.out], (Chg.refl _ w).drewN _, by rw [HR.out]; exact HB.out⟩

end Disk
end Go.Proofs.YtgmbiiocjhkpdaaGreat
