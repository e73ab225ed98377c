/-
  Contracts of the project's disk: Write, New, On as one.
-/
import Derived.Test.YtgmbiiocjhkpdaaGreatDiskWriteLow
import Derived.Test.YtgmbiiocjhkpdaaGreatDiskWriteEq
import Derived.Test.YtgmbiiocjhkpdaaGreatDiskWriteNew
import Derived.Test.YtgmbiiocjhkpdaaGreatDiskOn
namespace Go.Proofs.YtgmbiiocjhkpdaaGreat
open Go.RowKit
namespace Disk
open Num (hid bcells)

theorem write1_any (tag : Nat → Tag) (w : World) (d m : Nat) (c : Ctl) (L : Ents) (D : DiskAt tag w d m c L) (s : ByteArray) (hs : s.size ≤ maxLen) (l : ByteArray) (hl256 : l.size = 256) (k : Nat) (a1 a2 a3 a4 : Nat)
    (B : WBox w d s (k : Int) l a1 a2 a3 a4) :
    Calls Tryz.prog 93 #[ptr a1, ptr a2, ptr a3, ptr a4] w (Gives fun x w' => x = (writeD c.room s.data.toList k l.data.toList (dirOf L)).1 ∧ Out tag d m ⟨c, (writeD c.room s.data.toList k l.data.toList (dirOf L)).2⟩ w w') := by
  cases hg : get? L s.data.toList with
  | none => exact write1_new tag w d m c L D s hs hg l hl256 k a1 a2 a3 a4 B
  | some x =>
    obtain ⟨b, F⟩ := x
    by_cases hk : k = F.ps.length
    · exact write1_eq tag w d m c L D s hs b F hg l hl256 k hk a1 a2 a3 a4 B
    · exact write1_low tag w d m c L D s hs b F hg l hl256 k hk a1 a2 a3 a4 B
theorem begun_room (c : Ctl) (fit : Bool) : (c.begun fit).room = c.room := by
  have h1 : ∀ c : Ctl, c.stepped.room = c.room := by intro c; unfold Ctl.stepped; repeat' split
                                                     all_goals rfl
  have h2 : c.counted.room = c.room := h1 _
  unfold Ctl.begun
  repeat' split
  · rfl
  · rfl
  · exact h2
  · exact h2

def fitB (s : ByteArray) (i : Int) (l : ByteArray) : Bool := nameFit s.data.toList && decide (0 ≤ i) && decide (l.data.toList.length = 256)

/-- The world in which a write's operation is called. -/
def boxed (w : World) (d : Nat) (s : ByteArray) (i : Int) (l : ByteArray) : World :=
  (((w.alloc (.cells #[ptr d] 24)).alloc (.cells #[.string s] tStr)).alloc (.cells #[.int .i64 i] 3)).alloc (.cells #[.string l] tStr)

theorem write_run (tag : Nat → Tag) (w : World) (d m : Nat) (c : Ctl) (L : Ents) (D : DiskAt tag w d m c L) (s : ByteArray) (hs : s.size ≤ maxLen) (i : Int) (l : ByteArray) :
    Calls Tryz.prog 92 #[ptr d, .bool (fitB s i l), .func (.func 93) #[] #[ptr w.heap.size, ptr (w.heap.size + 1), ptr (w.heap.size + 1 + 1), ptr (w.heap.size + 1 + 1 + 1)]] (boxed w d s i l) fun e w' =>
      e = .returned (.int .i64 (Mod.write ⟨c, dirOf L⟩ s.data.toList i l.data.toList).1) ∧ Out tag d m (Mod.write ⟨c, dirOf L⟩ s.data.toList i l.data.toList).2 w w' := by
  have hd := lt_of_block D.root.blk
  have e1 : (w.alloc (.cells #[ptr d] 24)).heap.size = w.heap.size + 1 := by simp
  have e2 : ((w.alloc (.cells #[ptr d] 24)).alloc (.cells #[.string s] tStr)).heap.size = w.heap.size + 1 + 1 := by simp
  have e3 : (((w.alloc (.cells #[ptr d] 24)).alloc (.cells #[.string s] tStr)).alloc (.cells #[.int .i64 i] 3)).heap.size = w.heap.size + 1 + 1 + 1 := by simp
  have n1 := blk_alloc (blk_alloc (blk_alloc (blk_new w (.cells #[ptr d] 24)) (.cells #[.string s] tStr)) (.cells #[.int .i64 i] 3)) (.cells #[.string l] tStr)
  have n2 := blk_alloc (blk_alloc (blk_new (w.alloc (.cells #[ptr d] 24)) (.cells #[.string s] tStr)) (.cells #[.int .i64 i] 3)) (.cells #[.string l] tStr)
  have n3 := blk_alloc (blk_new ((w.alloc (.cells #[ptr d] 24)).alloc (.cells #[.string s] tStr)) (.cells #[.int .i64 i] 3)) (.cells #[.string l] tStr)
  have n4 := blk_new (((w.alloc (.cells #[ptr d] 24)).alloc (.cells #[.string s] tStr)).alloc (.cells #[.int .i64 i] 3)) (.cells #[.string l] tStr)
  rw [e1] at n2
  rw [e2] at n3
  rw [e3] at n4
  have hW : Chg (· = d) w (boxed w d s i l) := ((((Chg.refl _ w).alloc _).alloc _).alloc _).alloc _
  have hD : DiskAt tag (boxed w d s i l) d m c L := (((D.alloc _).alloc _).alloc _).alloc _
  have hB : WBox (boxed w d s i l) d s i l w.heap.size (w.heap.size + 1) (w.heap.size + 1 + 1) (w.heap.size + 1 + 1 + 1) := ⟨n1, n2, n3, n4⟩
  generalize boxed w d s i l = W at hW hD hB ⊢
  refine (operate_write tag W d m c L hD _ _ _ _ (fitB s i l) (fun x w' => x = (writeD c.room s.data.toList i l.data.toList (dirOf L)).1 ∧ Out tag d m ⟨c.begun (fitB s i l), (writeD c.room s.data.toList i l.data.toList (dirOf L)).2⟩ w w') fun h0 w1 D1 hc1 => ?_).mono ?_
  · have hfit : fitB s i l = true := by
      cases hf : fitB s i l with
      | true => rfl
      | false => rw [hf] at h0; simp [Ctl.refusal] at h0
    have hfit2 := hfit
    unfold fitB at hfit2
    simp only [Bool.and_eq_true, decide_eq_true_eq] at hfit2
    obtain ⟨⟨-, hi⟩, hl⟩ := hfit2
    obtain ⟨k, rfl⟩ : ∃ k : Nat, i = k := ⟨i.toNat, by omega⟩
    have B1 := hB.kept hc1 (by omega) (by omega) (by omega) (by omega)
    refine Gives.mono (write1_any tag w1 d m _ L D1 s hs l hl k _ _ _ _ B1) ?_
    rintro x w' ⟨rfl, h⟩
    rw [begun_room] at h ⊢
    exact ⟨rfl, h.after (hW.trans hc1) D.root.tagd⟩
  · intro e w2 h
    exact ran_out (f := writeD c.room s.data.toList i l.data.toList) hW h

set_option maxRecDepth 100000 in
set_option maxHeartbeats 1000000 in
theorem write_any (tag : Nat → Tag) (w : World) (d m : Nat) (c : Ctl) (L : Ents) (D : DiskAt tag w d m c L) (s : ByteArray) (hs : s.size ≤ maxLen) (i : Int) (l : ByteArray) (hl : l.size ≤ maxLen) :
    Calls Tryz.prog 56 #[ptr d, .string s, .int .i64 i, .string l] w fun e w' => e = .returned (.int .i64 (Mod.write ⟨c, dirOf L⟩ s.data.toList i l.data.toList).1) ∧ Out tag d m (Mod.write ⟨c, dirOf L⟩ s.data.toList i l.data.toList).2 w w' := by
  have hmf : ∀ (fn : Fn) (first cap : Array Value) (w : World), (Instr.makeFunc fn first cap).run Tryz.prog w = .ok (.func fn first cap) w := fun _ _ _ _ => rfl
  have hr := write_run tag w d m c L D s hs i l
  replace hl : l.size ≤ 9223372036854775807 := by unfold maxLen at hl; omega
  have hls : l.size = l.data.toList.length := rfl
  have hz : ((l.size : Int) == 256) = decide (l.data.toList.length = 256) := by
    rw [← hls]
    by_cases h : l.size = 256
    · simp [h]
    · have : ((l.size : Int) == 256) = false := by simp; omega
      rw [this, decide_eq_false h]
  clear D hls
  have hf : fitB s i l = (nameOk s && decide (0 ≤ i) && ((l.size : Int) == 256)) := by unfold fitB; rw [hz]; rfl
  rw [hf] at hr
  clear hf hz
  cases hn : nameOk s with
  | false =>
    rw [hn, Bool.false_and, Bool.false_and] at hr
    have HR := hid hr
    have HN := hid hn
    clear hr hn
    go_enter Tryz.func56, Tryz.ntmps56
    go_wp2_with fail
    refine (isName_any s hs _).mono ?_
    rintro e w' ⟨rfl, rfl⟩
    rw [HN.out]
    go_wp2_with fail
    refine HR.out.mono ?_
    rintro e w1 ⟨rfl, h⟩
    have H := hid h
    clear h
    go_wp2
    go_ret
    exact ⟨rfl, H.out⟩
  | true =>
    have HN := hid hn
    by_cases hi : 0 ≤ i
    · have di : decide (0 ≤ i) = true := decide_eq_true hi
      rw [hn, di, Bool.true_and, Bool.true_and] at hr
      cases h3 : ((l.size : Int) == 256) with
      | true =>
        rw [h3] at hr
        have HR := hid hr
        clear hr hn hi
        go_enter Tryz.func56, Tryz.ntmps56
        go_wp2_with fail
        refine (isName_any s hs _).mono ?_
        rintro e w' ⟨rfl, rfl⟩
        rw [HN.out]
        go_wp2_with fail
        refine HR.out.mono ?_
        rintro e w1 ⟨rfl, h⟩
        have H := hid h
        clear h
        go_wp2
        go_ret
        exact ⟨rfl, H.out⟩
      | false =>
        rw [h3] at hr
        have HR := hid hr
        clear hr hn hi
        go_enter Tryz.func56, Tryz.ntmps56
        go_wp2_with fail
        refine (isName_any s hs _).mono ?_
        rintro e w' ⟨rfl, rfl⟩
        rw [HN.out]
        go_wp2_with fail
        refine HR.out.mono ?_
        rintro e w1 ⟨rfl, h⟩
        have H := hid h
        clear h
        go_wp2
        go_ret
        exact ⟨rfl, H.out⟩
    · have di : decide (0 ≤ i) = false := decide_eq_false hi
      rw [hn, di, Bool.and_false, Bool.false_and] at hr
      have HR := hid hr
      clear hr hn hi
      go_enter Tryz.func56, Tryz.ntmps56
      go_wp2_with fail
      refine (isName_any s hs _).mono ?_
      rintro e w' ⟨rfl, rfl⟩
      rw [HN.out]
      go_wp2_with fail
      refine HR.out.mono ?_
      rintro e w1 ⟨rfl, h⟩
      have H := hid h
      clear h
      go_wp2
      go_ret
      exact ⟨rfl, H.out⟩

/-- On, whatever the power. -/
theorem on_any (tag : Nat → Tag) (w : World) (d m : Nat) (c : Ctl) (L : Ents) (D : DiskAt tag w d m c L) (fv : Value) (l : List Int) (hI : IntsAt w fv l) (hl : l.length ≤ maxLen) (hv : ∀ b o n cap, fv = .slice (some ⟨b, o, none⟩) n cap → n ≠ 0 → tag b = .other) :
    Calls Tryz.prog 27 #[ptr d, fv] w fun e w' => e = .returned (.tuple #[]) ∧ Out tag d m (Mod.on ⟨c, dirOf L⟩ l) w w' := by
  unfold Mod.on
  cases hd : c.down with
  | false => exact on_down tag w d m c L D fv l hI hd
  | true =>
    refine (on_up (norm tag w.heap.size) w d m c L D.norm fv l hI hl hd ?_ (fun k hk => norm_ge tag hk)).mono ?_
    · intro b o n cap e hn
      unfold norm
      split
      · exact hv b o n cap e hn
      · rfl
    · rintro e w' ⟨rfl, h⟩
      exact ⟨rfl, Out.ofNorm h⟩

end Disk
end Go.Proofs.YtgmbiiocjhkpdaaGreat
