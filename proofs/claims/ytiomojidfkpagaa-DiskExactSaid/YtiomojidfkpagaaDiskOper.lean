/-
  Contracts of the project's disk: an operation is refused, counted, has a fault, or is done.
-/
import Derived.Test.YtiomojidfkpagaaDiskCtl
namespace Go.Proofs.Ytiomojidfkpagaa
open Go.RowKit
namespace Disk
open Num (hid bcells)

/-- A call that turns the struct alone leaves the rest. -/
theorem DiskAt.turned {tag : Nat → Tag} {w w' : World} {d m : Nat} {c c' : Ctl} {L : Ents} (h : DiskAt tag w d m c L) (ht : Turns m d c' w w') (ok : c'.Ok) : DiskAt tag w' d m c' L := by
  have hmd : ¬ m = d := fun e => by have h1 := h.root.tagm; rw [e, h.root.tagd] at h1; cases h1
  refine ⟨⟨ht.1, h.root.tagd, h.root.tagm, ok⟩, h.owns.kept ht.2 hmd, h.files.kept ht.2 (fun _ _ => rfl) ?_, h.few⟩
  rintro k rfl
  rw [h.root.tagd]
  exact ⟨by simp, fun n => ⟨by simp, by simp⟩⟩

/-- What an operation ends in. -/
def Ran (tag : Nat → Tag) (d m : Nat) (c : Ctl) (L : Ents) (fit : Bool) (P : Int → World → Prop) (w : World) (e : Ending) (w' : World) : Prop :=
  ∃ x, e = .returned (.int .i64 x) ∧ ((c.refusal fit ≠ 0 ∧ x = c.refusal fit ∧ DiskAt tag w' d m (c.begun fit) L ∧ Chg (· = d) w w') ∨ (c.refusal fit = 0 ∧ P x w'))
def Gives (P : Int → World → Prop) (e : Ending) (w' : World) : Prop := ∃ x, e = .returned (.int .i64 x) ∧ P x w'

set_option maxRecDepth 100000 in
set_option maxHeartbeats 1000000 in
theorem operate_write (tag : Nat → Tag) (w : World) (d m : Nat) (c : Ctl) (L : Ents) (D : DiskAt tag w d m c L) (x1 x2 x3 x4 : Value) (fit : Bool) (P : Int → World → Prop)
    (hrun : c.refusal fit = 0 → ∀ w1, DiskAt tag w1 d m (c.begun fit) L → Chg (· = d) w w1 → Calls Try.prog 86 #[x1, x2, x3, x4] w1 (Gives P)) :
    Calls Try.prog 85 #[ptr d, .bool fit, .func (.func 86) #[] #[x1, x2, x3, x4]] w (Ran tag d m c L fit P w) := by
  obtain ⟨-, -, c2, c3, c4, c5, c6, -⟩ := root_cells D.root.blk
  have f6 := blk_free D.root.blk 6
  have HD := hid D
  have HR := hid hrun
  have b0 := D.root.blk
  have ok := D.root.ok
  clear D hrun
  cases fit with
  | false =>
    clear c2 c3 c4 c5 c6 f6 b0 ok
    go_enter Try.func85, Try.ntmps85
    go_wp2
    go_ret
    exact ⟨1, rfl, Or.inl ⟨(by show (1 : Int) ≠ 0; decide), rfl, HD.out, Chg.refl _ _⟩⟩
  | true =>
    cases hd : c.down with
    | true =>
      rw [hd] at c5
      have HDN := hid hd
      clear c2 c3 c4 c6 f6 b0 ok hd
      go_enter Try.func85, Try.ntmps85
      go_wp2
      go_ret
      have e : c.refusal true = 10 := by simp [Ctl.refusal, HDN.out]
      have e2 : c.begun true = c := by simp [Ctl.begun, HDN.out]
      exact ⟨10, rfl, Or.inl ⟨by rw [e]; decide, by rw [e], by rw [e2]; exact HD.out, Chg.refl _ _⟩⟩
    | false =>
      rw [hd] at c5
      have HDN := hid hd
      have b1 := set_ops b0 (inc c.ops)
      have HB1 := hid b1
      have OK := hid ok
      have hck : Chg (· = d) w (w.setCell ⟨d, 6, none⟩ (.int .i64 (inc c.ops))) := (Chg.refl _ _).root 6 _
      have HCK := hid hck
      clear c2 c3 c4 hd ok b1 hck
      go_enter Try.func85, Try.ntmps85
      go_wp2_with fail
      refine (next_any d m _ _ HB1.out (OK.out.opsed _)).mono ?_
      rintro e w1 ⟨rfl, ht⟩
      have ht2 : Turns m d c.counted w w1 := ⟨ht.1, HCK.out.trans ht.2⟩
      have D1 := HD.out.turned ht2 OK.out.counted
      have HD1 := hid D1
      have HT := hid ht2
      have hff : ({ c with ops := inc c.ops } : Ctl).fault = c.fault := rfl
      have hf012 : c.fault = 0 ∨ c.fault = 1 ∨ c.fault = 2 := by
        have h5 := OK.out.some
        unfold Ctl.fault
        split
        · rename_i h1
          have := h5 (by omega)
          omega
        · exact Or.inl rfl
      rw [hff]
      clear ht ht2 D1 hff
      rcases hf012 with hf | hf | hf
      · have e1 : c.refusal true = 0 := by simp [Ctl.refusal, HDN.out, hf]
        have e2 : c.begun true = c.counted := by simp [Ctl.begun, HDN.out, hf]
        have HE := hid e1
        have hr := HR.out e1 w1 (by rw [e2]; exact HD1.out) HT.out.2
        rw [hf]
        clear hf e1 e2
        go_wp2_with fail
        refine hr.mono ?_
        rintro e w2 ⟨x, rfl, hp⟩
        have HP := hid hp
        clear hp hr
        go_wp2
        go_ret
        exact ⟨x, rfl, Or.inr ⟨HE.out, HP.out⟩⟩
      · have e1 : c.refusal true = 11 := by simp [Ctl.refusal, HDN.out, hf]
        have e2 : c.begun true = c.counted := by simp [Ctl.begun, HDN.out, hf]
        have HE := hid e1
        have HE2 := hid e2
        rw [hf]
        clear hf e1 e2
        go_wp2
        go_ret
        exact ⟨11, rfl, Or.inl ⟨by rw [HE.out]; decide, HE.out.symm, by rw [HE2.out]; exact HD1.out, HT.out.2⟩⟩
      · have e1 : c.refusal true = 10 := by simp [Ctl.refusal, HDN.out, hf]
        have e2 : c.begun true = c.counted.offed := by simp [Ctl.begun, HDN.out, hf]
        have HE := hid e1
        have HE2 := hid e2
        rw [hf]
        clear hf e1 e2
        go_wp2_with fail
        refine (off_any d m _ _ HD1.out.root.blk).mono ?_
        rintro e w2 ⟨rfl, ht⟩
        have HT2 := hid ht
        clear ht
        go_wp2
        go_ret
        exact ⟨10, rfl, Or.inl ⟨by rw [HE.out]; decide, HE.out.symm, by rw [HE2.out]; exact HD1.out.turned HT2.out OK.out.counted.offed, HT.out.2.trans HT2.out.2⟩⟩

set_option maxRecDepth 100000 in
set_option maxHeartbeats 1000000 in
theorem operate_file (tag : Nat → Tag) (w : World) (d m : Nat) (c : Ctl) (L : Ents) (D : DiskAt tag w d m c L) (x1 x2 x3 : Value) (fit : Bool) (P : Int → World → Prop)
    (hrun : c.refusal fit = 0 → ∀ w1, DiskAt tag w1 d m (c.begun fit) L → Chg (· = d) w w1 → Calls Try.prog 117 #[x1, x2, x3] w1 (Gives P)) :
    Calls Try.prog 85 #[ptr d, .bool fit, .func (.func 117) #[] #[x1, x2, x3]] w (Ran tag d m c L fit P w) := by
  obtain ⟨-, -, c2, c3, c4, c5, c6, -⟩ := root_cells D.root.blk
  have f6 := blk_free D.root.blk 6
  have HD := hid D
  have HR := hid hrun
  have b0 := D.root.blk
  have ok := D.root.ok
  clear D hrun
  cases fit with
  | false =>
    clear c2 c3 c4 c5 c6 f6 b0 ok
    go_enter Try.func85, Try.ntmps85
    go_wp2
    go_ret
    exact ⟨1, rfl, Or.inl ⟨(by show (1 : Int) ≠ 0; decide), rfl, HD.out, Chg.refl _ _⟩⟩
  | true =>
    cases hd : c.down with
    | true =>
      rw [hd] at c5
      have HDN := hid hd
      clear c2 c3 c4 c6 f6 b0 ok hd
      go_enter Try.func85, Try.ntmps85
      go_wp2
      go_ret
      have e : c.refusal true = 10 := by simp [Ctl.refusal, HDN.out]
      have e2 : c.begun true = c := by simp [Ctl.begun, HDN.out]
      exact ⟨10, rfl, Or.inl ⟨by rw [e]; decide, by rw [e], by rw [e2]; exact HD.out, Chg.refl _ _⟩⟩
    | false =>
      rw [hd] at c5
      have HDN := hid hd
      have b1 := set_ops b0 (inc c.ops)
      have HB1 := hid b1
      have OK := hid ok
      have hck : Chg (· = d) w (w.setCell ⟨d, 6, none⟩ (.int .i64 (inc c.ops))) := (Chg.refl _ _).root 6 _
      have HCK := hid hck
      clear c2 c3 c4 hd ok b1 hck
      go_enter Try.func85, Try.ntmps85
      go_wp2_with fail
      refine (next_any d m _ _ HB1.out (OK.out.opsed _)).mono ?_
      rintro e w1 ⟨rfl, ht⟩
      have ht2 : Turns m d c.counted w w1 := ⟨ht.1, HCK.out.trans ht.2⟩
      have D1 := HD.out.turned ht2 OK.out.counted
      have HD1 := hid D1
      have HT := hid ht2
      have hff : ({ c with ops := inc c.ops } : Ctl).fault = c.fault := rfl
      have hf012 : c.fault = 0 ∨ c.fault = 1 ∨ c.fault = 2 := by
        have h5 := OK.out.some
        unfold Ctl.fault
        split
        · rename_i h1
          have := h5 (by omega)
          omega
        · exact Or.inl rfl
      rw [hff]
      clear ht ht2 D1 hff
      rcases hf012 with hf | hf | hf
      · have e1 : c.refusal true = 0 := by simp [Ctl.refusal, HDN.out, hf]
        have e2 : c.begun true = c.counted := by simp [Ctl.begun, HDN.out, hf]
        have HE := hid e1
        have hr := HR.out e1 w1 (by rw [e2]; exact HD1.out) HT.out.2
        rw [hf]
        clear hf e1 e2
        go_wp2_with fail
        refine hr.mono ?_
        rintro e w2 ⟨x, rfl, hp⟩
        have HP := hid hp
        clear hp hr
        go_wp2
        go_ret
        exact ⟨x, rfl, Or.inr ⟨HE.out, HP.out⟩⟩
      · have e1 : c.refusal true = 11 := by simp [Ctl.refusal, HDN.out, hf]
        have e2 : c.begun true = c.counted := by simp [Ctl.begun, HDN.out, hf]
        have HE := hid e1
        have HE2 := hid e2
        rw [hf]
        clear hf e1 e2
        go_wp2
        go_ret
        exact ⟨11, rfl, Or.inl ⟨by rw [HE.out]; decide, HE.out.symm, by rw [HE2.out]; exact HD1.out, HT.out.2⟩⟩
      · have e1 : c.refusal true = 10 := by simp [Ctl.refusal, HDN.out, hf]
        have e2 : c.begun true = c.counted.offed := by simp [Ctl.begun, HDN.out, hf]
        have HE := hid e1
        have HE2 := hid e2
        rw [hf]
        clear hf e1 e2
        go_wp2_with fail
        refine (off_any d m _ _ HD1.out.root.blk).mono ?_
        rintro e w2 ⟨rfl, ht⟩
        have HT2 := hid ht
        clear ht
        go_wp2
        go_ret
        exact ⟨10, rfl, Or.inl ⟨by rw [HE.out]; decide, HE.out.symm, by rw [HE2.out]; exact HD1.out.turned HT2.out OK.out.counted.offed, HT.out.2.trans HT2.out.2⟩⟩

end Disk
end Go.Proofs.Ytiomojidfkpagaa
