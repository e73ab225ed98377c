/-
  Contracts of the project's onFile, for each function that is handed to it.
-/
import Derived.Test.YtgmbiiocjhkpdaaGreatDiskOnAny
namespace Go.Proofs.YtgmbiiocjhkpdaaGreat
open Go.RowKit
namespace Disk
open Num (hid bcells)

set_option maxRecDepth 100000 in
set_option maxHeartbeats 1000000 in
theorem onfile1_sync (w : World) (d m : Nat) (L : Ents) (s : ByteArray) (hs : s.size ≤ maxLen) (c0 : w.cell? ⟨d, 0, none⟩ = some (.map (some m))) (ho : Owns w m L) (a1 a2 a3 : Nat)
    (b1 : w.cell? ⟨a1, 0, none⟩ = some (ptr d)) (b2 : w.cell? ⟨a2, 0, none⟩ = some (.string s)) (b3 : w.cell? ⟨a3, 0, none⟩ = some (.func (.func 103) #[] #[])) (P : Int → World → Prop)
    (hn : get? L s.data.toList = none → P 14 w.drew)
    (hy : ∀ b F, get? L s.data.toList = some (b, F) → Calls Tryz.prog 103 #[ptr b] w.drew (Gives P)) :
    Calls Tryz.prog 130 #[ptr a1, ptr a2, ptr a3] w (Gives P) := by
  have hl := Owns.look (w := w.drew) ho s hs
  have HN := hid hn
  have HY := hid hy
  clear hn hy
  cases hg : get? L s.data.toList with
  | none =>
    rw [hg] at hl
    have hl2 : _ = Result.ok (Value.pointer none) w.drew := hl
    have HG := hid hg
    clear hl hg
    go_enter Tryz.func130, Tryz.ntmps130
    go_wp2
    go_region
    all_goals
      go_wp2
      go_ret
      exact ⟨14, rfl, HN.out HG.out⟩
  | some x =>
    obtain ⟨b, F⟩ := x
    rw [hg] at hl
    have hl2 : _ = Result.ok (Value.pointer (some ⟨b, 0, none⟩)) w.drew := hl
    have HG := hid hg
    clear hl hg
    go_enter Tryz.func130, Tryz.ntmps130
    go_wp2
    go_region
    all_goals
      go_wp2_with fail
      refine (HY.out b F HG.out).mono ?_
      rintro e w1 ⟨x, rfl, hp⟩
      have HP := hid hp
      clear hp
      go_wp2
      go_ret
      exact ⟨x, rfl, HP.out⟩

theorem onfile_run_sync (tag : Nat → Tag) (w : World) (d m : Nat) (c : Ctl) (L : Ents) (D : DiskAt tag w d m c L) (s : ByteArray) (hs : s.size ≤ maxLen) (fit : Bool) (P : Int → World → Prop)
    (hn : c.refusal fit = 0 → get? L s.data.toList = none → ∀ w1, DiskAt tag w1 d m (c.begun fit) L → Chg (· = d) w w1 → P 14 w1)
    (hy : c.refusal fit = 0 → ∀ b F, get? L s.data.toList = some (b, F) → ∀ w1, DiskAt tag w1 d m (c.begun fit) L → Chg (· = d) w w1 → Calls Tryz.prog 103 #[ptr b] w1 (Gives P)) :
    Calls Tryz.prog 92 #[ptr d, .bool fit, .func (.func 130) #[] #[ptr w.heap.size, ptr (w.heap.size + 1), ptr (w.heap.size + 1 + 1)]] ((((w.alloc (.cells #[ptr d] 24)).alloc (.cells #[.string s] tStr)).alloc (.cells #[.func (.func 103) #[] #[]] 135)).drew)
      (Ran tag d m c L fit P w) := by
  have hd := lt_of_block D.root.blk
  have e1 : (w.alloc (.cells #[ptr d] 24)).heap.size = w.heap.size + 1 := by simp
  have e2 : ((w.alloc (.cells #[ptr d] 24)).alloc (.cells #[.string s] tStr)).heap.size = w.heap.size + 1 + 1 := by simp
  have n1 := blk_alloc (blk_alloc (blk_new w (.cells #[ptr d] 24)) (.cells #[.string s] tStr)) (.cells #[.func (.func 103) #[] #[]] 135)
  have n2 := blk_alloc (blk_new (w.alloc (.cells #[ptr d] 24)) (.cells #[.string s] tStr)) (.cells #[.func (.func 103) #[] #[]] 135)
  have n3 := blk_new ((w.alloc (.cells #[ptr d] 24)).alloc (.cells #[.string s] tStr)) (.cells #[.func (.func 103) #[] #[]] 135)
  rw [e1] at n2
  rw [e2] at n3
  have hW : Chg (· = d) w ((((w.alloc (.cells #[ptr d] 24)).alloc (.cells #[.string s] tStr)).alloc (.cells #[.func (.func 103) #[] #[]] 135)).drew) := ((((Chg.refl _ w).alloc _).alloc _).alloc _).drew
  have hD := (((D.alloc (.cells #[ptr d] 24)).alloc (.cells #[.string s] tStr)).alloc (.cells #[.func (.func 103) #[] #[]] 135)).drew
  generalize ((((w.alloc (.cells #[ptr d] 24)).alloc (.cells #[.string s] tStr)).alloc (.cells #[.func (.func 103) #[] #[]] 135))) = W at n1 n2 n3 hW hD ⊢
  refine (operate_file tag W.drew d m c L hD _ _ _ fit P fun h0 w1 D1 hc1 => ?_).mono ?_
  · have m1 : w1.heap[w.heap.size]? = _ := hc1.at (w := W.drew) n1 (by omega)
    have m2 : w1.heap[w.heap.size + 1]? = _ := hc1.at (w := W.drew) n2 (by omega)
    have m3 : w1.heap[w.heap.size + 1 + 1]? = _ := hc1.at (w := W.drew) n3 (by omega)
    exact onfile1_sync w1 d m L s hs (root_cells D1.root.blk).1 D1.owns _ _ _ (cell_of_one m1) (cell_of_one m2) (cell_of_one m3) P
      (fun hg => hn h0 hg w1.drew D1.drew (hW.trans hc1.drew)) (fun b F hg => hy h0 b F hg w1.drew D1.drew (hW.trans hc1.drew))
  · rintro e w2 ⟨x, rfl, h⟩
    rcases h with ⟨h1, h2, h3, h4⟩ | h
    · exact ⟨x, rfl, Or.inl ⟨h1, h2, h3, hW.trans h4⟩⟩
    · exact ⟨x, rfl, Or.inr h⟩

theorem onfile_sync (tag : Nat → Tag) (w : World) (d m : Nat) (c : Ctl) (L : Ents) (D : DiskAt tag w d m c L) (s : ByteArray) (hs : s.size ≤ maxLen) (fit : Bool) (P : Int → World → Prop)
    (hn : c.refusal (fit && nameOk s) = 0 → get? L s.data.toList = none → ∀ w1, DiskAt tag w1 d m (c.begun (fit && nameOk s)) L → Chg (· = d) w w1 → P 14 w1)
    (hy : c.refusal (fit && nameOk s) = 0 → ∀ b F, get? L s.data.toList = some (b, F) → ∀ w1, DiskAt tag w1 d m (c.begun (fit && nameOk s)) L → Chg (· = d) w w1 → Calls Tryz.prog 103 #[ptr b] w1 (Gives P)) :
    Calls Tryz.prog 102 #[ptr d, .string s, .bool fit, .func (.func 103) #[] #[]] w (Ran tag d m c L (fit && nameOk s) P w) :=
  onfile_any tag w d m c L s hs fit _ _ P (onfile_run_sync tag w d m c L D s hs (fit && nameOk s) P hn hy)

set_option maxRecDepth 100000 in
set_option maxHeartbeats 1000000 in
theorem onfile1_read (w : World) (d m : Nat) (L : Ents) (s : ByteArray) (hs : s.size ≤ maxLen) (c0 : w.cell? ⟨d, 0, none⟩ = some (.map (some m))) (ho : Owns w m L) (a1 a2 a3 : Nat) (y1 y2 : Value)
    (b1 : w.cell? ⟨a1, 0, none⟩ = some (ptr d)) (b2 : w.cell? ⟨a2, 0, none⟩ = some (.string s)) (b3 : w.cell? ⟨a3, 0, none⟩ = some (.func (.func 105) #[] #[y1, y2])) (P : Int → World → Prop)
    (hn : get? L s.data.toList = none → P 14 w.drew)
    (hy : ∀ b F, get? L s.data.toList = some (b, F) → Calls Tryz.prog 105 #[ptr b, y1, y2] w.drew (Gives P)) :
    Calls Tryz.prog 130 #[ptr a1, ptr a2, ptr a3] w (Gives P) := by
  have hl := Owns.look (w := w.drew) ho s hs
  have HN := hid hn
  have HY := hid hy
  clear hn hy
  cases hg : get? L s.data.toList with
  | none =>
    rw [hg] at hl
    have hl2 : _ = Result.ok (Value.pointer none) w.drew := hl
    have HG := hid hg
    clear hl hg
    go_enter Tryz.func130, Tryz.ntmps130
    go_wp2
    go_region
    all_goals
      go_wp2
      go_ret
      exact ⟨14, rfl, HN.out HG.out⟩
  | some x =>
    obtain ⟨b, F⟩ := x
    rw [hg] at hl
    have hl2 : _ = Result.ok (Value.pointer (some ⟨b, 0, none⟩)) w.drew := hl
    have HG := hid hg
    clear hl hg
    go_enter Tryz.func130, Tryz.ntmps130
    go_wp2
    go_region
    all_goals
      go_wp2_with fail
      refine (HY.out b F HG.out).mono ?_
      rintro e w1 ⟨x, rfl, hp⟩
      have HP := hid hp
      clear hp
      go_wp2
      go_ret
      exact ⟨x, rfl, HP.out⟩

theorem onfile_run_read (tag : Nat → Tag) (w : World) (d m : Nat) (c : Ctl) (L : Ents) (D : DiskAt tag w d m c L) (s : ByteArray) (hs : s.size ≤ maxLen) (fit : Bool) (y1 y2 : Value) (P : Int → World → Prop)
    (hn : c.refusal fit = 0 → get? L s.data.toList = none → ∀ w1, DiskAt tag w1 d m (c.begun fit) L → Chg (· = d) w w1 → P 14 w1)
    (hy : c.refusal fit = 0 → ∀ b F, get? L s.data.toList = some (b, F) → ∀ w1, DiskAt tag w1 d m (c.begun fit) L → Chg (· = d) w w1 → Calls Tryz.prog 105 #[ptr b, y1, y2] w1 (Gives P)) :
    Calls Tryz.prog 92 #[ptr d, .bool fit, .func (.func 130) #[] #[ptr w.heap.size, ptr (w.heap.size + 1), ptr (w.heap.size + 1 + 1)]] ((((w.alloc (.cells #[ptr d] 24)).alloc (.cells #[.string s] tStr)).alloc (.cells #[.func (.func 105) #[] #[y1, y2]] 135)).drew)
      (Ran tag d m c L fit P w) := by
  have hd := lt_of_block D.root.blk
  have e1 : (w.alloc (.cells #[ptr d] 24)).heap.size = w.heap.size + 1 := by simp
  have e2 : ((w.alloc (.cells #[ptr d] 24)).alloc (.cells #[.string s] tStr)).heap.size = w.heap.size + 1 + 1 := by simp
  have n1 := blk_alloc (blk_alloc (blk_new w (.cells #[ptr d] 24)) (.cells #[.string s] tStr)) (.cells #[.func (.func 105) #[] #[y1, y2]] 135)
  have n2 := blk_alloc (blk_new (w.alloc (.cells #[ptr d] 24)) (.cells #[.string s] tStr)) (.cells #[.func (.func 105) #[] #[y1, y2]] 135)
  have n3 := blk_new ((w.alloc (.cells #[ptr d] 24)).alloc (.cells #[.string s] tStr)) (.cells #[.func (.func 105) #[] #[y1, y2]] 135)
  rw [e1] at n2
  rw [e2] at n3
  have hW : Chg (· = d) w ((((w.alloc (.cells #[ptr d] 24)).alloc (.cells #[.string s] tStr)).alloc (.cells #[.func (.func 105) #[] #[y1, y2]] 135)).drew) := ((((Chg.refl _ w).alloc _).alloc _).alloc _).drew
  have hD := (((D.alloc (.cells #[ptr d] 24)).alloc (.cells #[.string s] tStr)).alloc (.cells #[.func (.func 105) #[] #[y1, y2]] 135)).drew
  generalize ((((w.alloc (.cells #[ptr d] 24)).alloc (.cells #[.string s] tStr)).alloc (.cells #[.func (.func 105) #[] #[y1, y2]] 135))) = W at n1 n2 n3 hW hD ⊢
  refine (operate_file tag W.drew d m c L hD _ _ _ fit P fun h0 w1 D1 hc1 => ?_).mono ?_
  · have m1 : w1.heap[w.heap.size]? = _ := hc1.at (w := W.drew) n1 (by omega)
    have m2 : w1.heap[w.heap.size + 1]? = _ := hc1.at (w := W.drew) n2 (by omega)
    have m3 : w1.heap[w.heap.size + 1 + 1]? = _ := hc1.at (w := W.drew) n3 (by omega)
    exact onfile1_read w1 d m L s hs (root_cells D1.root.blk).1 D1.owns _ _ _ y1 y2 (cell_of_one m1) (cell_of_one m2) (cell_of_one m3) P
      (fun hg => hn h0 hg w1.drew D1.drew (hW.trans hc1.drew)) (fun b F hg => hy h0 b F hg w1.drew D1.drew (hW.trans hc1.drew))
  · rintro e w2 ⟨x, rfl, h⟩
    rcases h with ⟨h1, h2, h3, h4⟩ | h
    · exact ⟨x, rfl, Or.inl ⟨h1, h2, h3, hW.trans h4⟩⟩
    · exact ⟨x, rfl, Or.inr h⟩

theorem onfile_read (tag : Nat → Tag) (w : World) (d m : Nat) (c : Ctl) (L : Ents) (D : DiskAt tag w d m c L) (s : ByteArray) (hs : s.size ≤ maxLen) (fit : Bool) (y1 y2 : Value) (P : Int → World → Prop)
    (hn : c.refusal (fit && nameOk s) = 0 → get? L s.data.toList = none → ∀ w1, DiskAt tag w1 d m (c.begun (fit && nameOk s)) L → Chg (· = d) w w1 → P 14 w1)
    (hy : c.refusal (fit && nameOk s) = 0 → ∀ b F, get? L s.data.toList = some (b, F) → ∀ w1, DiskAt tag w1 d m (c.begun (fit && nameOk s)) L → Chg (· = d) w w1 → Calls Tryz.prog 105 #[ptr b, y1, y2] w1 (Gives P)) :
    Calls Tryz.prog 102 #[ptr d, .string s, .bool fit, .func (.func 105) #[] #[y1, y2]] w (Ran tag d m c L (fit && nameOk s) P w) :=
  onfile_any tag w d m c L s hs fit _ _ P (onfile_run_read tag w d m c L D s hs (fit && nameOk s) y1 y2 P hn hy)

set_option maxRecDepth 100000 in
set_option maxHeartbeats 1000000 in
theorem onfile1_cut (w : World) (d m : Nat) (L : Ents) (s : ByteArray) (hs : s.size ≤ maxLen) (c0 : w.cell? ⟨d, 0, none⟩ = some (.map (some m))) (ho : Owns w m L) (a1 a2 a3 : Nat) (y1 : Value)
    (b1 : w.cell? ⟨a1, 0, none⟩ = some (ptr d)) (b2 : w.cell? ⟨a2, 0, none⟩ = some (.string s)) (b3 : w.cell? ⟨a3, 0, none⟩ = some (.func (.func 107) #[] #[y1])) (P : Int → World → Prop)
    (hn : get? L s.data.toList = none → P 14 w.drew)
    (hy : ∀ b F, get? L s.data.toList = some (b, F) → Calls Tryz.prog 107 #[ptr b, y1] w.drew (Gives P)) :
    Calls Tryz.prog 130 #[ptr a1, ptr a2, ptr a3] w (Gives P) := by
  have hl := Owns.look (w := w.drew) ho s hs
  have HN := hid hn
  have HY := hid hy
  clear hn hy
  cases hg : get? L s.data.toList with
  | none =>
    rw [hg] at hl
    have hl2 : _ = Result.ok (Value.pointer none) w.drew := hl
    have HG := hid hg
    clear hl hg
    go_enter Tryz.func130, Tryz.ntmps130
    go_wp2
    go_region
    all_goals
      go_wp2
      go_ret
      exact ⟨14, rfl, HN.out HG.out⟩
  | some x =>
    obtain ⟨b, F⟩ := x
    rw [hg] at hl
    have hl2 : _ = Result.ok (Value.pointer (some ⟨b, 0, none⟩)) w.drew := hl
    have HG := hid hg
    clear hl hg
    go_enter Tryz.func130, Tryz.ntmps130
    go_wp2
    go_region
    all_goals
      go_wp2_with fail
      refine (HY.out b F HG.out).mono ?_
      rintro e w1 ⟨x, rfl, hp⟩
      have HP := hid hp
      clear hp
      go_wp2
      go_ret
      exact ⟨x, rfl, HP.out⟩

theorem onfile_run_cut (tag : Nat → Tag) (w : World) (d m : Nat) (c : Ctl) (L : Ents) (D : DiskAt tag w d m c L) (s : ByteArray) (hs : s.size ≤ maxLen) (fit : Bool) (y1 : Value) (P : Int → World → Prop)
    (hn : c.refusal fit = 0 → get? L s.data.toList = none → ∀ w1, DiskAt tag w1 d m (c.begun fit) L → Chg (· = d) w w1 → P 14 w1)
    (hy : c.refusal fit = 0 → ∀ b F, get? L s.data.toList = some (b, F) → ∀ w1, DiskAt tag w1 d m (c.begun fit) L → Chg (· = d) w w1 → Calls Tryz.prog 107 #[ptr b, y1] w1 (Gives P)) :
    Calls Tryz.prog 92 #[ptr d, .bool fit, .func (.func 130) #[] #[ptr w.heap.size, ptr (w.heap.size + 1), ptr (w.heap.size + 1 + 1)]] ((((w.alloc (.cells #[ptr d] 24)).alloc (.cells #[.string s] tStr)).alloc (.cells #[.func (.func 107) #[] #[y1]] 135)).drew)
      (Ran tag d m c L fit P w) := by
  have hd := lt_of_block D.root.blk
  have e1 : (w.alloc (.cells #[ptr d] 24)).heap.size = w.heap.size + 1 := by simp
  have e2 : ((w.alloc (.cells #[ptr d] 24)).alloc (.cells #[.string s] tStr)).heap.size = w.heap.size + 1 + 1 := by simp
  have n1 := blk_alloc (blk_alloc (blk_new w (.cells #[ptr d] 24)) (.cells #[.string s] tStr)) (.cells #[.func (.func 107) #[] #[y1]] 135)
  have n2 := blk_alloc (blk_new (w.alloc (.cells #[ptr d] 24)) (.cells #[.string s] tStr)) (.cells #[.func (.func 107) #[] #[y1]] 135)
  have n3 := blk_new ((w.alloc (.cells #[ptr d] 24)).alloc (.cells #[.string s] tStr)) (.cells #[.func (.func 107) #[] #[y1]] 135)
  rw [e1] at n2
  rw [e2] at n3
  have hW : Chg (· = d) w ((((w.alloc (.cells #[ptr d] 24)).alloc (.cells #[.string s] tStr)).alloc (.cells #[.func (.func 107) #[] #[y1]] 135)).drew) := ((((Chg.refl _ w).alloc _).alloc _).alloc _).drew
  have hD := (((D.alloc (.cells #[ptr d] 24)).alloc (.cells #[.string s] tStr)).alloc (.cells #[.func (.func 107) #[] #[y1]] 135)).drew
  generalize ((((w.alloc (.cells #[ptr d] 24)).alloc (.cells #[.string s] tStr)).alloc (.cells #[.func (.func 107) #[] #[y1]] 135))) = W at n1 n2 n3 hW hD ⊢
  refine (operate_file tag W.drew d m c L hD _ _ _ fit P fun h0 w1 D1 hc1 => ?_).mono ?_
  · have m1 : w1.heap[w.heap.size]? = _ := hc1.at (w := W.drew) n1 (by omega)
    have m2 : w1.heap[w.heap.size + 1]? = _ := hc1.at (w := W.drew) n2 (by omega)
    have m3 : w1.heap[w.heap.size + 1 + 1]? = _ := hc1.at (w := W.drew) n3 (by omega)
    exact onfile1_cut w1 d m L s hs (root_cells D1.root.blk).1 D1.owns _ _ _ y1 (cell_of_one m1) (cell_of_one m2) (cell_of_one m3) P
      (fun hg => hn h0 hg w1.drew D1.drew (hW.trans hc1.drew)) (fun b F hg => hy h0 b F hg w1.drew D1.drew (hW.trans hc1.drew))
  · rintro e w2 ⟨x, rfl, h⟩
    rcases h with ⟨h1, h2, h3, h4⟩ | h
    · exact ⟨x, rfl, Or.inl ⟨h1, h2, h3, hW.trans h4⟩⟩
    · exact ⟨x, rfl, Or.inr h⟩

theorem onfile_cut (tag : Nat → Tag) (w : World) (d m : Nat) (c : Ctl) (L : Ents) (D : DiskAt tag w d m c L) (s : ByteArray) (hs : s.size ≤ maxLen) (fit : Bool) (y1 : Value) (P : Int → World → Prop)
    (hn : c.refusal (fit && nameOk s) = 0 → get? L s.data.toList = none → ∀ w1, DiskAt tag w1 d m (c.begun (fit && nameOk s)) L → Chg (· = d) w w1 → P 14 w1)
    (hy : c.refusal (fit && nameOk s) = 0 → ∀ b F, get? L s.data.toList = some (b, F) → ∀ w1, DiskAt tag w1 d m (c.begun (fit && nameOk s)) L → Chg (· = d) w w1 → Calls Tryz.prog 107 #[ptr b, y1] w1 (Gives P)) :
    Calls Tryz.prog 102 #[ptr d, .string s, .bool fit, .func (.func 107) #[] #[y1]] w (Ran tag d m c L (fit && nameOk s) P w) :=
  onfile_any tag w d m c L s hs fit _ _ P (onfile_run_cut tag w d m c L D s hs (fit && nameOk s) y1 P hn hy)

set_option maxRecDepth 100000 in
set_option maxHeartbeats 1000000 in
theorem onfile1_drop (w : World) (d m : Nat) (L : Ents) (s : ByteArray) (hs : s.size ≤ maxLen) (c0 : w.cell? ⟨d, 0, none⟩ = some (.map (some m))) (ho : Owns w m L) (a1 a2 a3 : Nat) (y1 y2 : Value)
    (b1 : w.cell? ⟨a1, 0, none⟩ = some (ptr d)) (b2 : w.cell? ⟨a2, 0, none⟩ = some (.string s)) (b3 : w.cell? ⟨a3, 0, none⟩ = some (.func (.func 109) #[] #[y1, y2])) (P : Int → World → Prop)
    (hn : get? L s.data.toList = none → P 14 w.drew)
    (hy : ∀ b F, get? L s.data.toList = some (b, F) → Calls Tryz.prog 109 #[ptr b, y1, y2] w.drew (Gives P)) :
    Calls Tryz.prog 130 #[ptr a1, ptr a2, ptr a3] w (Gives P) := by
  have hl := Owns.look (w := w.drew) ho s hs
  have HN := hid hn
  have HY := hid hy
  clear hn hy
  cases hg : get? L s.data.toList with
  | none =>
    rw [hg] at hl
    have hl2 : _ = Result.ok (Value.pointer none) w.drew := hl
    have HG := hid hg
    clear hl hg
    go_enter Tryz.func130, Tryz.ntmps130
    go_wp2
    go_region
    all_goals
      go_wp2
      go_ret
      exact ⟨14, rfl, HN.out HG.out⟩
  | some x =>
    obtain ⟨b, F⟩ := x
    rw [hg] at hl
    have hl2 : _ = Result.ok (Value.pointer (some ⟨b, 0, none⟩)) w.drew := hl
    have HG := hid hg
    clear hl hg
    go_enter Tryz.func130, Tryz.ntmps130
    go_wp2
    go_region
    all_goals
      go_wp2_with fail
      refine (HY.out b F HG.out).mono ?_
      rintro e w1 ⟨x, rfl, hp⟩
      have HP := hid hp
      clear hp
      go_wp2
      go_ret
      exact ⟨x, rfl, HP.out⟩

theorem onfile_run_drop (tag : Nat → Tag) (w : World) (d m : Nat) (c : Ctl) (L : Ents) (D : DiskAt tag w d m c L) (s : ByteArray) (hs : s.size ≤ maxLen) (fit : Bool) (y1 y2 : Value) (P : Int → World → Prop)
    (hn : c.refusal fit = 0 → get? L s.data.toList = none → ∀ w1, DiskAt tag w1 d m (c.begun fit) L → Chg (· = d) w w1 → P 14 w1)
    (hy : c.refusal fit = 0 → ∀ b F, get? L s.data.toList = some (b, F) → ∀ w1, DiskAt tag w1 d m (c.begun fit) L → Chg (· = d) w w1 → Calls Tryz.prog 109 #[ptr b, y1, y2] w1 (Gives P)) :
    Calls Tryz.prog 92 #[ptr d, .bool fit, .func (.func 130) #[] #[ptr w.heap.size, ptr (w.heap.size + 1), ptr (w.heap.size + 1 + 1)]] ((((w.alloc (.cells #[ptr d] 24)).alloc (.cells #[.string s] tStr)).alloc (.cells #[.func (.func 109) #[] #[y1, y2]] 135)).drew)
      (Ran tag d m c L fit P w) := by
  have hd := lt_of_block D.root.blk
  have e1 : (w.alloc (.cells #[ptr d] 24)).heap.size = w.heap.size + 1 := by simp
  have e2 : ((w.alloc (.cells #[ptr d] 24)).alloc (.cells #[.string s] tStr)).heap.size = w.heap.size + 1 + 1 := by simp
  have n1 := blk_alloc (blk_alloc (blk_new w (.cells #[ptr d] 24)) (.cells #[.string s] tStr)) (.cells #[.func (.func 109) #[] #[y1, y2]] 135)
  have n2 := blk_alloc (blk_new (w.alloc (.cells #[ptr d] 24)) (.cells #[.string s] tStr)) (.cells #[.func (.func 109) #[] #[y1, y2]] 135)
  have n3 := blk_new ((w.alloc (.cells #[ptr d] 24)).alloc (.cells #[.string s] tStr)) (.cells #[.func (.func 109) #[] #[y1, y2]] 135)
  rw [e1] at n2
  rw [e2] at n3
  have hW : Chg (· = d) w ((((w.alloc (.cells #[ptr d] 24)).alloc (.cells #[.string s] tStr)).alloc (.cells #[.func (.func 109) #[] #[y1, y2]] 135)).drew) := ((((Chg.refl _ w).alloc _).alloc _).alloc _).drew
  have hD := (((D.alloc (.cells #[ptr d] 24)).alloc (.cells #[.string s] tStr)).alloc (.cells #[.func (.func 109) #[] #[y1, y2]] 135)).drew
  generalize ((((w.alloc (.cells #[ptr d] 24)).alloc (.cells #[.string s] tStr)).alloc (.cells #[.func (.func 109) #[] #[y1, y2]] 135))) = W at n1 n2 n3 hW hD ⊢
  refine (operate_file tag W.drew d m c L hD _ _ _ fit P fun h0 w1 D1 hc1 => ?_).mono ?_
  · have m1 : w1.heap[w.heap.size]? = _ := hc1.at (w := W.drew) n1 (by omega)
    have m2 : w1.heap[w.heap.size + 1]? = _ := hc1.at (w := W.drew) n2 (by omega)
    have m3 : w1.heap[w.heap.size + 1 + 1]? = _ := hc1.at (w := W.drew) n3 (by omega)
    exact onfile1_drop w1 d m L s hs (root_cells D1.root.blk).1 D1.owns _ _ _ y1 y2 (cell_of_one m1) (cell_of_one m2) (cell_of_one m3) P
      (fun hg => hn h0 hg w1.drew D1.drew (hW.trans hc1.drew)) (fun b F hg => hy h0 b F hg w1.drew D1.drew (hW.trans hc1.drew))
  · rintro e w2 ⟨x, rfl, h⟩
    rcases h with ⟨h1, h2, h3, h4⟩ | h
    · exact ⟨x, rfl, Or.inl ⟨h1, h2, h3, hW.trans h4⟩⟩
    · exact ⟨x, rfl, Or.inr h⟩

theorem onfile_drop (tag : Nat → Tag) (w : World) (d m : Nat) (c : Ctl) (L : Ents) (D : DiskAt tag w d m c L) (s : ByteArray) (hs : s.size ≤ maxLen) (fit : Bool) (y1 y2 : Value) (P : Int → World → Prop)
    (hn : c.refusal (fit && nameOk s) = 0 → get? L s.data.toList = none → ∀ w1, DiskAt tag w1 d m (c.begun (fit && nameOk s)) L → Chg (· = d) w w1 → P 14 w1)
    (hy : c.refusal (fit && nameOk s) = 0 → ∀ b F, get? L s.data.toList = some (b, F) → ∀ w1, DiskAt tag w1 d m (c.begun (fit && nameOk s)) L → Chg (· = d) w w1 → Calls Tryz.prog 109 #[ptr b, y1, y2] w1 (Gives P)) :
    Calls Tryz.prog 102 #[ptr d, .string s, .bool fit, .func (.func 109) #[] #[y1, y2]] w (Ran tag d m c L (fit && nameOk s) P w) :=
  onfile_any tag w d m c L s hs fit _ _ P (onfile_run_drop tag w d m c L D s hs (fit && nameOk s) y1 y2 P hn hy)

end Disk
end Go.Proofs.YtgmbiiocjhkpdaaGreat
