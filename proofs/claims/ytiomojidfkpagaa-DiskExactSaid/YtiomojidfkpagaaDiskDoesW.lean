/-
  Contracts of the statements' own calls on a disk: an act that writes.
-/
import Derived.Test.YtiomojidfkpagaaDiskDoes
namespace Go.Proofs.Ytiomojidfkpagaa
open Go.RowKit
namespace Disk
open Num (hid bcells)

set_option maxRecDepth 100000 in
set_option maxHeartbeats 4000000 in
theorem does_load {N d m : Nat} {M : Mod} {w : World} (h : Has N d m M w) (x : ActM) (hx : ActOk N w x) (hk : x.kind = 10) :
    Calls Try.prog 12 #[ptr d, .agg x.cells] w (DoesOut N d m M x w) := by
  obtain ⟨ao, nn, cap, hfv⟩ := ActM.shape hx
  have HW := hid h
  have H1 := hid ((h.kept ((Below.refl _ w).alloc (Nat.le_refl _) (.cells x.cells tAct))))
  have hd : M.does x = ([], (M.load x.name.data.toList x.data).1, (M.load x.name.data.toList x.data).2) := by unfold Mod.does; rw [hk]; rfl
  have HD := hid hd
  have HN : Hid (N ≤ w.heap.size) := hid (by obtain ⟨_, _, _, _, _, hz⟩ := h; exact hz)
  have hnm := hx.name
  have hds := ActM.data_size x
  have HDS := hid hds
  have a1 := blk_cell (blk_new w (.cells x.cells tAct)) 1
  have hA : w.heap.size < (w.alloc (.cells x.cells tAct)).heap.size := by simp
  have HA := hid hA
  clear hd h hx hA hds
  obtain ⟨kind, name, n, fill, len, fv, fates⟩ := x
  simp only at hk hfv hnm
  subst hk
  subst hfv
  unfold ActM.cells at H1 HA a1 ⊢
  simp only at H1 HA a1 ⊢
  have A1 : Hid ((w.alloc (.cells #[.int .i64 10, .string name, .int .i64 n, .int .u8 (fill.toNat : Int), .int .i64 len, .slice ao nn cap] tAct)).cell? ⟨w.heap.size, 1, none⟩ = some (.string name)) := hid a1
  clear a1
  go_enter Try.func12, Try.ntmps12
  go_wp2
  go_region_with (first
    | (go_at_call 50; refine (data_any 10 n len name fill ao nn cap fates _).mono ?_; rintro e w1 ⟨rfl, hb⟩; have q1 := (hb.cell (p := ⟨w.heap.size, 1, none⟩) HA.out).trans A1.out)
    | (go_at_call 53; refine (load_has ((H1.out.kept ((Below.refl _ _).drew)).kept hb) name hnm _ HDS.out).mono ?_; rintro e w2 ⟨rfl, h2, hb2⟩))
  all_goals
    have H2 := hid h2
    have HB := hid (((((Below.refl N w).alloc HN.out (.cells #[.int .i64 10, .string name, .int .i64 n, .int .u8 (fill.toNat : Int), .int .i64 len, .slice ao nn cap] tAct)).drew).trans (hb.mono (Nat.le_trans HN.out (Nat.le_of_lt HA.out)))).trans hb2)
    clear h2 hb2 hb q1
    go_wp2
    go_ret2
    unfold DoesOut
    rw [HD.out]
    exact ⟨rfl, H2.out, HB.out⟩

set_option maxRecDepth 100000 in
set_option maxHeartbeats 4000000 in
theorem does_write {N d m : Nat} {M : Mod} {w : World} (h : Has N d m M w) (x : ActM) (hx : ActOk N w x) (hk : x.kind = 2) :
    Calls Try.prog 12 #[ptr d, .agg x.cells] w (DoesOut N d m M x w) := by
  obtain ⟨ao, nn, cap, hfv⟩ := ActM.shape hx
  have HW := hid h
  have H1 := hid ((h.kept ((Below.refl _ w).alloc (Nat.le_refl _) (.cells x.cells tAct))))
  have hd : M.does x = ([], (M.write x.name.data.toList x.n x.data).1, (M.write x.name.data.toList x.n x.data).2) := by unfold Mod.does; rw [hk]; rfl
  have HD := hid hd
  have HN : Hid (N ≤ w.heap.size) := hid (by obtain ⟨_, _, _, _, _, hz⟩ := h; exact hz)
  have hnm := hx.name
  have hds := ActM.data_size x
  have HDS := hid hds
  have a1 := blk_cell (blk_new w (.cells x.cells tAct)) 1
  have a2 := blk_cell (blk_new w (.cells x.cells tAct)) 2
  have hA : w.heap.size < (w.alloc (.cells x.cells tAct)).heap.size := by simp
  have HA := hid hA
  clear hd h hx hA hds
  obtain ⟨kind, name, n, fill, len, fv, fates⟩ := x
  simp only at hk hfv hnm
  subst hk
  subst hfv
  unfold ActM.cells at H1 HA a1 a2 ⊢
  simp only at H1 HA a1 a2 ⊢
  have A1 : Hid ((w.alloc (.cells #[.int .i64 2, .string name, .int .i64 n, .int .u8 (fill.toNat : Int), .int .i64 len, .slice ao nn cap] tAct)).cell? ⟨w.heap.size, 1, none⟩ = some (.string name)) := hid a1
  have A2 : Hid ((w.alloc (.cells #[.int .i64 2, .string name, .int .i64 n, .int .u8 (fill.toNat : Int), .int .i64 len, .slice ao nn cap] tAct)).cell? ⟨w.heap.size, 2, none⟩ = some (.int .i64 n)) := hid a2
  clear a1 a2
  go_enter Try.func12, Try.ntmps12
  go_wp2
  go_region_with (first
    | (go_at_call 50; refine (data_any 2 n len name fill ao nn cap fates _).mono ?_; rintro e w1 ⟨rfl, hb⟩; have q1 := (hb.cell (p := ⟨w.heap.size, 1, none⟩) HA.out).trans A1.out; have q2 := (hb.cell (p := ⟨w.heap.size, 2, none⟩) HA.out).trans A2.out)
    | (go_at_call 41; refine (write_has ((H1.out.kept ((Below.refl _ _).drew)).kept hb) name hnm n _ HDS.out).mono ?_; rintro e w2 ⟨rfl, h2, hb2⟩))
  all_goals
    have H2 := hid h2
    have HB := hid (((((Below.refl N w).alloc HN.out (.cells #[.int .i64 2, .string name, .int .i64 n, .int .u8 (fill.toNat : Int), .int .i64 len, .slice ao nn cap] tAct)).drew).trans (hb.mono (Nat.le_trans HN.out (Nat.le_of_lt HA.out)))).trans hb2)
    clear h2 hb2 hb q1 q2
    go_wp2
    go_ret2
    unfold DoesOut
    rw [HD.out]
    exact ⟨rfl, H2.out, HB.out⟩

/-- An act, whatever it is. -/
theorem does_any {N d m : Nat} {M : Mod} {w : World} (h : Has N d m M w) (x : ActM) (hx : ActOk N w x) :
    Calls Try.prog 12 #[ptr d, .agg x.cells] w (DoesOut N d m M x w) := by
  by_cases k1 : x.kind = 1
  · exact does_read h x hx k1
  by_cases k2 : x.kind = 2
  · exact does_write h x hx k2
  by_cases k3 : x.kind = 3
  · exact does_sync h x hx k3
  by_cases k4 : x.kind = 4
  · exact does_cut h x hx k4
  by_cases k5 : x.kind = 5
  · exact does_drop h x hx k5
  by_cases k6 : x.kind = 6
  · exact does_room h x hx k6
  by_cases k7 : x.kind = 7
  · exact does_arm h x hx k7
  by_cases k8 : x.kind = 8
  · exact does_off h x hx k8
  by_cases k9 : x.kind = 9
  · exact does_on h x hx k9
  by_cases k10 : x.kind = 10
  · exact does_load h x hx k10
  exact does_none h x hx fun j h1 h2 e => by
    have : j = 1 ∨ j = 2 ∨ j = 3 ∨ j = 4 ∨ j = 5 ∨ j = 6 ∨ j = 7 ∨ j = 8 ∨ j = 9 ∨ j = 10 := by omega
    rcases this with rfl | rfl | rfl | rfl | rfl | rfl | rfl | rfl | rfl | rfl <;> contradiction

end Disk
end Go.Proofs.Ytiomojidfkpagaa
