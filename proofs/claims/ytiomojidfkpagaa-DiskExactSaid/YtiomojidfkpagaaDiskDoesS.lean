/-
  An act, whatever it is, on a disk beside other memory.
-/
import Derived.Test.YtiomojidfkpagaaGrpDskE
namespace Go.Proofs.Ytiomojidfkpagaa
open Go.RowKit
namespace Disk
open Num (hid bcells)

def DoesOutS (O : Nat → Prop) (d m : Nat) (M : Mod) (x : ActM) (w : World) (e : Ending) (w' : World) : Prop :=
  e = .returned (.tuple #[.string ⟨(M.does x).1.toArray⟩, .int .i64 (M.does x).2.1]) ∧ Sees O d m (M.does x).2.2 w' ∧ Stays O w w'
/-- What an act that came in is. -/
structure ActOkS (O : Nat → Prop) (w : World) (x : ActM) : Prop where
  name : x.name.size ≤ maxLen
  n : x.n ≤ 9223372036854775807
  len : x.len ≤ 9223372036854775807
  ints : IntsAt w x.fv x.fates
  few : x.fates.length ≤ maxLen
  old : ∀ b o n cap, x.fv = .slice (some ⟨b, o, none⟩) n cap → n ≠ 0 → O b
theorem ActM.shapeS {O : Nat → Prop} {w : World} {x : ActM} (h : ActOkS O w x) : ∃ ao nn cap, x.fv = .slice ao nn cap := by
  rcases h.ints with ⟨ao, cap, hv, _⟩ | ⟨b, o, cap, hv, _⟩
  · exact ⟨ao, _, cap, hv⟩
  · exact ⟨_, _, cap, hv⟩
set_option maxRecDepth 100000 in
set_option maxHeartbeats 2000000 in
theorem doesS_read {O : Nat → Prop} {d m : Nat} {M : Mod} {w : World} (h : Sees O d m M w) (x : ActM) (hx : ActOkS O w x) (hk : x.kind = 1) :
    Calls Try.prog 12 #[ptr d, .agg x.cells] w (DoesOutS O d m M x w) := by
  obtain ⟨ao, nn, cap, hfv⟩ := ActM.shapeS hx
  have H1 := hid ((h.kept ((Below.refl _ w).alloc (Nat.le_refl _) (.cells x.cells tAct))))
  have hd : M.does x = M.read x.name.data.toList x.n := by unfold Mod.does; rw [hk]; rfl
  have HD := hid hd
  have hnm := hx.name
  have hn := hx.n
  clear hd h hx
  obtain ⟨kind, name, n, fill, len, fv, fates⟩ := x
  simp only at hk hfv hnm hn
  subst hk
  subst hfv
  unfold ActM.cells at H1 ⊢
  simp only at H1 ⊢
  go_enter Try.func12, Try.ntmps12
  go_wp2_with fail
  refine (read_sees H1.out name hnm n hn).mono ?_
  rintro e w2 ⟨rfl, h2, hb2⟩
  have H2 := hid h2
  have HB := hid hb2
  clear h2 hb2
  go_wp2
  go_ret2
  unfold DoesOutS
  rw [HD.out]
  exact ⟨rfl, H2.out, ((Chg.refl _ w).alloc _).trans HB.out⟩

set_option maxRecDepth 100000 in
set_option maxHeartbeats 2000000 in
theorem doesS_sync {O : Nat → Prop} {d m : Nat} {M : Mod} {w : World} (h : Sees O d m M w) (x : ActM) (hx : ActOkS O w x) (hk : x.kind = 3) :
    Calls Try.prog 12 #[ptr d, .agg x.cells] w (DoesOutS O d m M x w) := by
  obtain ⟨ao, nn, cap, hfv⟩ := ActM.shapeS hx
  have H1 := hid ((h.kept ((Below.refl _ w).alloc (Nat.le_refl _) (.cells x.cells tAct))))
  have hd : M.does x = ([], (M.sync x.name.data.toList).1, (M.sync x.name.data.toList).2) := by unfold Mod.does; rw [hk]; rfl
  have HD := hid hd
  have hnm := hx.name
  clear hd h hx
  obtain ⟨kind, name, n, fill, len, fv, fates⟩ := x
  simp only at hk hfv hnm
  subst hk
  subst hfv
  unfold ActM.cells at H1 ⊢
  simp only at H1 ⊢
  go_enter Try.func12, Try.ntmps12
  go_wp2_with fail
  refine (sync_sees H1.out name hnm).mono ?_
  rintro e w2 ⟨rfl, h2, hb2⟩
  have H2 := hid h2
  have HB := hid hb2
  clear h2 hb2
  go_wp2
  go_ret2
  unfold DoesOutS
  rw [HD.out]
  exact ⟨rfl, H2.out, ((Chg.refl _ w).alloc _).trans HB.out⟩

set_option maxRecDepth 100000 in
set_option maxHeartbeats 2000000 in
theorem doesS_cut {O : Nat → Prop} {d m : Nat} {M : Mod} {w : World} (h : Sees O d m M w) (x : ActM) (hx : ActOkS O w x) (hk : x.kind = 4) :
    Calls Try.prog 12 #[ptr d, .agg x.cells] w (DoesOutS O d m M x w) := by
  obtain ⟨ao, nn, cap, hfv⟩ := ActM.shapeS hx
  have H1 := hid ((h.kept ((Below.refl _ w).alloc (Nat.le_refl _) (.cells x.cells tAct))))
  have hd : M.does x = ([], (M.cut x.name.data.toList x.n).1, (M.cut x.name.data.toList x.n).2) := by unfold Mod.does; rw [hk]; rfl
  have HD := hid hd
  have hnm := hx.name
  clear hd h hx
  obtain ⟨kind, name, n, fill, len, fv, fates⟩ := x
  simp only at hk hfv hnm
  subst hk
  subst hfv
  unfold ActM.cells at H1 ⊢
  simp only at H1 ⊢
  go_enter Try.func12, Try.ntmps12
  go_wp2_with fail
  refine (cut_sees H1.out name hnm n).mono ?_
  rintro e w2 ⟨rfl, h2, hb2⟩
  have H2 := hid h2
  have HB := hid hb2
  clear h2 hb2
  go_wp2
  go_ret2
  unfold DoesOutS
  rw [HD.out]
  exact ⟨rfl, H2.out, ((Chg.refl _ w).alloc _).trans HB.out⟩

set_option maxRecDepth 100000 in
set_option maxHeartbeats 2000000 in
theorem doesS_drop {O : Nat → Prop} {d m : Nat} {M : Mod} {w : World} (h : Sees O d m M w) (x : ActM) (hx : ActOkS O w x) (hk : x.kind = 5) :
    Calls Try.prog 12 #[ptr d, .agg x.cells] w (DoesOutS O d m M x w) := by
  obtain ⟨ao, nn, cap, hfv⟩ := ActM.shapeS hx
  have H1 := hid ((h.kept ((Below.refl _ w).alloc (Nat.le_refl _) (.cells x.cells tAct))))
  have hd : M.does x = ([], (M.drop x.name.data.toList).1, (M.drop x.name.data.toList).2) := by unfold Mod.does; rw [hk]; rfl
  have HD := hid hd
  have hnm := hx.name
  clear hd h hx
  obtain ⟨kind, name, n, fill, len, fv, fates⟩ := x
  simp only at hk hfv hnm
  subst hk
  subst hfv
  unfold ActM.cells at H1 ⊢
  simp only at H1 ⊢
  go_enter Try.func12, Try.ntmps12
  go_wp2_with fail
  refine (drop_sees H1.out name hnm).mono ?_
  rintro e w2 ⟨rfl, h2, hb2⟩
  have H2 := hid h2
  have HB := hid hb2
  clear h2 hb2
  go_wp2
  go_ret2
  unfold DoesOutS
  rw [HD.out]
  exact ⟨rfl, H2.out, ((Chg.refl _ w).alloc _).trans HB.out⟩

set_option maxRecDepth 100000 in
set_option maxHeartbeats 2000000 in
theorem doesS_room {O : Nat → Prop} {d m : Nat} {M : Mod} {w : World} (h : Sees O d m M w) (x : ActM) (hx : ActOkS O w x) (hk : x.kind = 6) :
    Calls Try.prog 12 #[ptr d, .agg x.cells] w (DoesOutS O d m M x w) := by
  obtain ⟨ao, nn, cap, hfv⟩ := ActM.shapeS hx
  have H1 := hid ((h.kept ((Below.refl _ w).alloc (Nat.le_refl _) (.cells x.cells tAct))))
  have hd : M.does x = ([], 0, M.room x.n) := by unfold Mod.does; rw [hk]; rfl
  have HD := hid hd
  have hnm := hx.name
  clear hd h hx
  obtain ⟨kind, name, n, fill, len, fv, fates⟩ := x
  simp only at hk hfv hnm
  subst hk
  subst hfv
  unfold ActM.cells at H1 ⊢
  simp only at H1 ⊢
  go_enter Try.func12, Try.ntmps12
  go_wp2_with fail
  refine (room_sees H1.out n).mono ?_
  rintro e w2 ⟨rfl, h2, hb2⟩
  have H2 := hid h2
  have HB := hid hb2
  clear h2 hb2
  go_wp2
  go_ret2
  unfold DoesOutS
  rw [HD.out]
  exact ⟨rfl, H2.out, ((Chg.refl _ w).alloc _).trans HB.out⟩

set_option maxRecDepth 100000 in
set_option maxHeartbeats 2000000 in
theorem doesS_arm {O : Nat → Prop} {d m : Nat} {M : Mod} {w : World} (h : Sees O d m M w) (x : ActM) (hx : ActOkS O w x) (hk : x.kind = 7) :
    Calls Try.prog 12 #[ptr d, .agg x.cells] w (DoesOutS O d m M x w) := by
  obtain ⟨ao, nn, cap, hfv⟩ := ActM.shapeS hx
  have H1 := hid ((h.kept ((Below.refl _ w).alloc (Nat.le_refl _) (.cells x.cells tAct))))
  have hd : M.does x = ([], 0, M.arm x.n (x.fill.toNat : Int) x.len) := by unfold Mod.does; rw [hk]; rfl
  have HD := hid hd
  have hn := hx.n
  have hlen := hx.len
  have hfl : (x.fill.toNat : Int) ≤ 255 := by have := x.fill.toNat_lt; omega
  clear hd h hx
  obtain ⟨kind, name, n, fill, len, fv, fates⟩ := x
  simp only at hk hfv hn hlen hfl
  subst hk
  subst hfv
  unfold ActM.cells at H1 ⊢
  simp only at H1 ⊢
  go_enter Try.func12, Try.ntmps12
  go_wp2_with fail
  refine (arm_sees H1.out n (fill.toNat : Int) len hn hlen).mono ?_
  rintro e w2 ⟨rfl, h2, hb2⟩
  have H2 := hid h2
  have HB := hid hb2
  clear h2 hb2
  go_wp2
  go_ret2
  unfold DoesOutS
  rw [HD.out]
  exact ⟨rfl, H2.out, ((Chg.refl _ w).alloc _).trans HB.out⟩

set_option maxRecDepth 100000 in
set_option maxHeartbeats 2000000 in
theorem doesS_off {O : Nat → Prop} {d m : Nat} {M : Mod} {w : World} (h : Sees O d m M w) (x : ActM) (hx : ActOkS O w x) (hk : x.kind = 8) :
    Calls Try.prog 12 #[ptr d, .agg x.cells] w (DoesOutS O d m M x w) := by
  obtain ⟨ao, nn, cap, hfv⟩ := ActM.shapeS hx
  have H1 := hid ((h.kept ((Below.refl _ w).alloc (Nat.le_refl _) (.cells x.cells tAct))))
  have hd : M.does x = ([], 0, M.off) := by unfold Mod.does; rw [hk]; rfl
  have HD := hid hd
  clear hd h hx
  obtain ⟨kind, name, n, fill, len, fv, fates⟩ := x
  simp only at hk hfv
  subst hk
  subst hfv
  unfold ActM.cells at H1 ⊢
  simp only at H1 ⊢
  go_enter Try.func12, Try.ntmps12
  go_wp2_with fail
  refine (off_sees H1.out).mono ?_
  rintro e w2 ⟨rfl, h2, hb2⟩
  have H2 := hid h2
  have HB := hid hb2
  clear h2 hb2
  go_wp2
  go_ret2
  unfold DoesOutS
  rw [HD.out]
  exact ⟨rfl, H2.out, ((Chg.refl _ w).alloc _).trans HB.out⟩

set_option maxRecDepth 100000 in
set_option maxHeartbeats 2000000 in
theorem doesS_on {O : Nat → Prop} {d m : Nat} {M : Mod} {w : World} (h : Sees O d m M w) (x : ActM) (hx : ActOkS O w x) (hk : x.kind = 9) :
    Calls Try.prog 12 #[ptr d, .agg x.cells] w (DoesOutS O d m M x w) := by
  obtain ⟨ao, nn, cap, hfv⟩ := ActM.shapeS hx
  have H1 := hid ((h.kept ((Below.refl _ w).alloc (Nat.le_refl _) (.cells x.cells tAct))))
  have hd : M.does x = ([], 0, M.on x.fates) := by unfold Mod.does; rw [hk]; rfl
  have HD := hid hd
  have hfew := hx.few
  have hold := hx.old
  have HI := hid (hx.ints.kept (F := fun _ => False) (Chg.of_below ((Below.refl _ w).alloc (Nat.le_refl _) (.cells x.cells tAct))) (fun _ _ _ _ _ _ h => h))
  clear hd h hx
  obtain ⟨kind, name, n, fill, len, fv, fates⟩ := x
  simp only at hk hfv hfew hold
  subst hk
  subst hfv
  unfold ActM.cells at H1 HI ⊢
  simp only at H1 HI ⊢
  go_enter Try.func12, Try.ntmps12
  go_wp2_with fail
  refine (on_sees H1.out _ fates HI.out hfew hold).mono ?_
  rintro e w2 ⟨rfl, h2, hb2⟩
  have H2 := hid h2
  have HB := hid hb2
  clear h2 hb2
  go_wp2
  go_ret2
  unfold DoesOutS
  rw [HD.out]
  exact ⟨rfl, H2.out, ((Chg.refl _ w).alloc _).trans HB.out⟩

set_option maxRecDepth 100000 in
set_option maxHeartbeats 2000000 in
theorem doesS_none {O : Nat → Prop} {d m : Nat} {M : Mod} {w : World} (h : Sees O d m M w) (x : ActM) (hx : ActOkS O w x) (hk : ∀ j : Int, 1 ≤ j → j ≤ 10 → x.kind ≠ j) :
    Calls Try.prog 12 #[ptr d, .agg x.cells] w (DoesOutS O d m M x w) := by
  obtain ⟨ao, nn, cap, hfv⟩ := ActM.shapeS hx
  have H1 := hid ((h.kept ((Below.refl _ w).alloc (Nat.le_refl _) (.cells x.cells tAct))))
  have hd : M.does x = ([], 0, M) := by
    unfold Mod.does
    rw [if_neg (hk 1 (by omega) (by omega)), if_neg (hk 2 (by omega) (by omega)), if_neg (hk 3 (by omega) (by omega)), if_neg (hk 4 (by omega) (by omega)), if_neg (hk 5 (by omega) (by omega)), if_neg (hk 6 (by omega) (by omega)), if_neg (hk 7 (by omega) (by omega)), if_neg (hk 8 (by omega) (by omega)), if_neg (hk 9 (by omega) (by omega)), if_neg (hk 10 (by omega) (by omega))]
  have HD := hid hd
  have b : ∀ j : Int, 1 ≤ j → j ≤ 10 → (x.kind == j) = false := fun j h1 h2 => by simpa using hk j h1 h2
  have b1 := b 1 (by omega) (by omega)
  have b2 := b 2 (by omega) (by omega)
  have b3 := b 3 (by omega) (by omega)
  have b4 := b 4 (by omega) (by omega)
  have b5 := b 5 (by omega) (by omega)
  have b6 := b 6 (by omega) (by omega)
  have b7 := b 7 (by omega) (by omega)
  have b8 := b 8 (by omega) (by omega)
  have b9 := b 9 (by omega) (by omega)
  have b10 := b 10 (by omega) (by omega)
  clear hd h hx hk b
  obtain ⟨kind, name, n, fill, len, fv, fates⟩ := x
  simp only at hfv b1 b2 b3 b4 b5 b6 b7 b8 b9 b10
  subst hfv
  unfold ActM.cells at H1 ⊢
  simp only at H1 ⊢
  go_enter Try.func12, Try.ntmps12
  go_wp2
  go_ret2
  unfold DoesOutS
  rw [HD.out]
  exact ⟨rfl, H1.out, ((Chg.refl _ w).alloc _)⟩

set_option maxRecDepth 100000 in
set_option maxHeartbeats 4000000 in
theorem doesS_load {O : Nat → Prop} {d m : Nat} {M : Mod} {w : World} (h : Sees O d m M w) (x : ActM) (hx : ActOkS O w x) (hk : x.kind = 10) :
    Calls Try.prog 12 #[ptr d, .agg x.cells] w (DoesOutS O d m M x w) := by
  obtain ⟨ao, nn, cap, hfv⟩ := ActM.shapeS hx
  have HW := hid h
  have H1 := hid ((h.kept ((Below.refl _ w).alloc (Nat.le_refl _) (.cells x.cells tAct))))
  have hd : M.does x = ([], (M.load x.name.data.toList x.data).1, (M.load x.name.data.toList x.data).2) := by unfold Mod.does; rw [hk]; rfl
  have HD := hid hd
  have hnm := hx.name
  have hds := ActM.data_size x
  have HDS := hid hds
  have a1 := blk_cell (blk_new w (.cells x.cells tAct)) 1
  have hA : w.heap.size < (w.alloc (.cells x.cells tAct)).heap.size := by simp
  have HA := hid hA
  clear hd h hx hA hds
  obtain ⟨kind, name, n, fill, len, fv, fates⟩ := x
  simp only at hk hfv hnm
  subst hk
  subst hfv
  unfold ActM.cells at H1 HA a1 ⊢
  simp only at H1 HA a1 ⊢
  have A1 : Hid ((w.alloc (.cells #[.int .i64 10, .string name, .int .i64 n, .int .u8 (fill.toNat : Int), .int .i64 len, .slice ao nn cap] tAct)).cell? ⟨w.heap.size, 1, none⟩ = some (.string name)) := hid a1
  clear a1
  go_enter Try.func12, Try.ntmps12
  go_wp2
  go_region_with (first
    | (go_at_call 50; refine (data_any 10 n len name fill ao nn cap fates _).mono ?_; rintro e w1 ⟨rfl, hb⟩; have q1 := (hb.cell (p := ⟨w.heap.size, 1, none⟩) HA.out).trans A1.out)
    | (go_at_call 53; refine (load_sees ((H1.out.kept ((Below.refl _ _).drew)).kept hb) name hnm _ HDS.out).mono ?_; rintro e w2 ⟨rfl, h2, hb2⟩))
  all_goals
    have H2 := hid h2
    have HB : Hid (Stays O w w2) := hid ((((Chg.refl _ w).alloc _).drew).trans (Chg.trans (Chg.of_below hb) hb2))
    clear h2 hb2 hb q1
    go_wp2
    go_ret2
    unfold DoesOutS
    rw [HD.out]
    exact ⟨rfl, H2.out, HB.out⟩

set_option maxRecDepth 100000 in
set_option maxHeartbeats 4000000 in
theorem doesS_write {O : Nat → Prop} {d m : Nat} {M : Mod} {w : World} (h : Sees O d m M w) (x : ActM) (hx : ActOkS O w x) (hk : x.kind = 2) :
    Calls Try.prog 12 #[ptr d, .agg x.cells] w (DoesOutS O d m M x w) := by
  obtain ⟨ao, nn, cap, hfv⟩ := ActM.shapeS hx
  have HW := hid h
  have H1 := hid ((h.kept ((Below.refl _ w).alloc (Nat.le_refl _) (.cells x.cells tAct))))
  have hd : M.does x = ([], (M.write x.name.data.toList x.n x.data).1, (M.write x.name.data.toList x.n x.data).2) := by unfold Mod.does; rw [hk]; rfl
  have HD := hid hd
  have hnm := hx.name
  have hds := ActM.data_size x
  have HDS := hid hds
  have a1 := blk_cell (blk_new w (.cells x.cells tAct)) 1
  have a2 := blk_cell (blk_new w (.cells x.cells tAct)) 2
  have hA : w.heap.size < (w.alloc (.cells x.cells tAct)).heap.size := by simp
  have HA := hid hA
  clear hd h hx hA hds
  obtain ⟨kind, name, n, fill, len, fv, fates⟩ := x
  simp only at hk hfv hnm
  subst hk
  subst hfv
  unfold ActM.cells at H1 HA a1 a2 ⊢
  simp only at H1 HA a1 a2 ⊢
  have A1 : Hid ((w.alloc (.cells #[.int .i64 2, .string name, .int .i64 n, .int .u8 (fill.toNat : Int), .int .i64 len, .slice ao nn cap] tAct)).cell? ⟨w.heap.size, 1, none⟩ = some (.string name)) := hid a1
  have A2 : Hid ((w.alloc (.cells #[.int .i64 2, .string name, .int .i64 n, .int .u8 (fill.toNat : Int), .int .i64 len, .slice ao nn cap] tAct)).cell? ⟨w.heap.size, 2, none⟩ = some (.int .i64 n)) := hid a2
  clear a1 a2
  go_enter Try.func12, Try.ntmps12
  go_wp2
  go_region_with (first
    | (go_at_call 50; refine (data_any 2 n len name fill ao nn cap fates _).mono ?_; rintro e w1 ⟨rfl, hb⟩; have q1 := (hb.cell (p := ⟨w.heap.size, 1, none⟩) HA.out).trans A1.out; have q2 := (hb.cell (p := ⟨w.heap.size, 2, none⟩) HA.out).trans A2.out)
    | (go_at_call 41; refine (write_sees ((H1.out.kept ((Below.refl _ _).drew)).kept hb) name hnm n _ HDS.out).mono ?_; rintro e w2 ⟨rfl, h2, hb2⟩))
  all_goals
    have H2 := hid h2
    have HB : Hid (Stays O w w2) := hid ((((Chg.refl _ w).alloc _).drew).trans (Chg.trans (Chg.of_below hb) hb2))
    clear h2 hb2 hb q1 q2
    go_wp2
    go_ret2
    unfold DoesOutS
    rw [HD.out]
    exact ⟨rfl, H2.out, HB.out⟩

/-- An act, whatever it is. -/
theorem doesS_any {O : Nat → Prop} {d m : Nat} {M : Mod} {w : World} (h : Sees O d m M w) (x : ActM) (hx : ActOkS O w x) :
    Calls Try.prog 12 #[ptr d, .agg x.cells] w (DoesOutS O d m M x w) := by
  by_cases k1 : x.kind = 1
  · exact doesS_read h x hx k1
  by_cases k2 : x.kind = 2
  · exact doesS_write h x hx k2
  by_cases k3 : x.kind = 3
  · exact doesS_sync h x hx k3
  by_cases k4 : x.kind = 4
  · exact doesS_cut h x hx k4
  by_cases k5 : x.kind = 5
  · exact doesS_drop h x hx k5
  by_cases k6 : x.kind = 6
  · exact doesS_room h x hx k6
  by_cases k7 : x.kind = 7
  · exact doesS_arm h x hx k7
  by_cases k8 : x.kind = 8
  · exact doesS_off h x hx k8
  by_cases k9 : x.kind = 9
  · exact doesS_on h x hx k9
  by_cases k10 : x.kind = 10
  · exact doesS_load h x hx k10
  exact doesS_none h x hx fun j h1 h2 e => by
    have : j = 1 ∨ j = 2 ∨ j = 3 ∨ j = 4 ∨ j = 5 ∨ j = 6 ∨ j = 7 ∨ j = 8 ∨ j = 9 ∨ j = 10 := by omega
    rcases this with rfl | rfl | rfl | rfl | rfl | rfl | rfl | rfl | rfl | rfl <;> contradiction

end Disk
end Go.Proofs.Ytiomojidfkpagaa
