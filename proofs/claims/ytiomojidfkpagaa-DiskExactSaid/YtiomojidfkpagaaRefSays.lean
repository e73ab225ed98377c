/-
  An act, whatever it is, on the reference's disk.
-/
import Derived.Test.YtiomojidfkpagaaRefOn
import Derived.Test.YtiomojidfkpagaaRefWrite
import Derived.Test.YtiomojidfkpagaaRefLoad
import Derived.Test.YtiomojidfkpagaaGrpRefJ
namespace Go.Proofs.Ytiomojidfkpagaa
open Go.RowKit
namespace Ref
open Disk
open Num (hid bcells)

/-- The reference's disk at r is M, which is good; what is made from now on is its own. -/
def RSees (R : Nat → Prop) (r : Nat) (M : Mod) (w : World) : Prop := Refs R r M w ∧ Good M ∧ ∀ b, w.heap.size ≤ b → R b
def SaysOut (R : Nat → Prop) (r : Nat) (M : Mod) (x : ActM) (w : World) (e : Ending) (w' : World) : Prop :=
  e = .returned (.tuple #[.string ⟨(M.does x).1.toArray⟩, .int .i64 (M.does x).2.1]) ∧ Refs R r (M.does x).2.2 w' ∧ Chg R w w'
section
variable {R : Nat → Prop} {r : Nat} {M : Mod} {w w' : World}
theorem RSees.kept (h : RSees R r M w) (hb : Below w.heap.size w w') : RSees R r M w' :=
  ⟨h.1.apart (F := fun _ => False) (Chg.of_below hb) (fun _ h => h.elim), h.2.1, fun b hk => h.2.2 b (Nat.le_trans hb.size hk)⟩
theorem one_own {R : Nat → Prop} {r : Nat} {w w' : World} (hr : R r) (hc : Chg (· = r) w w') : Chg R w w' := hc.mono (fun _ _ e => by rw [e]; exact hr)
theorem few_ens {M : Mod} (hG : Good M) {E : Ens} (hE : Ens.dir E = M.fs) : E.length ≤ 100 := by
  have := hG.few
  rw [← hE, dir_len] at this
  omega
theorem read_ref (h : RSees R r M w) (s : ByteArray) (hs : s.size ≤ maxLen) (i : Int) (hi : i ≤ 9223372036854775807) :
    Calls Try.prog 54 #[ptr r, .string s, .int .i64 i] w fun e w' => e = .returned (.tuple #[.string ⟨(M.read s.data.toList i).1.toArray⟩, .int .i64 (M.read s.data.toList i).2.1]) ∧ Refs R r (M.read s.data.toList i).2.2 w' ∧ Chg R w w' := by
  obtain ⟨⟨v, E, a, k, m, D, hE⟩, hG, -⟩ := h
  have H := rread_any D hG.ok (few_ens hG hE) s hs i hi
  rw [hE] at H
  refine H.mono ?_
  rintro e w2 ⟨rfl, ⟨a', k', m', D', hc⟩, hf⟩
  exact ⟨rfl, ⟨v, E, a', k', m', D', hE.trans hf.symm⟩, one_own D.own hc⟩
theorem write_ref (h : RSees R r M w) (s : ByteArray) (hs : s.size ≤ maxLen) (i : Int) (l : ByteArray) (_hl : l.size ≤ maxLen) :
    Calls Try.prog 55 #[ptr r, .string s, .int .i64 i, .string l] w fun e w' => e = .returned (.int .i64 (M.write s.data.toList i l.data.toList).1) ∧ Refs R r (M.write s.data.toList i l.data.toList).2 w' ∧ Chg R w w' := rwrite_any h.2.1 h.1 h.2.2 s hs i l
theorem load_ref (h : RSees R r M w) (s : ByteArray) (_hs : s.size ≤ maxLen) (l : ByteArray) (_hl : l.size ≤ maxLen) :
    Calls Try.prog 63 #[ptr r, .string s, .string l] w fun e w' => e = .returned (.int .i64 (M.load s.data.toList l.data.toList).1) ∧ Refs R r (M.load s.data.toList l.data.toList).2 w' ∧ Chg R w w' := rload_any h.2.1 h.1 h.2.2 s l
theorem sync_ref (h : RSees R r M w) (s : ByteArray) (hs : s.size ≤ maxLen) :
    Calls Try.prog 56 #[ptr r, .string s] w fun e w' => e = .returned (.int .i64 (M.sync s.data.toList).1) ∧ Refs R r (M.sync s.data.toList).2 w' ∧ Chg R w w' := rsync_any h.2.1 h.1 h.2.2 s hs
theorem cut_ref (h : RSees R r M w) (s : ByteArray) (hs : s.size ≤ maxLen) (n : Int) :
    Calls Try.prog 57 #[ptr r, .string s, .int .i64 n] w fun e w' => e = .returned (.int .i64 (M.cut s.data.toList n).1) ∧ Refs R r (M.cut s.data.toList n).2 w' ∧ Chg R w w' := rcut_any h.2.1 h.1 h.2.2 s hs n
theorem drop_ref (h : RSees R r M w) (s : ByteArray) (hs : s.size ≤ maxLen) :
    Calls Try.prog 58 #[ptr r, .string s] w fun e w' => e = .returned (.int .i64 (M.drop s.data.toList).1) ∧ Refs R r (M.drop s.data.toList).2 w' ∧ Chg R w w' := rdrop_any h.2.1 h.1 h.2.2 s hs
theorem off_ref (h : RSees R r M w) :
    Calls Try.prog 61 #[ptr r] w fun e w' => e = .returned (.tuple #[]) ∧ Refs R r M.off w' ∧ Chg R w w' := by
  obtain ⟨⟨v, E, a, k, m, D, hE⟩, -, -⟩ := h
  refine (roff_any D).mono ?_
  rintro e w2 ⟨rfl, D', hc⟩
  exact ⟨rfl, ⟨v, E, _, _, _, D', hE⟩, one_own D.own hc⟩
theorem arm_ref (h : RSees R r M w) (a k n : Int) (_ha : a ≤ 9223372036854775807) (_hn : n ≤ 9223372036854775807) :
    Calls Try.prog 60 #[ptr r, .int .i64 a, .int .i64 k, .int .i64 n] w fun e w' => e = .returned (.tuple #[]) ∧ Refs R r (M.arm a k n) w' ∧ Chg R w w' := by
  obtain ⟨⟨v, E, a0, k0, m0, D, hE⟩, -, -⟩ := h
  refine (rarm_any D a k n).mono ?_
  rintro e w2 ⟨rfl, ⟨k2, D'⟩, hc⟩
  exact ⟨rfl, ⟨v, E, _, _, _, D', hE⟩, one_own D.own hc⟩
theorem room_ref (h : RSees R r M w) (n : Int) :
    Calls Try.prog 59 #[ptr r, .int .i64 n] w fun e w' => e = .returned (.tuple #[]) ∧ Refs R r (M.room n) w' ∧ Chg R w w' := by
  obtain ⟨⟨v, E, a, k, m, D, hE⟩, -, -⟩ := h
  refine (rroom_any D n).mono ?_
  rintro e w2 ⟨rfl, D', hc⟩
  exact ⟨rfl, ⟨v, E, _, _, _, D', hE⟩, one_own D.own hc⟩
theorem on_ref (h : RSees R r M w) (fv : Value) (l : List Int) (hI : IntsAt w fv l) (hl : l.length ≤ maxLen) (hv : ∀ b o n cap, fv = .slice (some ⟨b, o, none⟩) n cap → n ≠ 0 → ¬ R b) :
    Calls Try.prog 62 #[ptr r, fv] w fun e w' => e = .returned (.tuple #[]) ∧ Refs R r (M.on l) w' ∧ Chg R w w' := ron_any h.2.1 h.1 h.2.2 fv hI hl hv
end

set_option maxRecDepth 100000 in
set_option maxHeartbeats 2000000 in
theorem says_read {R : Nat → Prop} {r : Nat} {M : Mod} {w : World} (h : RSees R r M w) (x : ActM) (hx : ActOkS (fun b => ¬ R b) w x) (hk : x.kind = 1) :
    Calls Try.prog 13 #[ptr r, .agg x.cells] w (SaysOut R r M x w) := by
  obtain ⟨ao, nn, cap, hfv⟩ := ActM.shapeS hx
  have H1 := hid ((h.kept ((Below.refl _ w).alloc (Nat.le_refl _) (.cells x.cells tAct))))
  have hd : M.does x = M.read x.name.data.toList x.n := by unfold Mod.does; rw [hk]; rfl
  have HD := hid hd
  have hnm := hx.name
  have hn := hx.n
  clear hd h hx
  obtain ⟨kind, name, n, fill, len, fv, fates⟩ := x
  simp only at hk hfv hnm hn
  subst hk
  subst hfv
  unfold ActM.cells at H1 ⊢
  simp only at H1 ⊢
  go_enter Try.func13, Try.ntmps13
  go_wp2_with fail
  refine (read_ref H1.out name hnm n hn).mono ?_
  rintro e w2 ⟨rfl, h2, hb2⟩
  have H2 := hid h2
  have HB := hid hb2
  clear h2 hb2
  go_wp2
  go_ret2
  unfold SaysOut
  rw [HD.out]
  exact ⟨rfl, H2.out, ((Chg.refl _ w).alloc _).trans HB.out⟩

set_option maxRecDepth 100000 in
set_option maxHeartbeats 2000000 in
theorem says_sync {R : Nat → Prop} {r : Nat} {M : Mod} {w : World} (h : RSees R r M w) (x : ActM) (hx : ActOkS (fun b => ¬ R b) w x) (hk : x.kind = 3) :
    Calls Try.prog 13 #[ptr r, .agg x.cells] w (SaysOut R r M x w) := by
  obtain ⟨ao, nn, cap, hfv⟩ := ActM.shapeS hx
  have H1 := hid ((h.kept ((Below.refl _ w).alloc (Nat.le_refl _) (.cells x.cells tAct))))
  have hd : M.does x = ([], (M.sync x.name.data.toList).1, (M.sync x.name.data.toList).2) := by unfold Mod.does; rw [hk]; rfl
  have HD := hid hd
  have hnm := hx.name
  clear hd h hx
  obtain ⟨kind, name, n, fill, len, fv, fates⟩ := x
  simp only at hk hfv hnm
  subst hk
  subst hfv
  unfold ActM.cells at H1 ⊢
  simp only at H1 ⊢
  go_enter Try.func13, Try.ntmps13
  go_wp2_with fail
  refine (sync_ref H1.out name hnm).mono ?_
  rintro e w2 ⟨rfl, h2, hb2⟩
  have H2 := hid h2
  have HB := hid hb2
  clear h2 hb2
  go_wp2
  go_ret2
  unfold SaysOut
  rw [HD.out]
  exact ⟨rfl, H2.out, ((Chg.refl _ w).alloc _).trans HB.out⟩

set_option maxRecDepth 100000 in
set_option maxHeartbeats 2000000 in
theorem says_cut {R : Nat → Prop} {r : Nat} {M : Mod} {w : World} (h : RSees R r M w) (x : ActM) (hx : ActOkS (fun b => ¬ R b) w x) (hk : x.kind = 4) :
    Calls Try.prog 13 #[ptr r, .agg x.cells] w (SaysOut R r M x w) := by
  obtain ⟨ao, nn, cap, hfv⟩ := ActM.shapeS hx
  have H1 := hid ((h.kept ((Below.refl _ w).alloc (Nat.le_refl _) (.cells x.cells tAct))))
  have hd : M.does x = ([], (M.cut x.name.data.toList x.n).1, (M.cut x.name.data.toList x.n).2) := by unfold Mod.does; rw [hk]; rfl
  have HD := hid hd
  have hnm := hx.name
  clear hd h hx
  obtain ⟨kind, name, n, fill, len, fv, fates⟩ := x
  simp only at hk hfv hnm
  subst hk
  subst hfv
  unfold ActM.cells at H1 ⊢
  simp only at H1 ⊢
  go_enter Try.func13, Try.ntmps13
  go_wp2_with fail
  refine (cut_ref H1.out name hnm n).mono ?_
  rintro e w2 ⟨rfl, h2, hb2⟩
  have H2 := hid h2
  have HB := hid hb2
  clear h2 hb2
  go_wp2
  go_ret2
  unfold SaysOut
  rw [HD.out]
  exact ⟨rfl, H2.out, ((Chg.refl _ w).alloc _).trans HB.out⟩

set_option maxRecDepth 100000 in
set_option maxHeartbeats 2000000 in
theorem says_drop {R : Nat → Prop} {r : Nat} {M : Mod} {w : World} (h : RSees R r M w) (x : ActM) (hx : ActOkS (fun b => ¬ R b) w x) (hk : x.kind = 5) :
    Calls Try.prog 13 #[ptr r, .agg x.cells] w (SaysOut R r M x w) := by
  obtain ⟨ao, nn, cap, hfv⟩ := ActM.shapeS hx
  have H1 := hid ((h.kept ((Below.refl _ w).alloc (Nat.le_refl _) (.cells x.cells tAct))))
  have hd : M.does x = ([], (M.drop x.name.data.toList).1, (M.drop x.name.data.toList).2) := by unfold Mod.does; rw [hk]; rfl
  have HD := hid hd
  have hnm := hx.name
  clear hd h hx
  obtain ⟨kind, name, n, fill, len, fv, fates⟩ := x
  simp only at hk hfv hnm
  subst hk
  subst hfv
  unfold ActM.cells at H1 ⊢
  simp only at H1 ⊢
  go_enter Try.func13, Try.ntmps13
  go_wp2_with fail
  refine (drop_ref H1.out name hnm).mono ?_
  rintro e w2 ⟨rfl, h2, hb2⟩
  have H2 := hid h2
  have HB := hid hb2
  clear h2 hb2
  go_wp2
  go_ret2
  unfold SaysOut
  rw [HD.out]
  exact ⟨rfl, H2.out, ((Chg.refl _ w).alloc _).trans HB.out⟩

set_option maxRecDepth 100000 in
set_option maxHeartbeats 2000000 in
theorem says_room {R : Nat → Prop} {r : Nat} {M : Mod} {w : World} (h : RSees R r M w) (x : ActM) (hx : ActOkS (fun b => ¬ R b) w x) (hk : x.kind = 6) :
    Calls Try.prog 13 #[ptr r, .agg x.cells] w (SaysOut R r M x w) := by
  obtain ⟨ao, nn, cap, hfv⟩ := ActM.shapeS hx
  have H1 := hid ((h.kept ((Below.refl _ w).alloc (Nat.le_refl _) (.cells x.cells tAct))))
  have hd : M.does x = ([], 0, M.room x.n) := by unfold Mod.does; rw [hk]; rfl
  have HD := hid hd
  have hnm := hx.name
  clear hd h hx
  obtain ⟨kind, name, n, fill, len, fv, fates⟩ := x
  simp only at hk hfv hnm
  subst hk
  subst hfv
  unfold ActM.cells at H1 ⊢
  simp only at H1 ⊢
  go_enter Try.func13, Try.ntmps13
  go_wp2_with fail
  refine (room_ref H1.out n).mono ?_
  rintro e w2 ⟨rfl, h2, hb2⟩
  have H2 := hid h2
  have HB := hid hb2
  clear h2 hb2
  go_wp2
  go_ret2
  unfold SaysOut
  rw [HD.out]
  exact ⟨rfl, H2.out, ((Chg.refl _ w).alloc _).trans HB.out⟩

set_option maxRecDepth 100000 in
set_option maxHeartbeats 2000000 in
theorem says_arm {R : Nat → Prop} {r : Nat} {M : Mod} {w : World} (h : RSees R r M w) (x : ActM) (hx : ActOkS (fun b => ¬ R b) w x) (hk : x.kind = 7) :
    Calls Try.prog 13 #[ptr r, .agg x.cells] w (SaysOut R r M x w) := by
  obtain ⟨ao, nn, cap, hfv⟩ := ActM.shapeS hx
  have H1 := hid ((h.kept ((Below.refl _ w).alloc (Nat.le_refl _) (.cells x.cells tAct))))
  have hd : M.does x = ([], 0, M.arm x.n (x.fill.toNat : Int) x.len) := by unfold Mod.does; rw [hk]; rfl
  have HD := hid hd
  have hn := hx.n
  have hlen := hx.len
  have hfl : (x.fill.toNat : Int) ≤ 255 := by have := x.fill.toNat_lt; omega
  clear hd h hx
  obtain ⟨kind, name, n, fill, len, fv, fates⟩ := x
  simp only at hk hfv hn hlen hfl
  subst hk
  subst hfv
  unfold ActM.cells at H1 ⊢
  simp only at H1 ⊢
  go_enter Try.func13, Try.ntmps13
  go_wp2_with fail
  refine (arm_ref H1.out n (fill.toNat : Int) len hn hlen).mono ?_
  rintro e w2 ⟨rfl, h2, hb2⟩
  have H2 := hid h2
  have HB := hid hb2
  clear h2 hb2
  go_wp2
  go_ret2
  unfold SaysOut
  rw [HD.out]
  exact ⟨rfl, H2.out, ((Chg.refl _ w).alloc _).trans HB.out⟩

set_option maxRecDepth 100000 in
set_option maxHeartbeats 2000000 in
theorem says_off {R : Nat → Prop} {r : Nat} {M : Mod} {w : World} (h : RSees R r M w) (x : ActM) (hx : ActOkS (fun b => ¬ R b) w x) (hk : x.kind = 8) :
    Calls Try.prog 13 #[ptr r, .agg x.cells] w (SaysOut R r M x w) := by
  obtain ⟨ao, nn, cap, hfv⟩ := ActM.shapeS hx
  have H1 := hid ((h.kept ((Below.refl _ w).alloc (Nat.le_refl _) (.cells x.cells tAct))))
  have hd : M.does x = ([], 0, M.off) := by unfold Mod.does; rw [hk]; rfl
  have HD := hid hd
  clear hd h hx
  obtain ⟨kind, name, n, fill, len, fv, fates⟩ := x
  simp only at hk hfv
  subst hk
  subst hfv
  unfold ActM.cells at H1 ⊢
  simp only at H1 ⊢
  go_enter Try.func13, Try.ntmps13
  go_wp2_with fail
  refine (off_ref H1.out).mono ?_
  rintro e w2 ⟨rfl, h2, hb2⟩
  have H2 := hid h2
  have HB := hid hb2
  clear h2 hb2
  go_wp2
  go_ret2
  unfold SaysOut
  rw [HD.out]
  exact ⟨rfl, H2.out, ((Chg.refl _ w).alloc _).trans HB.out⟩

set_option maxRecDepth 100000 in
set_option maxHeartbeats 2000000 in
theorem says_on {R : Nat → Prop} {r : Nat} {M : Mod} {w : World} (h : RSees R r M w) (x : ActM) (hx : ActOkS (fun b => ¬ R b) w x) (hk : x.kind = 9) :
    Calls Try.prog 13 #[ptr r, .agg x.cells] w (SaysOut R r M x w) := by
  obtain ⟨ao, nn, cap, hfv⟩ := ActM.shapeS hx
  have H1 := hid ((h.kept ((Below.refl _ w).alloc (Nat.le_refl _) (.cells x.cells tAct))))
  have hd : M.does x = ([], 0, M.on x.fates) := by unfold Mod.does; rw [hk]; rfl
  have HD := hid hd
  have hfew := hx.few
  have hold := hx.old
  have HI := hid (hx.ints.kept (F := fun _ => False) (Chg.of_below ((Below.refl _ w).alloc (Nat.le_refl _) (.cells x.cells tAct))) (fun _ _ _ _ _ _ h => h))
  clear hd h hx
  obtain ⟨kind, name, n, fill, len, fv, fates⟩ := x
  simp only at hk hfv hfew hold
  subst hk
  subst hfv
  unfold ActM.cells at H1 HI ⊢
  simp only at H1 HI ⊢
  go_enter Try.func13, Try.ntmps13
  go_wp2_with fail
  refine (on_ref H1.out _ fates HI.out hfew hold).mono ?_
  rintro e w2 ⟨rfl, h2, hb2⟩
  have H2 := hid h2
  have HB := hid hb2
  clear h2 hb2
  go_wp2
  go_ret2
  unfold SaysOut
  rw [HD.out]
  exact ⟨rfl, H2.out, ((Chg.refl _ w).alloc _).trans HB.out⟩

set_option maxRecDepth 100000 in
set_option maxHeartbeats 2000000 in
theorem says_none {R : Nat → Prop} {r : Nat} {M : Mod} {w : World} (h : RSees R r M w) (x : ActM) (hx : ActOkS (fun b => ¬ R b) w x) (hk : ∀ j : Int, 1 ≤ j → j ≤ 10 → x.kind ≠ j) :
    Calls Try.prog 13 #[ptr r, .agg x.cells] w (SaysOut R r M x w) := by
  obtain ⟨ao, nn, cap, hfv⟩ := ActM.shapeS hx
  have H1 := hid ((h.kept ((Below.refl _ w).alloc (Nat.le_refl _) (.cells x.cells tAct))))
  have hd : M.does x = ([], 0, M) := by
    unfold Mod.does
    rw [if_neg (hk 1 (by omega) (by omega)), if_neg (hk 2 (by omega) (by omega)), if_neg (hk 3 (by omega) (by omega)), if_neg (hk 4 (by omega) (by omega)), if_neg (hk 5 (by omega) (by omega)), if_neg (hk 6 (by omega) (by omega)), if_neg (hk 7 (by omega) (by omega)), if_neg (hk 8 (by omega) (by omega)), if_neg (hk 9 (by omega) (by omega)), if_neg (hk 10 (by omega) (by omega))]
  have HD := hid hd
  have b : ∀ j : Int, 1 ≤ j → j ≤ 10 → (x.kind == j) = false := fun j h1 h2 => by simpa using hk j h1 h2
  have b1 := b 1 (by omega) (by omega)
  have b2 := b 2 (by omega) (by omega)
  have b3 := b 3 (by omega) (by omega)
  have b4 := b 4 (by omega) (by omega)
  have b5 := b 5 (by omega) (by omega)
  have b6 := b 6 (by omega) (by omega)
  have b7 := b 7 (by omega) (by omega)
  have b8 := b 8 (by omega) (by omega)
  have b9 := b 9 (by omega) (by omega)
  have b10 := b 10 (by omega) (by omega)
  clear hd h hx hk b
  obtain ⟨kind, name, n, fill, len, fv, fates⟩ := x
  simp only at hfv b1 b2 b3 b4 b5 b6 b7 b8 b9 b10
  subst hfv
  unfold ActM.cells at H1 ⊢
  simp only at H1 ⊢
  go_enter Try.func13, Try.ntmps13
  go_wp2
  go_ret2
  unfold SaysOut
  rw [HD.out]
  exact ⟨rfl, H1.out.1, ((Chg.refl _ w).alloc _)⟩

set_option maxRecDepth 100000 in
set_option maxHeartbeats 4000000 in
theorem says_load {R : Nat → Prop} {r : Nat} {M : Mod} {w : World} (h : RSees R r M w) (x : ActM) (hx : ActOkS (fun b => ¬ R b) w x) (hk : x.kind = 10) :
    Calls Try.prog 13 #[ptr r, .agg x.cells] w (SaysOut R r M x w) := by
  obtain ⟨ao, nn, cap, hfv⟩ := ActM.shapeS hx
  have HW := hid h
  have H1 := hid ((h.kept ((Below.refl _ w).alloc (Nat.le_refl _) (.cells x.cells tAct))))
  have hd : M.does x = ([], (M.load x.name.data.toList x.data).1, (M.load x.name.data.toList x.data).2) := by unfold Mod.does; rw [hk]; rfl
  have HD := hid hd
  have hnm := hx.name
  have hds := ActM.data_size x
  have HDS := hid hds
  have a1 := blk_cell (blk_new w (.cells x.cells tAct)) 1
  have hA : w.heap.size < (w.alloc (.cells x.cells tAct)).heap.size := by simp
  have HA := hid hA
  clear hd h hx hA hds
  obtain ⟨kind, name, n, fill, len, fv, fates⟩ := x
  simp only at hk hfv hnm
  subst hk
  subst hfv
  unfold ActM.cells at H1 HA a1 ⊢
  simp only at H1 HA a1 ⊢
  have A1 : Hid ((w.alloc (.cells #[.int .i64 10, .string name, .int .i64 n, .int .u8 (fill.toNat : Int), .int .i64 len, .slice ao nn cap] tAct)).cell? ⟨w.heap.size, 1, none⟩ = some (.string name)) := hid a1
  clear a1
  go_enter Try.func13, Try.ntmps13
  go_wp2
  go_region_with (first
    | (go_at_call 50; refine (data_any 10 n len name fill ao nn cap fates _).mono ?_; rintro e w1 ⟨rfl, hb⟩; have q1 := (hb.cell (p := ⟨w.heap.size, 1, none⟩) HA.out).trans A1.out)
    | (go_at_call 63; refine (load_ref ((H1.out.kept ((Below.refl _ _).drew)).kept hb) name hnm _ HDS.out).mono ?_; rintro e w2 ⟨rfl, h2, hb2⟩))
  all_goals
    have H2 := hid h2
    have HB : Hid (Chg R w w2) := hid ((((Chg.refl _ w).alloc _).drew).trans (Chg.trans (Chg.of_below hb) hb2))
    clear h2 hb2 hb q1
    go_wp2
    go_ret2
    unfold SaysOut
    rw [HD.out]
    exact ⟨rfl, H2.out, HB.out⟩

set_option maxRecDepth 100000 in
set_option maxHeartbeats 4000000 in
theorem says_write {R : Nat → Prop} {r : Nat} {M : Mod} {w : World} (h : RSees R r M w) (x : ActM) (hx : ActOkS (fun b => ¬ R b) w x) (hk : x.kind = 2) :
    Calls Try.prog 13 #[ptr r, .agg x.cells] w (SaysOut R r M x w) := by
  obtain ⟨ao, nn, cap, hfv⟩ := ActM.shapeS hx
  have HW := hid h
  have H1 := hid ((h.kept ((Below.refl _ w).alloc (Nat.le_refl _) (.cells x.cells tAct))))
  have hd : M.does x = ([], (M.write x.name.data.toList x.n x.data).1, (M.write x.name.data.toList x.n x.data).2) := by unfold Mod.does; rw [hk]; rfl
  have HD := hid hd
  have hnm := hx.name
  have hds := ActM.data_size x
  have HDS := hid hds
  have a1 := blk_cell (blk_new w (.cells x.cells tAct)) 1
  have a2 := blk_cell (blk_new w (.cells x.cells tAct)) 2
  have hA : w.heap.size < (w.alloc (.cells x.cells tAct)).heap.size := by simp
  have HA := hid hA
  clear hd h hx hA hds
  obtain ⟨kind, name, n, fill, len, fv, fates⟩ := x
  simp only at hk hfv hnm
  subst hk
  subst hfv
  unfold ActM.cells at H1 HA a1 a2 ⊢
  simp only at H1 HA a1 a2 ⊢
  have A1 : Hid ((w.alloc (.cells #[.int .i64 2, .string name, .int .i64 n, .int .u8 (fill.toNat : Int), .int .i64 len, .slice ao nn cap] tAct)).cell? ⟨w.heap.size, 1, none⟩ = some (.string name)) := hid a1
  have A2 : Hid ((w.alloc (.cells #[.int .i64 2, .string name, .int .i64 n, .int .u8 (fill.toNat : Int), .int .i64 len, .slice ao nn cap] tAct)).cell? ⟨w.heap.size, 2, none⟩ = some (.int .i64 n)) := hid a2
  clear a1 a2
  go_enter Try.func13, Try.ntmps13
  go_wp2
  go_region_with (first
    | (go_at_call 50; refine (data_any 2 n len name fill ao nn cap fates _).mono ?_; rintro e w1 ⟨rfl, hb⟩; have q1 := (hb.cell (p := ⟨w.heap.size, 1, none⟩) HA.out).trans A1.out; have q2 := (hb.cell (p := ⟨w.heap.size, 2, none⟩) HA.out).trans A2.out)
    | (go_at_call 55; refine (write_ref ((H1.out.kept ((Below.refl _ _).drew)).kept hb) name hnm n _ HDS.out).mono ?_; rintro e w2 ⟨rfl, h2, hb2⟩))
  all_goals
    have H2 := hid h2
    have HB : Hid (Chg R w w2) := hid ((((Chg.refl _ w).alloc _).drew).trans (Chg.trans (Chg.of_below hb) hb2))
    clear h2 hb2 hb q1 q2
    go_wp2
    go_ret2
    unfold SaysOut
    rw [HD.out]
    exact ⟨rfl, H2.out, HB.out⟩

/-- An act, whatever it is. -/
theorem says_any {R : Nat → Prop} {r : Nat} {M : Mod} {w : World} (h : RSees R r M w) (x : ActM) (hx : ActOkS (fun b => ¬ R b) w x) :
    Calls Try.prog 13 #[ptr r, .agg x.cells] w (SaysOut R r M x w) := by
  by_cases k1 : x.kind = 1
  · exact says_read h x hx k1
  by_cases k2 : x.kind = 2
  · exact says_write h x hx k2
  by_cases k3 : x.kind = 3
  · exact says_sync h x hx k3
  by_cases k4 : x.kind = 4
  · exact says_cut h x hx k4
  by_cases k5 : x.kind = 5
  · exact says_drop h x hx k5
  by_cases k6 : x.kind = 6
  · exact says_room h x hx k6
  by_cases k7 : x.kind = 7
  · exact says_arm h x hx k7
  by_cases k8 : x.kind = 8
  · exact says_off h x hx k8
  by_cases k9 : x.kind = 9
  · exact says_on h x hx k9
  by_cases k10 : x.kind = 10
  · exact says_load h x hx k10
  exact says_none h x hx fun j h1 h2 e => by
    have : j = 1 ∨ j = 2 ∨ j = 3 ∨ j = 4 ∨ j = 5 ∨ j = 6 ∨ j = 7 ∨ j = 8 ∨ j = 9 ∨ j = 10 := by omega
    rcases this with rfl | rfl | rfl | rfl | rfl | rfl | rfl | rfl | rfl | rfl <;> contradiction

end Ref
end Go.Proofs.Ytiomojidfkpagaa
