/-
  Put together: RefArm, RefBeside, RefSays, RefPair.
-/
import Derived.Test.YtgmbiiocjhkpdaaGreatGrpJRa
import Derived.Test.YtgmbiiocjhkpdaaGreatGrpJRb
import Derived.Test.YtgmbiiocjhkpdaaGreatGrpJDke
import Derived.Test.YtgmbiiocjhkpdaaGreatRefOn
import Derived.Test.YtgmbiiocjhkpdaaGreatGrpLgW
import Derived.Test.YtgmbiiocjhkpdaaGreatRefLoad
/-
  Contract of the reference's Arm.
-/
namespace Go.Proofs.YtgmbiiocjhkpdaaGreat
open Go.RowKit
namespace Ref
open Disk
open Num (hid bcells)

section
variable {R : Nat → Prop} {w : World} {r : Nat} {v : Value} {E : Ens} {c : Ctl} {a k m : Int}
set_option maxHeartbeats 1000000 in
theorem rarm_any (h : DiskR R w r v E c a k m) (a' k' m' : Int) : Calls Tryz.prog 24 #[ptr r, .int .i64 a', .int .i64 k', .int .i64 m'] w fun e w' => e = .returned (.tuple #[]) ∧ (∃ k2, DiskR R w' r v E (c.armed a' k' m') a' k2 m') ∧ Chg (· = r) w w' := by
  obtain ⟨q0, q1, q2, q3, q4, q5, q6, q7⟩ := h.roots
  obtain ⟨z0, z1, z2, z3, z4, z5, z6, z7⟩ := h.frees
  have H := hid h
  clear h
  have ways : (a' < 1 ∧ Hid (c.armed a' k' m' = { c with kind := 0, at_ := 0, more := 0 })) ∨ (1 ≤ a' ∧ k' = 1 ∧ Hid (c.armed a' 1 m' = { c with kind := 1, at_ := a', more := max m' 0 })) ∨ (1 ≤ a' ∧ k' = 2 ∧ Hid (c.armed a' 2 m' = { c with kind := 2, at_ := a', more := 0 })) ∨
      (1 ≤ a' ∧ ¬ k' = 1 ∧ ¬ k' = 2 ∧ Hid (c.armed a' k' m' = { c with kind := 0, at_ := 0, more := 0 })) := by
    unfold Ctl.armed
    by_cases h1 : a' < 1
    · left; rw [if_pos h1]; exact ⟨h1, hid rfl⟩
    · right
      by_cases h2 : k' = 1
      · left; rw [if_neg h1, if_pos rfl]; exact ⟨by omega, h2, hid rfl⟩
      · right
        by_cases h3 : k' = 2
        · left; rw [if_neg h1, if_neg (by decide), if_pos rfl]; exact ⟨by omega, h3, hid rfl⟩
        · right; rw [if_neg h1, if_neg h2, if_neg h3]; exact ⟨by omega, h2, h3, hid rfl⟩
  rcases ways with ⟨h1, HA⟩ | ⟨h1, rfl, HA⟩ | ⟨h1, rfl, HA⟩ | ⟨h1, h2, h3, HA⟩
  · have hc : Hid (Chg (· = r) w ((((w.setCell ⟨r, 5, none⟩ (.int .i64 a')).setCell ⟨r, 6, none⟩ (.int .i64 k')).setCell ⟨r, 7, none⟩ (.int .i64 m')).setCell ⟨r, 6, none⟩ (.int .i64 0))) := hid (((((Chg.refl _ _).root _ _).root _ _).root _ _).root _ _)
    go_enter Tryz.func24, Tryz.ntmps24
    go_wp2
    go_end0
    exact ⟨rfl, ⟨0, H.out.turn hc.out (by rw [HA.out]; exact blk_set (blk_set (blk_set (blk_set H.out.blk 5 _) 6 _) 7 _) 6 _) (Or.inl ⟨rfl, by rw [HA.out]⟩)⟩, hc.out⟩
  · have hc : Hid (Chg (· = r) w (((w.setCell ⟨r, 5, none⟩ (.int .i64 a')).setCell ⟨r, 6, none⟩ (.int .i64 1)).setCell ⟨r, 7, none⟩ (.int .i64 m'))) := hid ((((Chg.refl _ _).root _ _).root _ _).root _ _)
    have HP := hid h1
    go_enter Tryz.func24, Tryz.ntmps24
    go_wp2
    go_end0
    exact ⟨rfl, ⟨1, H.out.turn hc.out (by rw [HA.out]; exact blk_set (blk_set (blk_set H.out.blk 5 _) 6 _) 7 _) (Or.inr (Or.inl ⟨rfl, by rw [HA.out]; show a' ≠ 0; have := HP.out; omega, by rw [HA.out], by rw [HA.out], by rw [HA.out]⟩))⟩, hc.out⟩
  · have hc : Hid (Chg (· = r) w (((w.setCell ⟨r, 5, none⟩ (.int .i64 a')).setCell ⟨r, 6, none⟩ (.int .i64 2)).setCell ⟨r, 7, none⟩ (.int .i64 m'))) := hid ((((Chg.refl _ _).root _ _).root _ _).root _ _)
    have HP := hid h1
    go_enter Tryz.func24, Tryz.ntmps24
    go_wp2
    go_end0
    exact ⟨rfl, ⟨2, H.out.turn hc.out (by rw [HA.out]; exact blk_set (blk_set (blk_set H.out.blk 5 _) 6 _) 7 _) (Or.inr (Or.inr ⟨rfl, by rw [HA.out]; show a' ≠ 0; have := HP.out; omega, by rw [HA.out], by rw [HA.out]⟩))⟩, hc.out⟩
  · have hc : Hid (Chg (· = r) w ((((w.setCell ⟨r, 5, none⟩ (.int .i64 a')).setCell ⟨r, 6, none⟩ (.int .i64 k')).setCell ⟨r, 7, none⟩ (.int .i64 m')).setCell ⟨r, 6, none⟩ (.int .i64 0))) := hid (((((Chg.refl _ _).root _ _).root _ _).root _ _).root _ _)
    have b1 : (k' != 1) = true := by simpa using h2
    have b2 : (k' != 2) = true := by simpa using h3
    clear h2 h3
    go_enter Tryz.func24, Tryz.ntmps24
    go_wp2
    go_end0
    exact ⟨rfl, ⟨0, H.out.turn hc.out (by rw [HA.out]; exact blk_set (blk_set (blk_set (blk_set H.out.blk 5 _) 6 _) 7 _) 6 _) (Or.inl ⟨rfl, by rw [HA.out]⟩)⟩, hc.out⟩

end
end Ref
end Go.Proofs.YtgmbiiocjhkpdaaGreat

/-
  The project's disk beside the reference's: neither turns what is the other's.
-/
namespace Go.Proofs.YtgmbiiocjhkpdaaGreat
open Go.RowKit
namespace Ref
open Disk

/-- What a disk in memory is, is good. -/
theorem Sees.good {O : Nat → Prop} {d m : Nat} {M : Mod} {w : World} (h : Sees O d m M w) : Good M := by
  obtain ⟨tag, L, D, hL, -, -⟩ := h
  have key : ∀ e ∈ M.fs, e.2.ps.length ≤ 16384 ∧ ∀ p ∈ e.2.ps, (p.now.getD zeros).length = 256 := by
    intro e he
    rw [← hL] at he
    obtain ⟨x, hx, rfl⟩ := List.mem_map.1 he
    obtain ⟨v, Q, hf⟩ := D.files x hx
    have hps : x.2.2.ps = Q.map (·.2) := hf.ps
    refine ⟨?_, ?_⟩
    · show x.2.2.ps.length ≤ 16384
      rw [hps, List.length_map]; exact hf.len
    · intro p hp
      replace hp : p ∈ x.2.2.ps := hp
      rw [hps] at hp
      obtain ⟨y, hy, rfl⟩ := List.mem_map.1 hp
      exact (hf.pls y hy).now.len
  refine ⟨D.root.ok, ?_, fun e he => (key e he).1, fun e he => (key e he).2, ?_⟩
  · rw [← hL]; unfold dirOf; rw [List.length_map]; exact D.few
  · rw [← hL]; exact rises_dir D.owns.rises
/-- What the disk doesn't own has turned, and more was made. -/
theorem Sees.beside {O F : Nat → Prop} {d m : Nat} {M : Mod} {w w' : World} (h : Sees O d m M w) (hc : Chg F w w') (hF : ∀ k, F k → k < w.heap.size → O k) : Sees (fun k => O k ∨ (w.heap.size ≤ k ∧ k < w'.heap.size)) d m M w' := by
  obtain ⟨tag, L, D, hL, hN, hs⟩ := h
  have hc2 : Chg (fun k => F k ∧ k < w.heap.size) w w' := hc.mono (fun k hk e => ⟨e, hk⟩)
  have D2 : DiskAt tag w' d m M.c L := D.kept hc2 (fun _ _ => rfl) (fun k hk => hN k (hF k hk.1 hk.2))
  have D3 : DiskAt (norm tag w.heap.size) w' d m M.c L := D.kept (F := fun k => F k ∧ k < w.heap.size) hc2 (fun k hk => norm_lt tag hk) (fun k hk => hN k (hF k hk.1 hk.2))
  refine ⟨norm tag w.heap.size, L, D3, hL, ?_, ?_⟩
  · rintro k (hk | ⟨hk, _⟩)
    · rw [norm_lt tag (hs k hk)]; exact hN k hk
    · exact norm_ge tag hk
  · rintro k (hk | ⟨_, hk⟩)
    · exact Nat.lt_of_lt_of_le (hs k hk) hc.size
    · exact hk
/-- Both disks, each by itself: the reference's blocks are others to the project's. -/
def Both (O : Nat → Prop) (d m r : Nat) (M : Mod) (w : World) : Prop := Sees O d m M w ∧ Refs O r M w
/-- The project's call, then the reference's. -/
theorem Both.step {O : Nat → Prop} {d m r : Nat} {M M' : Mod} {w w1 : World} (h : Both O d m r M w) (hs : Sees O d m M' w1) (hst : Stays O w w1) :
    Refs (fun k => O k ∨ w1.heap.size ≤ k) r M w1 ∧ (∀ b, w1.heap.size ≤ b → (O b ∨ w1.heap.size ≤ b)) ∧
    ∀ w2, RefOut (fun k => O k ∨ w1.heap.size ≤ k) w1 r M' w2 → Both (fun k => O k ∨ (w1.heap.size ≤ k ∧ k < w2.heap.size)) d m r M' w2 := by
  refine ⟨(h.2.apart hst (fun k hk => hk)).mono (fun g _ hg => Or.inl hg), fun b hb => Or.inr hb, ?_⟩
  rintro w2 ⟨hr, hc⟩
  refine ⟨Sees.beside hs hc (fun k hk hlt => ?_), hr.mono (fun g hg hO => ?_)⟩
  · rcases hk with hk | hk
    · exact hk
    · omega
  · rcases hO with hO | hO
    · exact Or.inl hO
    · exact Or.inr ⟨hO, hg⟩
end Ref
end Go.Proofs.YtgmbiiocjhkpdaaGreat

/-
  An act, whatever it is, on the reference's disk.
-/
namespace Go.Proofs.YtgmbiiocjhkpdaaGreat
open Go.RowKit
namespace Ref
open Disk
open Num (hid bcells)

/-- The reference's disk at r is M, which is good; what is made from now on is its own. -/
def RSees (R : Nat → Prop) (r : Nat) (M : Mod) (w : World) : Prop := Refs R r M w ∧ Good M ∧ ∀ b, w.heap.size ≤ b → R b
def SaysOut (R : Nat → Prop) (r : Nat) (M : Mod) (x : ActM) (w : World) (e : Ending) (w' : World) : Prop :=
  e = .returned (.tuple #[.string ⟨(M.does x).1.toArray⟩, .int .i64 (M.does x).2.1]) ∧ Refs R r (M.does x).2.2 w' ∧ Chg R w w'
section
variable {R : Nat → Prop} {r : Nat} {M : Mod} {w w' : World}
theorem RSees.kept (h : RSees R r M w) (hb : Below w.heap.size w w') : RSees R r M w' :=
  ⟨h.1.apart (F := fun _ => False) (Chg.of_below hb) (fun _ h => h.elim), h.2.1, fun b hk => h.2.2 b (Nat.le_trans hb.size hk)⟩
theorem one_own {R : Nat → Prop} {r : Nat} {w w' : World} (hr : R r) (hc : Chg (· = r) w w') : Chg R w w' := hc.mono (fun _ _ e => by rw [e]; exact hr)
theorem few_ens {M : Mod} (hG : Good M) {E : Ens} (hE : Ens.dir E = M.fs) : E.length ≤ 100 := by
  have := hG.few
  rw [← hE, dir_len] at this
  omega
theorem read_ref (h : RSees R r M w) (s : ByteArray) (hs : s.size ≤ maxLen) (i : Int) (hi : i ≤ 9223372036854775807) :
    Calls Tryz.prog 51 #[ptr r, .string s, .int .i64 i] w fun e w' => e = .returned (.tuple #[.string ⟨(M.read s.data.toList i).1.toArray⟩, .int .i64 (M.read s.data.toList i).2.1]) ∧ Refs R r (M.read s.data.toList i).2.2 w' ∧ Chg R w w' := by
  obtain ⟨⟨v, E, a, k, m, D, hE⟩, hG, -⟩ := h
  have H := rread_any D hG.ok (few_ens hG hE) s hs i hi
  rw [hE] at H
  refine H.mono ?_
  rintro e w2 ⟨rfl, ⟨a', k', m', D', hc⟩, hf⟩
  exact ⟨rfl, ⟨v, E, a', k', m', D', hE.trans hf.symm⟩, one_own D.own hc⟩
theorem write_ref (h : RSees R r M w) (s : ByteArray) (hs : s.size ≤ maxLen) (i : Int) (l : ByteArray) (_hl : l.size ≤ maxLen) :
    Calls Tryz.prog 64 #[ptr r, .string s, .int .i64 i, .string l] w fun e w' => e = .returned (.int .i64 (M.write s.data.toList i l.data.toList).1) ∧ Refs R r (M.write s.data.toList i l.data.toList).2 w' ∧ Chg R w w' := rwrite_any h.2.1 h.1 h.2.2 s hs i l
theorem load_ref (h : RSees R r M w) (s : ByteArray) (_hs : s.size ≤ maxLen) (l : ByteArray) (_hl : l.size ≤ maxLen) :
    Calls Tryz.prog 44 #[ptr r, .string s, .string l] w fun e w' => e = .returned (.int .i64 (M.load s.data.toList l.data.toList).1) ∧ Refs R r (M.load s.data.toList l.data.toList).2 w' ∧ Chg R w w' := rload_any h.2.1 h.1 h.2.2 s l
theorem sync_ref (h : RSees R r M w) (s : ByteArray) (hs : s.size ≤ maxLen) :
    Calls Tryz.prog 66 #[ptr r, .string s] w fun e w' => e = .returned (.int .i64 (M.sync s.data.toList).1) ∧ Refs R r (M.sync s.data.toList).2 w' ∧ Chg R w w' := rsync_any h.2.1 h.1 h.2.2 s hs
theorem cut_ref (h : RSees R r M w) (s : ByteArray) (hs : s.size ≤ maxLen) (n : Int) :
    Calls Tryz.prog 55 #[ptr r, .string s, .int .i64 n] w fun e w' => e = .returned (.int .i64 (M.cut s.data.toList n).1) ∧ Refs R r (M.cut s.data.toList n).2 w' ∧ Chg R w w' := rcut_any h.2.1 h.1 h.2.2 s hs n
theorem drop_ref (h : RSees R r M w) (s : ByteArray) (hs : s.size ≤ maxLen) :
    Calls Tryz.prog 54 #[ptr r, .string s] w fun e w' => e = .returned (.int .i64 (M.drop s.data.toList).1) ∧ Refs R r (M.drop s.data.toList).2 w' ∧ Chg R w w' := rdrop_any h.2.1 h.1 h.2.2 s hs
theorem off_ref (h : RSees R r M w) :
    Calls Tryz.prog 26 #[ptr r] w fun e w' => e = .returned (.tuple #[]) ∧ Refs R r M.off w' ∧ Chg R w w' := by
  obtain ⟨⟨v, E, a, k, m, D, hE⟩, -, -⟩ := h
  refine (roff_any D).mono ?_
  rintro e w2 ⟨rfl, D', hc⟩
  exact ⟨rfl, ⟨v, E, _, _, _, D', hE⟩, one_own D.own hc⟩
theorem arm_ref (h : RSees R r M w) (a k n : Int) (_ha : a ≤ 9223372036854775807) (_hn : n ≤ 9223372036854775807) :
    Calls Tryz.prog 24 #[ptr r, .int .i64 a, .int .i64 k, .int .i64 n] w fun e w' => e = .returned (.tuple #[]) ∧ Refs R r (M.arm a k n) w' ∧ Chg R w w' := by
  obtain ⟨⟨v, E, a0, k0, m0, D, hE⟩, -, -⟩ := h
  refine (rarm_any D a k n).mono ?_
  rintro e w2 ⟨rfl, ⟨k2, D'⟩, hc⟩
  exact ⟨rfl, ⟨v, E, _, _, _, D', hE⟩, one_own D.own hc⟩
theorem on_ref (h : RSees R r M w) (fv : Value) (l : List Int) (hI : IntsAt w fv l) (hl : l.length ≤ maxLen) (hv : ∀ b o n cap, fv = .slice (some ⟨b, o, none⟩) n cap → n ≠ 0 → ¬ R b) :
    Calls Tryz.prog 28 #[ptr r, fv] w fun e w' => e = .returned (.tuple #[]) ∧ Refs R r (M.on l) w' ∧ Chg R w w' := ron_any h.2.1 h.1 h.2.2 fv hI hl hv
end

end Ref
end Go.Proofs.YtgmbiiocjhkpdaaGreat

/-
  The project's disk beside the reference's, the acts' memory apart from both.
-/
namespace Go.Proofs.YtgmbiiocjhkpdaaGreat
open Go.RowKit
namespace Ref
open Disk

/-- Both disks are M; the reference's blocks are none of the project's, and none of those below N. -/
def Pair (N : Nat) (O R : Nat → Prop) (d m r : Nat) (M : Mod) (w : World) : Prop := Sees O d m M w ∧ Refs R r M w ∧ (∀ k, R k → O k) ∧ (∀ k, R k → N ≤ k) ∧ N ≤ w.heap.size
/-- Behind the project's call: what the reference's call wants. -/
theorem Pair.mid {N : Nat} {O R : Nat → Prop} {d m r : Nat} {M M' : Mod} {w w1 : World} (h : Pair N O R d m r M w) (hst : Stays O w w1) (hG : Good M) (hM : M' = M) : RSees (fun k => R k ∨ w1.heap.size ≤ k) r M' w1 := by
  obtain ⟨-, h2, h3, -, -⟩ := h
  rw [hM]
  exact ⟨(h2.apart hst (fun k hk hR => hk (h3 k hR))).mono (fun g _ hg => Or.inl hg), hG, fun b hb => Or.inr hb⟩
/-- Behind the reference's call: both again. -/
theorem Pair.step {N : Nat} {O R : Nat → Prop} {d m r : Nat} {M M' : Mod} {w w1 w2 : World} (h : Pair N O R d m r M w) (hs : Sees O d m M' w1) (hst : Stays O w w1) (hr : Refs (fun k => R k ∨ w1.heap.size ≤ k) r M' w2) (hc : Chg (fun k => R k ∨ w1.heap.size ≤ k) w1 w2) :
    Pair N (fun k => O k ∨ (w1.heap.size ≤ k ∧ k < w2.heap.size)) (fun k => R k ∨ (w1.heap.size ≤ k ∧ k < w2.heap.size)) d m r M' w2 := by
  obtain ⟨-, -, h3, h4, h5⟩ := h
  have z1 := hst.size
  have z2 := hc.size
  refine ⟨Sees.beside hs hc (fun k hk hlt => ?_), hr.mono (fun g hg hO => ?_), fun k hk => ?_, fun k hk => ?_, by omega⟩
  · rcases hk with hk | hk
    · exact h3 k hk
    · omega
  · rcases hO with hO | hO
    · exact Or.inl hO
    · exact Or.inr ⟨hO, hg⟩
  · rcases hk with hk | hk
    · exact Or.inl (h3 k hk)
    · exact Or.inr hk
  · rcases hk with hk | hk
    · exact h4 k hk
    · omega
end Ref
end Go.Proofs.YtgmbiiocjhkpdaaGreat
