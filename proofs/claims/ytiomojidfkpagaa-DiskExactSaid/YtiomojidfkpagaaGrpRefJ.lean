/-
  Put together: RefArm, RefBeside.
-/
import Derived.Test.YtiomojidfkpagaaGrpRefF
import Derived.Test.YtiomojidfkpagaaGrpRefG
import Derived.Test.YtiomojidfkpagaaGrpDskE
/-
  Contract of the reference's Arm.
-/
namespace Go.Proofs.Ytiomojidfkpagaa
open Go.RowKit
namespace Ref
open Disk
open Num (hid bcells)

section
variable {R : Nat → Prop} {w : World} {r : Nat} {v : Value} {E : Ens} {c : Ctl} {a k m : Int}
set_option maxHeartbeats 1000000 in
theorem rarm_any (h : DiskR R w r v E c a k m) (a' k' m' : Int) : Calls Try.prog 60 #[ptr r, .int .i64 a', .int .i64 k', .int .i64 m'] w fun e w' => e = .returned (.tuple #[]) ∧ (∃ k2, DiskR R w' r v E (c.armed a' k' m') a' k2 m') ∧ Chg (· = r) w w' := by
  obtain ⟨q0, q1, q2, q3, q4, q5, q6, q7⟩ := h.roots
  obtain ⟨z0, z1, z2, z3, z4, z5, z6, z7⟩ := h.frees
  have H := hid h
  clear h
  have ways : (a' < 1 ∧ Hid (c.armed a' k' m' = { c with kind := 0, at_ := 0, more := 0 })) ∨ (1 ≤ a' ∧ k' = 1 ∧ Hid (c.armed a' 1 m' = { c with kind := 1, at_ := a', more := max m' 0 })) ∨ (1 ≤ a' ∧ k' = 2 ∧ Hid (c.armed a' 2 m' = { c with kind := 2, at_ := a', more := 0 })) ∨
      (1 ≤ a' ∧ ¬ k' = 1 ∧ ¬ k' = 2 ∧ Hid (c.armed a' k' m' = { c with kind := 0, at_ := 0, more := 0 })) := by
    unfold Ctl.armed
    by_cases h1 : a' < 1
    · left; rw [if_pos h1]; exact ⟨h1, hid rfl⟩
    · right
      by_cases h2 : k' = 1
      · left; rw [if_neg h1, if_pos rfl]; exact ⟨by omega, h2, hid rfl⟩
      · right
        by_cases h3 : k' = 2
        · left; rw [if_neg h1, if_neg (by decide), if_pos rfl]; exact ⟨by omega, h3, hid rfl⟩
        · right; rw [if_neg h1, if_neg h2, if_neg h3]; exact ⟨by omega, h2, h3, hid rfl⟩
  rcases ways with ⟨h1, HA⟩ | ⟨h1, rfl, HA⟩ | ⟨h1, rfl, HA⟩ | ⟨h1, h2, h3, HA⟩
  · have hc : Hid (Chg (· = r) w ((((w.setCell ⟨r, 5, none⟩ (.int .i64 a')).setCell ⟨r, 6, none⟩ (.int .i64 k')).setCell ⟨r, 7, none⟩ (.int .i64 m')).setCell ⟨r, 6, none⟩ (.int .i64 0))) := hid (((((Chg.refl _ _).root _ _).root _ _).root _ _).root _ _)
    go_enter Try.func60, Try.ntmps60
    go_wp2
    go_end0
    exact ⟨rfl, ⟨0, H.out.turn hc.out (by rw [HA.out]; exact blk_set (blk_set (blk_set (blk_set H.out.blk 5 _) 6 _) 7 _) 6 _) (Or.inl ⟨rfl, by rw [HA.out]⟩)⟩, hc.out⟩
  · have hc : Hid (Chg (· = r) w (((w.setCell ⟨r, 5, none⟩ (.int .i64 a')).setCell ⟨r, 6, none⟩ (.int .i64 1)).setCell ⟨r, 7, none⟩ (.int .i64 m'))) := hid ((((Chg.refl _ _).root _ _).root _ _).root _ _)
    have HP := hid h1
    go_enter Try.func60, Try.ntmps60
    go_wp2
    go_end0
    exact ⟨rfl, ⟨1, H.out.turn hc.out (by rw [HA.out]; exact blk_set (blk_set (blk_set H.out.blk 5 _) 6 _) 7 _) (Or.inr (Or.inl ⟨rfl, by rw [HA.out]; show a' ≠ 0; have := HP.out; omega, by rw [HA.out], by rw [HA.out], by rw [HA.out]⟩))⟩, hc.out⟩
  · have hc : Hid (Chg (· = r) w (((w.setCell ⟨r, 5, none⟩ (.int .i64 a')).setCell ⟨r, 6, none⟩ (.int .i64 2)).setCell ⟨r, 7, none⟩ (.int .i64 m'))) := hid ((((Chg.refl _ _).root _ _).root _ _).root _ _)
    have HP := hid h1
    go_enter Try.func60, Try.ntmps60
    go_wp2
    go_end0
    exact ⟨rfl, ⟨2, H.out.turn hc.out (by rw [HA.out]; exact blk_set (blk_set (blk_set H.out.blk 5 _) 6 _) 7 _) (Or.inr (Or.inr ⟨rfl, by rw [HA.out]; show a' ≠ 0; have := HP.out; omega, by rw [HA.out], by rw [HA.out]⟩))⟩, hc.out⟩
  · have hc : Hid (Chg (· = r) w ((((w.setCell ⟨r, 5, none⟩ (.int .i64 a')).setCell ⟨r, 6, none⟩ (.int .i64 k')).setCell ⟨r, 7, none⟩ (.int .i64 m')).setCell ⟨r, 6, none⟩ (.int .i64 0))) := hid (((((Chg.refl _ _).root _ _).root _ _).root _ _).root _ _)
    have b1 : (k' != 1) = true := by simpa using h2
    have b2 : (k' != 2) = true := by simpa using h3
    clear h2 h3
    go_enter Try.func60, Try.ntmps60
    go_wp2
    go_end0
    exact ⟨rfl, ⟨0, H.out.turn hc.out (by rw [HA.out]; exact blk_set (blk_set (blk_set (blk_set H.out.blk 5 _) 6 _) 7 _) 6 _) (Or.inl ⟨rfl, by rw [HA.out]⟩)⟩, hc.out⟩

end
end Ref
end Go.Proofs.Ytiomojidfkpagaa

/-
  The project's disk beside the reference's: neither turns what is the other's.
-/
namespace Go.Proofs.Ytiomojidfkpagaa
open Go.RowKit
namespace Ref
open Disk

/-- What a disk in memory is, is good. -/
theorem Sees.good {O : Nat → Prop} {d m : Nat} {M : Mod} {w : World} (h : Sees O d m M w) : Good M := by
  obtain ⟨tag, L, D, hL, -, -⟩ := h
  have key : ∀ e ∈ M.fs, e.2.ps.length ≤ 16384 ∧ ∀ p ∈ e.2.ps, (p.now.getD zeros).length = 256 := by
    intro e he
    rw [← hL] at he
    obtain ⟨x, hx, rfl⟩ := List.mem_map.1 he
    obtain ⟨v, Q, hf⟩ := D.files x hx
    have hps : x.2.2.ps = Q.map (·.2) := hf.ps
    refine ⟨?_, ?_⟩
    · show x.2.2.ps.length ≤ 16384
      rw [hps, List.length_map]; exact hf.len
    · intro p hp
      replace hp : p ∈ x.2.2.ps := hp
      rw [hps] at hp
      obtain ⟨y, hy, rfl⟩ := List.mem_map.1 hp
      exact (hf.pls y hy).now.len
  refine ⟨D.root.ok, ?_, fun e he => (key e he).1, fun e he => (key e he).2, ?_⟩
  · rw [← hL]; unfold dirOf; rw [List.length_map]; exact D.few
  · rw [← hL]; exact rises_dir D.owns.rises
/-- What the disk doesn't own has turned, and more was made. -/
theorem Sees.beside {O F : Nat → Prop} {d m : Nat} {M : Mod} {w w' : World} (h : Sees O d m M w) (hc : Chg F w w') (hF : ∀ k, F k → k < w.heap.size → O k) : Sees (fun k => O k ∨ (w.heap.size ≤ k ∧ k < w'.heap.size)) d m M w' := by
  obtain ⟨tag, L, D, hL, hN, hs⟩ := h
  have hc2 : Chg (fun k => F k ∧ k < w.heap.size) w w' := hc.mono (fun k hk e => ⟨e, hk⟩)
  have D2 : DiskAt tag w' d m M.c L := D.kept hc2 (fun _ _ => rfl) (fun k hk => hN k (hF k hk.1 hk.2))
  have D3 : DiskAt (norm tag w.heap.size) w' d m M.c L := D.kept (F := fun k => F k ∧ k < w.heap.size) hc2 (fun k hk => norm_lt tag hk) (fun k hk => hN k (hF k hk.1 hk.2))
  refine ⟨norm tag w.heap.size, L, D3, hL, ?_, ?_⟩
  · rintro k (hk | ⟨hk, _⟩)
    · rw [norm_lt tag (hs k hk)]; exact hN k hk
    · exact norm_ge tag hk
  · rintro k (hk | ⟨_, hk⟩)
    · exact Nat.lt_of_lt_of_le (hs k hk) hc.size
    · exact hk
/-- Both disks, each by itself: the reference's blocks are others to the project's. -/
def Both (O : Nat → Prop) (d m r : Nat) (M : Mod) (w : World) : Prop := Sees O d m M w ∧ Refs O r M w
/-- The project's call, then the reference's. -/
theorem Both.step {O : Nat → Prop} {d m r : Nat} {M M' : Mod} {w w1 : World} (h : Both O d m r M w) (hs : Sees O d m M' w1) (hst : Stays O w w1) :
    Refs (fun k => O k ∨ w1.heap.size ≤ k) r M w1 ∧ (∀ b, w1.heap.size ≤ b → (O b ∨ w1.heap.size ≤ b)) ∧
    ∀ w2, RefOut (fun k => O k ∨ w1.heap.size ≤ k) w1 r M' w2 → Both (fun k => O k ∨ (w1.heap.size ≤ k ∧ k < w2.heap.size)) d m r M' w2 := by
  refine ⟨(h.2.apart hst (fun k hk => hk)).mono (fun g _ hg => Or.inl hg), fun b hb => Or.inr hb, ?_⟩
  rintro w2 ⟨hr, hc⟩
  refine ⟨Sees.beside hs hc (fun k hk hlt => ?_), hr.mono (fun g hg hO => ?_)⟩
  · rcases hk with hk | hk
    · exact hk
    · omega
  · rcases hO with hO | hO
    · exact Or.inl hO
    · exact Or.inr ⟨hO, hg⟩
end Ref
end Go.Proofs.Ytiomojidfkpagaa
