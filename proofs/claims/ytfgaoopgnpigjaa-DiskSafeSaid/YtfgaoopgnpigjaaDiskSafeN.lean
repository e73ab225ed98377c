/-
  DiskSafe, plainly: the calls on the way.
-/
import Derived.Test.YtfgaoopgnpigjaaDiskSafeM
namespace Go.Proofs.Ytfgaoopgnpigjaa
open Go.RowKit
namespace Disk

theorem sync_calm {M : Mod} (hc : Calm M.c) (hs : Sorted M.names) {n : Nam} {F : Fil} (hg : get? M.fs n = some F) (hn : nameFit n = true) :
    (M.sync n).1 = 0 ∧ Calm (M.sync n).2.c ∧ (M.sync n).2.fs = putF M.fs n F.sync := by
  unfold Mod.sync Mod.run
  rw [hn, if_neg (by rw [calm_refusal hc]; decide)]
  unfold syncD onD
  rw [hg]
  exact ⟨rfl, (calm_begun hc).1, ins_put hs hg _⟩
theorem read_calm {M : Mod} (hc : Calm M.c) {n : Nam} (hn : nameFit n = true) (i : Int) :
    (M.read n i).1 = (readD n i M.fs).1 ∧ (M.read n i).2.1 = (readD n i M.fs).2 ∧ Calm (M.read n i).2.2.c ∧ (M.read n i).2.2.fs = M.fs := by
  unfold Mod.read
  rw [hn, if_neg (by rw [calm_refusal hc]; decide)]
  exact ⟨rfl, rfl, (calm_begun hc).1, rfl⟩
theorem read_at {fs : Dir} {n : Nam} {F : Fil} (hg : get? fs n = some F) {k : Nat} {p : Plc} (hp : F.ps[k]? = some p) : readD n k fs = readNow p.now := by
  unfold readD Fil.read
  rw [hg]
  simp only
  rw [if_neg (by omega), Int.toNat_natCast, hp]
theorem write_in {M : Mod} (hc : Calm M.c) (hs : Sorted M.names) {n : Nam} {F : Fil} (hg : get? M.fs n = some F) (hn : nameFit n = true) {k : Nat} (hk : k < F.ps.length) {l : List UInt8} (hl : l.length = 256) :
    (M.write n k l).1 = 0 ∧ Calm (M.write n k l).2.c ∧ (M.write n k l).2.fs = putF M.fs n (F.write k l) := by
  have hfit : (nameFit n && decide (0 ≤ (k : Int)) && decide (l.length = 256)) = true := by simp [hn, hl]
  unfold Mod.write Mod.run
  rw [hfit, if_neg (by rw [calm_refusal hc]; decide)]
  unfold writeD
  rw [hg]
  simp only [Option.getD_some]
  rw [if_neg (by omega), if_neg (by omega)]
  exact ⟨rfl, (calm_begun hc).1, ins_put hs hg _⟩

/-- Behind the sync and some reads. -/
structure Syn (n : Nam) (F2 : Fil) (M : Mod) : Prop where
  calm : Calm M.c
  sorted : Sorted M.names
  got : get? M.fs n = some F2
theorem Syn.read {n : Nam} {F2 : Fil} {M : Mod} (h : Syn n F2 M) (hn : nameFit n = true) {k : Nat} (hk : k < F2.ps.length) : (M.read n k).2.1 = (readNow F2.ps[k].now).2 ∧ (M.read n k).1 = (readNow F2.ps[k].now).1 ∧ Syn n F2 (M.read n k).2.2 := by
  obtain ⟨h1, h2, h3, h4⟩ := read_calm h.calm hn (k : Int)
  have hr := read_at h.got (List.getElem?_eq_getElem hk)
  rw [hr] at h1 h2
  refine ⟨h2, h1, h3, ?_, by rw [h4]; exact h.got⟩
  have : (M.read n k).2.2.names = M.names := by unfold Mod.names; rw [h4]
  rw [this]
  exact h.sorted
/-- Behind writes. -/
structure Wri (n : Nam) (F2 : Fil) (R : List (List UInt8)) (M : Mod) : Prop where
  calm : Calm M.c
  sorted : Sorted M.names
  got : ∃ F, get? M.fs n = some F ∧ Wrote F2 F R
theorem Wri.write {n : Nam} {F2 : Fil} {R : List (List UInt8)} {M : Mod} (h : Wri n F2 R M) (hn : nameFit n = true) {k : Nat} (hk : k < F2.ps.length) {l : List UInt8} (hl : l.length = 256) : (M.write n k l).1 = 0 ∧ Wri n F2 (R.set k l) (M.write n k l).2 := by
  obtain ⟨F, hF, hW⟩ := h.got
  have hkF : k < F.ps.length := by rw [hW.len]; exact hk
  obtain ⟨h1, h2, h3⟩ := write_in h.calm h.sorted hF hn hkF hl
  refine ⟨h1, h2, ?_, F.write k l, by rw [h3]; exact putF_same hF _, hW.write hkF (fun e => by rw [e] at hl; cases hl)⟩
  have : (M.write n k l).2.names = M.names := by show (M.write n k l).2.fs.map (·.1) = _; rw [h3, putF_names]; rfl
  rw [this]
  exact h.sorted
theorem sync_len (F : Fil) : F.sync.ps.length = F.ps.length := by simp [Fil.sync]
theorem syn_start {M : Mod} (hc : Calm M.c) (hs : Sorted M.names) {n : Nam} {F : Fil} (hg : get? M.fs n = some F) (hn : nameFit n = true) : (M.sync n).1 = 0 ∧ Syn n F.sync (M.sync n).2 := by
  obtain ⟨h1, h2, h3⟩ := sync_calm hc hs hg hn
  refine ⟨h1, h2, ?_, by rw [h3]; exact putF_same hg _⟩
  have : (M.sync n).2.names = M.names := by show (M.sync n).2.fs.map (·.1) = _; rw [h3, putF_names]; rfl
  rw [this]
  exact hs
theorem wri_start {n : Nam} {F : Fil} {M : Mod} (h : Syn n F.sync M) : Wri n F.sync (List.replicate F.ps.length []) M := ⟨h.calm, h.sorted, F.sync, h.got, wrote_start F⟩
/-- Behind the loss of power. -/
structure Bck (n : Nam) (F2 : Fil) (R : List (List UInt8)) (M : Mod) : Prop where
  calm : Calm M.c
  got : ∃ F, get? M.fs n = some F ∧ F.ps.length = F2.ps.length ∧ ∀ i (hi : i < F2.ps.length), ∃ p, F.ps[i]? = some p ∧ (p.now = F2.ps[i].now ∨ ∃ hr : i < R.length, R[i] ≠ [] ∧ (p.now = some R[i] ∨ p.now = none))
theorem Wri.back {n : Nam} {F2 : Fil} {R : List (List UInt8)} {M : Mod} (h : Wri n F2 R M) (l : List Int) : Bck n F2 R (M.off.on l) := by
  obtain ⟨F, hF, hW⟩ := h.got
  obtain ⟨h1, h2⟩ := calm_off_on M l
  obtain ⟨k', hk'⟩ := wakes_get l M.fs 0 (sorted_fs h.sorted) hF (fun k => (hW.woken l k).1)
  refine ⟨h1, _, by rw [h2]; exact hk', (hW.woken l k').2.1, (hW.woken l k').2.2⟩
theorem Bck.size {n : Nam} {F2 : Fil} {R : List (List UInt8)} {M : Mod} (h : Bck n F2 R M) : M.size n = F2.ps.length := by
  obtain ⟨F, hF, hl, _⟩ := h.got
  rw [size_is hF, hl]
theorem Bck.read {n : Nam} {F2 : Fil} {R : List (List UInt8)} {M : Mod} (h : Bck n F2 R M) (hn : nameFit n = true) {k : Nat} (hk : k < F2.ps.length) :
    ∃ o : Sec, (M.read n k).2.1 = (readNow o).2 ∧ (M.read n k).1 = (readNow o).1 ∧ Bck n F2 R (M.read n k).2.2 ∧ (o = F2.ps[k].now ∨ ∃ hr : k < R.length, R[k] ≠ [] ∧ (o = some R[k] ∨ o = none)) := by
  obtain ⟨F, hF, hl, hall⟩ := h.got
  obtain ⟨p, hp, hc⟩ := hall k hk
  obtain ⟨h1, h2, h3, h4⟩ := read_calm h.calm hn (k : Int)
  have hr := read_at hF hp
  rw [hr] at h1 h2
  exact ⟨p.now, h2, h1, ⟨h3, F, by rw [h4]; exact hF, hl, hall⟩, hc⟩

end Disk
end Go.Proofs.Ytfgaoopgnpigjaa
