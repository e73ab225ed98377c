/-
  What the reference's disk wants of a model (Good) is kept by every operation, at any name; plainly. What an operation does to a file, and to the others.
-/
import Derived.Test.YtgmbiiocjhkpdaaGreatGrpJRb
import Derived.Test.YtgmbiiocjhkpdaaGreatDiskWrite
import Derived.Test.YtgmbiiocjhkpdaaGreatDiskOn
import Derived.Test.YtgmbiiocjhkpdaaGreatGrpJDkb
namespace Go.Proofs.YtgmbiiocjhkpdaaGreat
open Go.RowKit
namespace Ref
open Disk

theorem before_iff : ∀ a b : List UInt8, bytesBefore a b = true ↔ a < b
  | [], [] => by simp [bytesBefore]
  | [], _ :: _ => by simp [bytesBefore]
  | _ :: _, [] => by simp [bytesBefore]
  | x :: r, y :: s => by
    rw [List.cons_lt_cons_iff, ← before_iff r s]
    simp [bytesBefore]
theorem before_trans {a b c : List UInt8} (h1 : bytesBefore a b = true) (h2 : bytesBefore b c = true) : bytesBefore a c = true :=
  (before_iff a c).2 (List.lt_trans ((before_iff a b).1 h1) ((before_iff b c).1 h2))
theorem before_total {a b : List UInt8} (h : bytesBefore a b = false) (hn : a ≠ b) : bytesBefore b a = true := by
  rw [before_iff]
  have h1 : ¬ a < b := fun x => by rw [(before_iff a b).2 x] at h; cases h
  have h2 : b ≤ a := List.not_lt.1 h1
  rcases List.le_iff_lt_or_eq.1 h2 with h3 | h3
  · exact h3
  · exact absurd h3.symm hn
theorem rise_insB {α : Type} (x : Nam × α) : ∀ (L : List (Nam × α)), L.Pairwise (fun p q => bytesBefore p.1 q.1 = true) → (∀ e ∈ L, e.1 ≠ x.1) → (insB x L).Pairwise (fun p q => bytesBefore p.1 q.1 = true)
  | [], _, _ => by simp [insB]
  | y :: r, h, hn => by
    unfold insB
    cases hb : bytesBefore x.1 y.1 with
    | true =>
      rw [if_pos rfl]
      refine List.pairwise_cons.2 ⟨fun e he => ?_, h⟩
      rcases List.mem_cons.1 he with rfl | he
      · exact hb
      · exact before_trans hb ((List.pairwise_cons.1 h).1 e he)
    | false =>
      rw [if_neg (by decide)]
      obtain ⟨h1, h2⟩ := List.pairwise_cons.1 h
      refine List.pairwise_cons.2 ⟨fun e he => ?_, rise_insB x r h2 (fun e he => hn e (List.mem_cons_of_mem _ he))⟩
      rcases mem_insB he with rfl | he
      · exact before_total hb (fun e' => hn y (List.mem_cons_self) e'.symm)
      · exact h1 e he
theorem rise_del {α : Type} {L : List (Nam × α)} (n : Nam) (h : L.Pairwise (fun p q => bytesBefore p.1 q.1 = true)) : (del L n).Pairwise (fun p q => bytesBefore p.1 q.1 = true) := h.filter _
theorem rise_ins {α : Type} {L : List (Nam × α)} (n : Nam) (a : α) (h : L.Pairwise (fun p q => bytesBefore p.1 q.1 = true)) : (ins L n a).Pairwise (fun p q => bytesBefore p.1 q.1 = true) :=
  rise_insB (n, a) _ (rise_del n h) (fun _ he => (mem_del he).2)
theorem get_some {α : Type} {L : List (Nam × α)} {n : Nam} {a : α} (h : get? L n = some a) : ∃ e ∈ L, e.1 = n ∧ e.2 = a := by
  unfold get? at h
  cases hf : L.find? (fun e => e.1 == n) with
  | none => rw [hf] at h; cases h
  | some e =>
    rw [hf] at h
    refine ⟨e, List.mem_of_find?_eq_some hf, by simpa using List.find?_some hf, by injection h⟩
theorem get_none {α : Type} {L : List (Nam × α)} {n : Nam} (h : get? L n = none) : ∀ e ∈ L, e.1 ≠ n := by
  unfold get? at h
  intro e he hn
  rw [Option.map_eq_none_iff, List.find?_eq_none] at h
  exact h e he (by simpa using hn)
theorem ins_few {α : Type} {L : List (Nam × α)} {n : Nam} {a : α} (h : L.length ≤ 8) (hr : L.Pairwise (fun p q => bytesBefore p.1 q.1 = true)) (hh : (get? L n).isSome = true ∨ L.length < 8) : (ins L n a).length ≤ 8 := by
  rcases hh with hh | hh
  · obtain ⟨x, hx⟩ := Option.isSome_iff_exists.1 hh
    rw [ins_there a hr hx, List.length_map]
    exact h
  · unfold ins
    rw [insB_len]
    have := List.length_filter_le (fun e : Nam × α => !(e.1 == n)) L
    unfold del
    omega
/-- A file that the reference can hold. -/
def FilOk (F : Fil) : Prop := F.ps.length ≤ 16384 ∧ ∀ p ∈ F.ps, (p.now.getD zeros).length = 256
variable {M : Mod}
theorem Good.file (h : Good M) {n : Nam} {F : Fil} (hF : get? M.fs n = some F) : FilOk F := by
  obtain ⟨e, he, _, rfl⟩ := get_some hF
  exact ⟨h.lens e he, h.secs e he⟩
theorem Good.ins (h : Good M) (n : Nam) {F : Fil} (hF : FilOk F) (hh : holdsB M.fs n = true) {c : Ctl} (hc : c.Ok) : Good ⟨c, Disk.ins M.fs n F⟩ := by
  refine ⟨hc, ins_few h.few h.rise (by simpa [holdsB] using hh), fun e he => ?_, fun e he => ?_, rise_ins n F h.rise⟩
  · rcases mem_ins he with rfl | ⟨he, _⟩
    · exact hF.1
    · exact h.lens e he
  · rcases mem_ins he with rfl | ⟨he, _⟩
    · exact hF.2
    · exact h.secs e he
theorem Good.del (h : Good M) (n : Nam) {c : Ctl} (hc : c.Ok) : Good ⟨c, Disk.del M.fs n⟩ :=
  ⟨hc, Nat.le_trans (List.length_filter_le _ _) h.few, fun e he => h.lens e (mem_del he).1, fun e he => h.secs e (mem_del he).1, rise_del n h.rise⟩
theorem Good.ctl (h : Good M) {c : Ctl} (hc : c.Ok) : Good ⟨c, M.fs⟩ := ⟨hc, h.few, h.lens, h.secs, h.rise⟩
theorem Good.holds (_h : Good M) {n : Nam} {F : Fil} (hF : get? M.fs n = some F) : holdsB M.fs n = true := by unfold holdsB; rw [hF]; rfl
/-- What a call that is run does. -/
theorem ran_good {fit : Bool} {f : Dir → Int × Dir} (h : Good M) (hf : Good ⟨M.c.begun fit, (f M.fs).2⟩) : Good (M.run fit f).2 := by
  unfold Mod.run
  split
  · exact h.ctl (h.ok.begun fit)
  · exact hf
theorem filok_write {F : Fil} (h : FilOk F) {k : Nat} {l : List UInt8} (hl : l.length = 256) (hk : k = F.ps.length → F.ps.length < 16384) : FilOk (F.write k l) := by
  unfold Fil.write
  split
  · rename_i e
    refine ⟨by simp; have := hk (by omega); omega, fun p hp => ?_⟩
    rcases List.mem_append.1 hp with hp | hp
    · exact h.2 p hp
    · rw [List.mem_singleton] at hp
      subst hp
      exact hl
  · cases hg : F.ps[k]? with
    | none => exact h
    | some q =>
      refine ⟨by simpa using h.1, fun p hp => ?_⟩
      rcases List.mem_or_eq_of_mem_set hp with hp | hp
      · exact h.2 p hp
      · subst hp
        exact hl
theorem lens_mem {fs : Dir} {n : Nam} {F : Fil} (h : get? fs n = some F) : F.ps.length ≤ lensD fs := by
  obtain ⟨e, he, _, rfl⟩ := get_some h
  have key : ∀ (L : Dir), e ∈ L → e.2.ps.length ≤ lensD L := by
    intro L
    induction L with
    | nil => intro h; cases h
    | cons x r ih =>
      intro h
      have e1 : lensD (x :: r) = x.2.ps.length + lensD r := rfl
      rw [e1]
      rcases List.mem_cons.1 h with rfl | h
      · omega
      · have := ih h; omega
  exact key fs he
theorem Good.write (h : Good M) (n : Nam) (k : Int) (l : List UInt8) : Good (M.write n k l).2 := by
  by_cases hfit : (nameFit n && decide (0 ≤ k) && decide (l.length = 256)) = true
  · have h2 : 0 ≤ k ∧ l.length = 256 := by simp at hfit; exact ⟨hfit.1.2, hfit.2⟩
    refine ran_good h ?_
    have hok := h.ok.begun (nameFit n && decide (0 ≤ k) && decide (l.length = 256))
    unfold writeD
    simp only
    split
    · exact h.ctl hok
    · split
      · exact h.ctl hok
      · rename_i h3 h4
        cases hg : get? M.fs n with
        | some F =>
          rw [hg] at h3 h4
          refine h.ins n (filok_write (h.file hg) h2.2 (fun e => ?_)) (h.holds hg) hok
          have hl := lens_mem hg
          have hr := h.ok.room
          rcases Int.lt_or_le (lensD M.fs : Int) M.c.room with h5 | h5
          · show F.ps.length < 16384
            omega
          · exact absurd ⟨by show k = (F.ps.length : Int); have : (k.toNat : Int) = (F.ps.length : Int) := congrArg Int.ofNat e; omega, Or.inr h5⟩ h4
        | none =>
          rw [hg] at h3 h4
          have hk0 : k = 0 := by have : ¬ ((0 : Int) < k) := h3; omega
          have hh : holdsB M.fs n = true := by
            cases hb : holdsB M.fs n with
            | true => rfl
            | false => exact absurd ⟨hk0, Or.inl hb⟩ h4
          exact h.ins n (filok_write (F := emptyFil) ⟨by decide, fun p hp => by cases hp⟩ h2.2 (fun _ => by decide)) hh hok
  · have e : (nameFit n && decide (0 ≤ k) && decide (l.length = 256)) = false := by simpa using hfit
    have hr : M.c.refusal false ≠ 0 := by unfold Ctl.refusal; simp
    unfold Mod.write Mod.run
    rw [e, if_pos hr]
    exact h.ctl (h.ok.begun _)
theorem Good.onD (h : Good M) (n : Nam) {fit : Bool} {f : Fil → Int × Dir} (hf : ∀ F, get? M.fs n = some F → Good ⟨M.c.begun fit, (f F).2⟩) : Good ⟨M.c.begun fit, (Disk.onD n f M.fs).2⟩ := by
  unfold Disk.onD
  cases hg : get? M.fs n with
  | none => exact h.ctl (h.ok.begun _)
  | some F => exact hf F hg
theorem Good.sync (h : Good M) (n : Nam) : Good (M.sync n).2 :=
  ran_good h (h.onD n fun F hF => h.ins n ⟨by unfold Fil.sync; simpa using (h.file hF).1, fun p hp => by
    obtain ⟨q, hq, rfl⟩ := List.mem_map.1 (show p ∈ F.ps.map fun p => (⟨p.now, some p.now, false⟩ : Plc) from hp)
    exact (h.file hF).2 q hq⟩ (h.holds hF) (h.ok.begun _))
theorem Good.cut (h : Good M) (n : Nam) (k : Int) : Good (M.cut n k).2 :=
  ran_good h (h.onD n fun F hF => by
    split
    · exact h.ctl (h.ok.begun _)
    · exact h.ins n ⟨by show (F.ps.take k.toNat).length ≤ _; rw [List.length_take]; have := (h.file hF).1; omega, fun p hp => (h.file hF).2 p (List.mem_of_mem_take hp)⟩ (h.holds hF) (h.ok.begun _))
theorem Good.drop (h : Good M) (n : Nam) : Good (M.drop n).2 := ran_good h (h.onD n fun _ _ => h.del n (h.ok.begun _))
theorem Good.read (h : Good M) (n : Nam) (i : Int) : Good (M.read n i).2.2 := by
  unfold Mod.read
  split
  · exact h.ctl (h.ok.begun _)
  · exact h.ctl (h.ok.begun _)
theorem filok_loaded {l : List UInt8} (h : l.length ≤ 1048576) : FilOk (loadedF l) := by
  refine ⟨?_, fun p hp => ?_⟩
  · show ((List.range ((l.length + 255) / 256)).map _).length ≤ 16384
    rw [List.length_map, List.length_range]
    omega
  · obtain ⟨i, _, rfl⟩ := List.mem_map.1 (show p ∈ (List.range ((l.length + 255) / 256)).map fun i => (⟨some (fitted (l.drop (i * 256))), some (some (fitted (l.drop (i * 256)))), false⟩ : Plc) from hp)
    exact fitted_len _
theorem Good.load (h : Good M) (n : Nam) (l : List UInt8) : Good (M.load n l).2 := by
  unfold Mod.load
  split
  · exact h
  · rename_i h1
    split
    · exact h
    · rename_i h2
      refine h.ins n (filok_loaded ?_) (by simpa using h2) h.ok
      rcases Nat.lt_or_ge 1048576 l.length with h3 | h3
      · exact absurd (Or.inr h3) h1
      · exact h3
theorem Good.arm (h : Good M) (a k m : Int) (ha : a ≤ 9223372036854775807) (hm : m ≤ 9223372036854775807) : Good (M.arm a k m) := h.ctl (h.ok.armed a k m ha hm)
theorem Good.off (h : Good M) : Good M.off := h.ctl h.ok.offed
theorem Good.room (h : Good M) (n : Int) : Good (M.room n) := h.ctl (h.ok.roomed n)
end Ref
end Go.Proofs.YtgmbiiocjhkpdaaGreat
