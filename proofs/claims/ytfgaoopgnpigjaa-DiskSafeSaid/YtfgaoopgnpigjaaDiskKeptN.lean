/-
  DiskKept, plainly: rounds of writes, and the two losses of power.
-/
import Derived.Test.YtfgaoopgnpigjaaDiskKeptM
import Derived.Test.YtfgaoopgnpigjaaDiskSees
namespace Go.Proofs.Ytfgaoopgnpigjaa
open Go.RowKit
namespace Disk

def Calm (c : Ctl) : Prop := c.down = false ∧ c.at_ = 0
theorem calm_refusal {c : Ctl} (h : Calm c) : c.refusal true = 0 := by
  have hf : c.fault = 0 := by unfold Ctl.fault; rw [h.2]; rfl
  simp [Ctl.refusal, h.1, hf]
theorem calm_begun {c : Ctl} (h : Calm c) : Calm (c.begun true) ∧ (c.begun true).room = c.room := by
  have hf : c.fault = 0 := by unfold Ctl.fault; rw [h.2]; rfl
  have e : c.begun true = { c with ops := inc c.ops } := by simp [Ctl.begun, h.1, hf, Ctl.counted, Ctl.stepped, h.2]
  rw [e]
  exact ⟨h, rfl⟩
theorem calm_filled (l : List ActM) : Calm (filledM l).c := ⟨filled_up l, by
  show (((playM (l.take 80) (Mod.new 16384)).on []).arm 0 0 0).c.at_ = 0
  unfold Mod.arm Ctl.armed
  rw [if_pos (by decide)]⟩
theorem calm_off_on (M : Mod) (l : List Int) : Calm (M.off.on l).c ∧ (M.off.on l).fs = wakes l 0 M.fs := by
  unfold Mod.off Mod.on
  rw [if_pos (show M.c.offed.down = true from rfl)]
  exact ⟨⟨rfl, rfl⟩, rfl⟩

def Sorted (N : List Nam) : Prop := N.Pairwise fun a b => bytesBefore a b = true
theorem sorted_fs {fs : Dir} (h : Sorted (fs.map (·.1))) : fs.Pairwise fun p q => bytesBefore p.1 q.1 = true := List.pairwise_map.1 h
theorem before_ne {a b : List UInt8} (h : bytesBefore a b = true) : a ≠ b := fun e => by
  subst e
  have := before_asymm h
  rw [h] at this
  cases this
theorem Sorted.ne {N : List Nam} (h : Sorted N) {i j : Nat} (hi : i < N.length) (hj : j < N.length) (hij : i < j) : N[i] ≠ N[j] := before_ne ((List.pairwise_iff_getElem.1 h) i j hi hj hij)
theorem Sees.sorted {O : Nat → Prop} {d m : Nat} {M : Mod} {w : World} (h : Sees O d m M w) : Sorted M.names := by
  obtain ⟨tag, L, D, hL, _, _⟩ := h
  have := rises_dir D.owns.rises
  rw [hL] at this
  exact List.pairwise_map.2 this

/-- A file in the place of another one of the name. -/
def putF (fs : Dir) (n : Nam) (F : Fil) : Dir := fs.map fun e => if e.1 == n then (n, F) else e
theorem putF_names (fs : Dir) (n : Nam) (F : Fil) : (putF fs n F).map (·.1) = fs.map (·.1) := by
  unfold putF
  rw [List.map_map]
  apply List.map_congr_left
  intro e _
  simp only [Function.comp]
  split
  · rename_i h; exact (by simpa using h : e.1 = n).symm
  · rfl
theorem putF_same {fs : Dir} {n : Nam} {F0 : Fil} (h : get? fs n = some F0) (F : Fil) : get? (putF fs n F) n = some F := by
  unfold get? putF at *
  obtain ⟨e, he, _⟩ := Option.map_eq_some_iff.1 h
  have hm := List.mem_of_find?_eq_some he
  have hn := List.find?_some he
  rw [List.find?_map]
  have e1 : ((fun e : Nam × Fil => e.1 == n) ∘ fun e : Nam × Fil => if e.1 == n then (n, F) else e) = fun e => e.1 == n := by
    funext x
    simp only [Function.comp]
    split
    · rename_i hx; simp [hx]
    · rfl
  rw [e1, he]
  simp only [Option.map_some]
  rw [if_pos hn]
theorem putF_other {fs : Dir} {n m : Nam} (hm : m ≠ n) (F : Fil) : get? (putF fs n F) m = get? fs m := by
  unfold get? putF
  rw [List.find?_map]
  have e1 : ((fun e : Nam × Fil => e.1 == m) ∘ fun e : Nam × Fil => if e.1 == n then (n, F) else e) = fun e => e.1 == m := by
    funext x
    simp only [Function.comp]
    split
    · rename_i hx
      have hx' : x.1 = n := by simpa using hx
      have h1 : (n == m) = false := by simpa using fun e => hm e.symm
      have h2 : (x.1 == m) = false := by rw [hx']; exact h1
      rw [h2]; exact h1
    · rfl
  rw [e1]
  cases hf : List.find? (fun e : Nam × Fil => e.1 == m) fs with
  | none => rfl
  | some e =>
    have h2 := List.find?_some hf
    have h3 : e.1 = m := by simpa using h2
    have h4 : (e.1 == n) = false := by rw [h3]; simpa using hm
    simp only [Option.map_some]
    rw [h4]
    rfl
theorem ins_put {fs : Dir} {n : Nam} {F0 : Fil} (hs : Sorted (fs.map (·.1))) (h : get? fs n = some F0) (F : Fil) : ins fs n F = putF fs n F := ins_there F (sorted_fs hs) h

theorem get_name {fs : Dir} {n : Nam} (h : n ∈ fs.map (·.1)) : ∃ F, get? fs n = some F := by
  obtain ⟨e, he, rfl⟩ := List.mem_map.1 h
  unfold get?
  cases hf : List.find? (fun x : Nam × Fil => x.1 == e.1) fs with
  | none => exact absurd (List.find?_eq_none.1 hf e he) (by simp)
  | some x => exact ⟨x.2, rfl⟩

/-- A write to a file that is there, by a disk that is up and has nothing armed. -/
theorem write_calm {M : Mod} (hc : Calm M.c) (hs : Sorted M.names) {n : Nam} {F : Fil} (hg : get? M.fs n = some F) (hn : nameFit n = true) {i : Int} (h0 : 0 ≤ i) (hi : i ≤ F.ps.length) {l : List UInt8} (hl : l.length = 256) :
    Calm (M.write n i l).2.c ∧ ((M.write n i l).2.fs = M.fs ∨ (M.write n i l).2.fs = putF M.fs n (F.write i.toNat l)) := by
  have hfit : (nameFit n && decide (0 ≤ i) && decide (l.length = 256)) = true := by simp [hn, h0, hl]
  unfold Mod.write Mod.run
  rw [hfit, if_neg (by rw [calm_refusal hc]; decide)]
  refine ⟨(calm_begun hc).1, ?_⟩
  unfold writeD
  rw [hg]
  simp only [Option.getD_some]
  rw [if_neg (by omega)]
  split
  · exact Or.inl rfl
  · exact Or.inr (ins_put hs hg _)

/-- Loop 1. -/
structure One (N : List Nam) (M : Mod) : Prop where
  calm : Calm M.c
  names : M.names = N
  tidy : Tidies M.fs
theorem putF_tidy {fs : Dir} (h : Tidies fs) {n : Nam} {F : Fil} (hF : Tidy F) : Tidies (putF fs n F) := fun e he => by
  obtain ⟨x, hx, rfl⟩ := List.mem_map.1 he
  split
  · exact hF
  · exact h x hx
theorem size_is {M : Mod} {n : Nam} {F : Fil} (h : get? M.fs n = some F) : M.size n = F.ps.length := by unfold Mod.size; rw [h]
theorem One.write {N : List Nam} {M : Mod} (h : One N M) (hs : Sorted N) {n : Nam} (hm : n ∈ N) (hn : nameFit n = true) {l : List UInt8} (hl : l.length = 256) : One N (M.write n (M.size n) l).2 := by
  have hnm := h.names
  obtain ⟨F, hF⟩ := get_name (fs := M.fs) (n := n) (by show n ∈ M.names; rw [hnm]; exact hm)
  rw [size_is hF]
  obtain ⟨c, hfs⟩ := write_calm h.calm (by rw [hnm]; exact hs) hF hn (by omega) (Int.le_refl _) hl
  refine ⟨c, ?_, ?_⟩
  · show (M.write n _ l).2.fs.map (·.1) = N
    rcases hfs with e | e
    · rw [e]; exact hnm
    · rw [e, putF_names]; exact hnm
  · rcases hfs with e | e
    · rw [e]; exact h.tidy
    · have hle : ((F.ps.length : Int)).toNat ≤ F.ps.length := by omega
      have hT : Tidy F := h.tidy _ (get_mem hF)
      rw [e]; exact putF_tidy h.tidy (Half.write hT.1 hle l)

/-- What the first loss of power leaves. -/
def kept1 (M : Mod) : Mod := M.off.on [1]
theorem kept1_fs {N : List Nam} {M : Mod} (h : One N M) : (kept1 M).fs = M.fs.map fun e => (e.1, e.2.sync) := by
  unfold kept1
  rw [(calm_off_on M [1]).2, wakes_one h.tidy]

/-- Loop 3, behind q names. -/
structure Two (M1 : Mod) (N : List Nam) (q : Nat) (M : Mod) : Prop where
  calm : Calm M.c
  names : M.names = N
  since : ∀ n F1, get? M1.fs n = some F1 → ∃ F, get? M.fs n = some F ∧ Since F1 F
  rest : ∀ j (h : j < N.length), q ≤ j → get? M.fs N[j] = get? (kept1 M1).fs N[j]
theorem Two.start {M1 : Mod} {N : List Nam} (h : One N M1) : Two M1 N 0 (kept1 M1) := by
  refine ⟨(calm_off_on M1 [1]).1, ?_, fun n F1 hg => ⟨F1.sync, ?_, since_sync F1⟩, fun j hj _ => rfl⟩
  · show (kept1 M1).fs.map (·.1) = N
    rw [kept1_fs h, List.map_map]
    exact h.names
  · rw [kept1_fs h, get_map, hg]; rfl
theorem Two.write {M1 : Mod} {N : List Nam} {q q' k : Nat} {M : Mod} (h : Two M1 N q M) (hs : Sorted N) (hk : k < N.length) (hq : q ≤ q') (hkq : k < q') (hn : nameFit N[k] = true) (hM1 : M1.names = N) {i : Int} (hi : i = 0 ∨ i = M.size N[k]) {l : List UInt8} (hl : l.length = 256) :
    Two M1 N q' (M.write N[k] i l).2 := by
  obtain ⟨F, hF⟩ := get_name (fs := M.fs) (n := N[k]) (by show _ ∈ M.names; rw [h.names]; exact List.getElem_mem hk)
  have hsz := size_is hF
  obtain ⟨c, hfs⟩ := write_calm h.calm (by rw [h.names]; exact hs) hF hn (i := i) (by rcases hi with e | e <;> rw [e] <;> (try rw [hsz]) <;> omega) (by rcases hi with e | e <;> rw [e] <;> (try rw [hsz]) <;> omega) hl
  obtain ⟨F1, hF1⟩ := get_name (fs := M1.fs) (n := N[k]) (by show _ ∈ M1.names; rw [hM1]; exact List.getElem_mem hk)
  have hSn : Since F1 F := by
    obtain ⟨F', hF', hS⟩ := h.since _ _ hF1
    rw [hF] at hF'
    cases hF'
    exact hS
  refine ⟨c, ?_, fun n G hG => ?_, fun j hj hqj => ?_⟩
  · show (M.write N[k] i l).2.fs.map (·.1) = N
    rcases hfs with e | e
    · rw [e]; exact h.names
    · rw [e, putF_names]; exact h.names
  · rcases hfs with e | e
    · rw [e]; exact h.since n G hG
    · rw [e]
      by_cases hnk : n = N[k]
      · subst hnk
        rw [hF1] at hG
        cases hG
        exact ⟨_, putF_same hF _, hSn.write _ _⟩
      · rw [putF_other hnk]; exact h.since n G hG
  · have hne : N[j] ≠ N[k] := (hs.ne hk hj (by omega)).symm
    rcases hfs with e | e
    · rw [e]; exact h.rest j hj (by omega)
    · rw [e, putF_other hne]; exact h.rest j hj (by omega)
/-- A file that wasn't written since has its bytes. -/
theorem Two.bytes {M1 : Mod} {N : List Nam} {k : Nat} {M : Mod} (h : Two M1 N k M) (h1 : One N M1) (hk : k < N.length) : M.bytes N[k] = M1.bytes N[k] := by
  unfold Mod.bytes
  rw [h.rest k hk (Nat.le_refl _), kept1_fs h1, get_map]
  cases get? M1.fs N[k] with
  | none => rfl
  | some F => exact sync_bytes F
/-- What the second loss of power leaves. -/
def kept2 (M : Mod) : Mod := M.off.on []
theorem kept2_is {M1 : Mod} {N : List Nam} {q : Nat} {M : Mod} (h : Two M1 N q M) (h1 : One N M1) (hs : Sorted N) : (kept2 M).names = N ∧ ∀ n ∈ N, (kept2 M).bytes n = M1.bytes n := by
  have hall : ∀ e ∈ M.fs, ∃ F1, get? M1.fs e.1 = some F1 ∧ Since F1 e.2 := by
    intro e he
    have hN : e.1 ∈ N := by rw [← h.names]; exact List.mem_map_of_mem he
    obtain ⟨F1, hF1⟩ := get_name (fs := M1.fs) (n := e.1) (by show _ ∈ M1.names; rw [h1.names]; exact hN)
    obtain ⟨F, hF, hS⟩ := h.since _ _ hF1
    have := get?_of_mem (sorted_fs (fs := M.fs) (by show Sorted M.names; rw [h.names]; exact hs)) he
    rw [this] at hF
    cases hF
    exact ⟨F1, hF1, hS⟩
  have hfs : (kept2 M).fs = M.fs.map fun e => (e.1, e.2.woken [] 0) := by
    unfold kept2
    rw [(calm_off_on M []).2]
    exact wakes_map [] (fun F => F.woken [] 0) _ _ fun e he k => by
      obtain ⟨F1, _, hS⟩ := hall e he
      exact ⟨(hS.woken k).1, by rw [(hS.woken k).2, (hS.woken 0).2]⟩
  constructor
  · show (kept2 M).fs.map (·.1) = N
    rw [hfs, List.map_map]
    exact h.names
  · intro n hn
    obtain ⟨F1, hF1⟩ := get_name (fs := M1.fs) (n := n) (by show _ ∈ M1.names; rw [h1.names]; exact hn)
    obtain ⟨F, hF, hS⟩ := h.since _ _ hF1
    unfold Mod.bytes
    rw [hfs, get_map M.fs (fun F => F.woken [] 0) n, hF, hF1]
    show (F.woken [] 0).bytes = F1.bytes
    rw [(hS.woken 0).2, sync_bytes]

end Disk
end Go.Proofs.Ytfgaoopgnpigjaa
