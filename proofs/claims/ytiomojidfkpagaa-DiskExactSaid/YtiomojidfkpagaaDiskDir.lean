/-
  The map of files in memory and the plain list of files: put, taken away; a call on one file leaves the others.
-/
import Derived.Test.YtiomojidfkpagaaDiskModel
import Derived.Test.YtiomojidfkpagaaDiskLook
import Derived.Test.YtiomojidfkpagaaDiskNames
import Derived.Test.YtiomojidfkpagaaDiskOper
import Derived.Test.YtiomojidfkpagaaDiskSync
namespace Go.Proofs.Ytiomojidfkpagaa
open Go.RowKit
namespace Disk
open Num (hid bcells)

def dirOf (L : Ents) : Dir := L.map fun e => (e.1, e.2.2)
theorem dirOf_get (L : Ents) (n : Nam) : get? (dirOf L) n = (get? L n).map (·.2) := by
  unfold get? dirOf
  rw [List.find?_map]
  have e : ((fun e : Nam × Fil => e.1 == n) ∘ fun e : Nam × (Nat × Fil) => (e.1, e.2.2)) = fun e => e.1 == n := by funext e; rfl
  rw [e]
  cases List.find? (fun e : Nam × (Nat × Fil) => e.1 == n) L <;> rfl
theorem dirOf_del (L : Ents) (n : Nam) : dirOf (del L n) = del (dirOf L) n := by
  unfold dirOf del
  rw [List.filter_map]; rfl
theorem dirOf_insB (x : Nam × (Nat × Fil)) : ∀ L : Ents, dirOf (insB x L) = insB (x.1, x.2.2) (dirOf L)
  | [] => rfl
  | y :: r => by
    have ih := dirOf_insB x r
    unfold dirOf at ih ⊢
    simp only [List.map_cons, insB]
    cases bytesBefore x.1 y.1
    · simp only [Bool.false_eq_true, if_false, List.map_cons, ih]
    · simp
theorem dirOf_ins (L : Ents) (n : Nam) (b : Nat) (F : Fil) : dirOf (ins L n (b, F)) = ins (dirOf L) n F := by
  unfold ins
  rw [dirOf_insB, dirOf_del]
theorem dirOf_lens (L : Ents) : lensD (dirOf L) = lens L := by simp [lensD, dirOf, lens, Function.comp_def]
theorem dirOf_len (L : Ents) : (dirOf L).length = L.length := by simp [dirOf]
theorem dirOf_can (L : Ents) (n : Nam) : holdsB (dirOf L) n = canB L n := by
  unfold holdsB canB
  rw [dirOf_get, dirOf_len]; simp

theorem mem_insB {α : Type} {x : Nam × α} : ∀ {L : List (Nam × α)} {y : Nam × α}, y ∈ insB x L → y = x ∨ y ∈ L
  | [], y, h => Or.inl (by simpa [insB] using h)
  | z :: r, y, h => by
    simp only [insB] at h
    split at h
    · rcases List.mem_cons.1 h with h | h
      · exact Or.inl h
      · exact Or.inr h
    · rcases List.mem_cons.1 h with h | h
      · exact Or.inr (h ▸ List.mem_cons_self ..)
      · exact (mem_insB h).imp_right (List.mem_cons_of_mem _)
theorem mem_del {α : Type} {L : List (Nam × α)} {n : Nam} {y : Nam × α} (h : y ∈ del L n) : y ∈ L ∧ y.1 ≠ n := by
  unfold del at h
  rw [List.mem_filter] at h
  exact ⟨h.1, by simpa using h.2⟩
theorem mem_ins {α : Type} {L : List (Nam × α)} {n : Nam} {a : α} {y : Nam × α} (h : y ∈ ins L n a) : y = (n, a) ∨ y ∈ L ∧ y.1 ≠ n := (mem_insB h).imp_right mem_del
theorem insB_len {α : Type} (x : Nam × α) : ∀ L : List (Nam × α), (insB x L).length = L.length + 1
  | [] => rfl
  | y :: r => by simp only [insB]; split <;> simp [insB_len x r]
theorem before_asymm {a b : List UInt8} (h : bytesBefore a b = true) : bytesBefore b a = false := by
  cases h2 : bytesBefore b a with
  | false => rfl
  | true => exact absurd (before_lt h2) (List.lt_asymm (before_lt h))
theorem del_self {α : Type} {L : List (Nam × α)} {n : Nam} (h : ∀ e ∈ L, e.1 ≠ n) : del L n = L := by
  unfold del
  rw [List.filter_eq_self]
  intro e he
  simp [h e he]
/-- A name that is there, rising: its entry is another one. -/
theorem ins_there {α : Type} : ∀ {L : List (Nam × α)} {n : Nam} {x : α} (a : α), L.Pairwise (fun p q => bytesBefore p.1 q.1 = true) → get? L n = some x → ins L n a = L.map fun e => if e.1 == n then (n, a) else e
  | [], n, x, a, _, h => by cases h
  | e :: r, n, x, a, hp, h => by
    have hp1 := (List.pairwise_cons.1 hp).1
    have hp2 := (List.pairwise_cons.1 hp).2
    by_cases he : e.1 = n
    · have hne : ∀ q ∈ r, q.1 ≠ n := fun q hq hqn => by
        have := hp1 q hq
        rw [he, hqn, bytesBefore_irrefl] at this; cases this
      have e1 : del (e :: r) n = r := by
        unfold del
        rw [List.filter_cons_of_neg (by simp [he])]
        exact del_self hne
      have e2 : r.map (fun e => if e.1 == n then (n, a) else e) = r := by
        conv => rhs; rw [← List.map_id r]
        refine List.map_congr_left fun q hq => ?_
        simp [hne q hq]
      unfold ins
      rw [e1, List.map_cons, e2]
      simp only [he, beq_self_eq_true, if_true]
      cases r with
      | nil => rfl
      | cons q r =>
        have := hp1 q (List.mem_cons_self ..)
        rw [he] at this
        simp only [insB, this, if_true]
    · have h2 : get? r n = some x := by
        unfold get? at h ⊢
        rw [List.find?_cons_of_neg (by simp [he])] at h
        exact h
      have hmem := get?_mem h2
      have hb := hp1 _ hmem
      have ih := ins_there a hp2 h2
      unfold ins at ih ⊢
      have e1 : del (e :: r) n = e :: del r n := by
        unfold del
        rw [List.filter_cons_of_pos (by simp [he])]
      rw [e1, List.map_cons, ← ih]
      simp only [insB, before_asymm hb, Bool.false_eq_true, if_false]
      simp [he]
theorem get?_of_mem {α : Type} : ∀ {L : List (Nam × α)}, L.Pairwise (fun p q => bytesBefore p.1 q.1 = true) → ∀ {e : Nam × α}, e ∈ L → get? L e.1 = some e.2
  | [], _, e, h => by cases h
  | z :: r, hp, e, h => by
    have hp1 := (List.pairwise_cons.1 hp).1
    rcases List.mem_cons.1 h with h | h
    · subst h
      unfold get?
      rw [List.find?_cons_of_pos (by simp)]; rfl
    · have hne : z.1 ≠ e.1 := fun hz => by
        have := hp1 e h
        rw [hz, bytesBefore_irrefl] at this; cases this
      have ih := get?_of_mem (List.pairwise_cons.1 hp).2 h
      unfold get? at ih ⊢
      rw [List.find?_cons_of_neg (by simp [hne])]
      exact ih
theorem datum_there {L : Ents} (hr : Rises L) {n : Nam} {b : Nat} {F F' : Fil} (h : get? L n = some (b, F)) : datum (ins L n (b, F')) = datum L ∧ (ins L n (b, F')).length = L.length := by
  rw [ins_there (b, F') hr h]
  refine ⟨?_, by rw [List.length_map]⟩
  unfold datum
  rw [List.map_map]
  congr 1
  refine List.map_congr_left fun e he => ?_
  by_cases hn : e.1 = n
  · have hm := get?_of_mem hr he
    rw [hn, h] at hm
    have h2 : e.2 = (b, F) := (Option.some.inj hm).symm
    simp [hn, h2]
  · simp [hn]

/-- What is a disk's own. -/
def Mine (tag : Nat → Tag) : Nat → Prop := fun k => tag k ≠ .other ∧ tag k ≠ .sec
/-- A call of the disk: what it is behind the call. -/
def Out (tag : Nat → Tag) (d m : Nat) (M : Mod) (w w' : World) : Prop :=
  ∃ tag' L', DiskAt tag' w' d m M.c L' ∧ dirOf L' = M.fs ∧ (∀ k, k < w.heap.size → tag' k = tag k) ∧ Chg (Mine tag) w w'

/-- A call on one file. -/
theorem DiskAt.filed {tag : Nat → Tag} {w w' : World} {d m : Nat} {c : Ctl} {L : Ents} (D : DiskAt tag w d m c L) {n : Nam} {b : Nat} {F F' : Fil} (hg : get? L n = some (b, F)) (h : FileTurned tag n b F' w w') :
    Out tag d m ⟨c, ins (dirOf L) n F'⟩ w w' := by
  obtain ⟨tag', v, Q, hf, ht, hc⟩ := h
  obtain ⟨hd, hl⟩ := datum_there D.owns.rises (F' := F') hg
  have hm : ¬ (tag m = .file n ∨ tag m = .row n) := by rintro (e | e) <;> rw [D.root.tagm] at e <;> cases e
  have hdd : ¬ (tag d = .file n ∨ tag d = .row n) := by rintro (e | e) <;> rw [D.root.tagd] at e <;> cases e
  refine ⟨tag', ins L n (b, F'), ⟨D.root.kept D.mlt hc ht hdd, ?_, ?_, by rw [hl]; exact D.few⟩, dirOf_ins L n b F', ht, hc.mono ?_⟩
  · unfold Owns
    rw [hd, hl]
    exact D.owns.kept hc hm
  · intro e he
    rcases mem_ins he with rfl | ⟨he, hne⟩
    · exact ⟨v, Q, hf⟩
    · obtain ⟨v2, Q2, hf2⟩ := D.files e he
      refine ⟨v2, Q2, hf2.kept hc ht ?_⟩
      rintro k (e | e) <;> rw [e] <;> refine ⟨by simp, ?_, ?_⟩ <;> intro h <;> cases h <;> exact hne rfl
  · rintro k _ (e | e) <;> unfold Mine <;> rw [e] <;> simp

end Disk
end Go.Proofs.Ytiomojidfkpagaa
