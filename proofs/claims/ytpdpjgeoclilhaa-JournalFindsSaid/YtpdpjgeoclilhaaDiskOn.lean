/-
  Contract of the project's disk: On.
-/
import Derived.Test.YtpdpjgeoclilhaaDiskWrite
import Derived.Test.YtpdpjgeoclilhaaGrpJDkb
import Derived.Test.YtpdpjgeoclilhaaGrpJDka
namespace Go.Proofs.Ytpdpjgeoclilhaa
open Go.RowKit
namespace Disk
open Num (hid bcells)

/-- Files that have woken: the first of them. -/
theorem wakes_append (l : List Int) : ∀ (k : Nat) (a b : Dir), wakes l k (a ++ b) = wakes l k a ++ wakes l (a.foldl (fun k e => counts k e.2.ps) k) b
  | k, [], b => rfl
  | k, e :: r, b => by
    simp only [List.cons_append, wakes, List.foldl_cons, wakes_append l (counts k e.2.ps) r b, List.append_assoc]

theorem rises_dir {L : Ents} (h : Rises L) : (dirOf L).Pairwise fun p q => bytesBefore p.1 q.1 = true := by
  unfold dirOf
  rw [List.pairwise_map]
  exact h
/-- A name in the midst, rising: its entry is another one, or gone. -/
theorem mid {α : Type} {X Y : List (Nam × α)} {n : Nam} {a : α} (h : (X ++ (n, a) :: Y).Pairwise fun p q => bytesBefore p.1 q.1 = true) :
    (∀ e ∈ X, e.1 ≠ n) ∧ (∀ e ∈ Y, e.1 ≠ n) := by
  obtain ⟨_, h2, h3⟩ := List.pairwise_append.1 h
  constructor
  · intro e he hn
    have := h3 e he (n, a) (List.mem_cons_self ..)
    rw [hn, bytesBefore_irrefl] at this; cases this
  · intro e he hn
    have := (List.pairwise_cons.1 h2).1 e he
    rw [hn, bytesBefore_irrefl] at this; cases this
theorem mid_get {α : Type} {X Y : List (Nam × α)} {n : Nam} {a : α} (h : (X ++ (n, a) :: Y).Pairwise fun p q => bytesBefore p.1 q.1 = true) : get? (X ++ (n, a) :: Y) n = some a :=
  get?_of_mem h (e := (n, a)) (by simp)
theorem mid_ins {α : Type} {X Y : List (Nam × α)} {n : Nam} {a b : α} (h : (X ++ (n, a) :: Y).Pairwise fun p q => bytesBefore p.1 q.1 = true) : ins (X ++ (n, a) :: Y) n b = X ++ (n, b) :: Y := by
  obtain ⟨h1, h2⟩ := mid h
  rw [ins_there b h (mid_get h), List.map_append, List.map_cons]
  have e : ∀ Z : List (Nam × α), (∀ e ∈ Z, e.1 ≠ n) → Z.map (fun e => if e.1 == n then (n, b) else e) = Z := by
    intro Z hZ
    conv => rhs; rw [← List.map_id Z]
    exact List.map_congr_left fun q hq => by simp [hZ q hq]
  rw [e X h1, e Y h2]
  simp
theorem mid_del {α : Type} {X Y : List (Nam × α)} {n : Nam} {a : α} (h : (X ++ (n, a) :: Y).Pairwise fun p q => bytesBefore p.1 q.1 = true) : del (X ++ (n, a) :: Y) n = X ++ Y := by
  obtain ⟨h1, h2⟩ := mid h
  have e1 := del_self h1
  have e2 := del_self h2
  unfold del at e1 e2 ⊢
  rw [List.filter_append, List.filter_cons_of_neg (by simp), e1, e2]

/-- A call on one file, and on what is no disk's. -/
theorem DiskAt.filed2 {tag tag' : Nat → Tag} {w w' : World} {d m : Nat} {c : Ctl} {L : Ents} (D : DiskAt tag w d m c L) {n : Nam} {b : Nat} {F F' : Fil} (hg : get? L n = some (b, F)) {G : Nat → Prop} (hc : Chg G w w')
    (hG : ∀ k, G k → tag k = .file n ∨ tag k = .row n ∨ tag k = .other) (ht : ∀ k, k < w.heap.size → tag' k = tag k) (hf : ∃ v Q, FileAt tag' w' n b F' v Q) : DiskAt tag' w' d m c (ins L n (b, F')) := by
  obtain ⟨hd, hl⟩ := datum_there D.owns.rises (F' := F') hg
  have hm : ¬ G m := fun e => by rcases hG m e with e | e | e <;> rw [D.root.tagm] at e <;> cases e
  have hdd : ¬ G d := fun e => by rcases hG d e with e | e | e <;> rw [D.root.tagd] at e <;> cases e
  refine ⟨D.root.kept D.mlt hc ht hdd, ?_, ?_, by rw [hl]; exact D.few⟩
  · unfold Owns
    rw [hd, hl]
    exact D.owns.kept hc hm
  · intro e he
    rcases mem_ins he with rfl | ⟨he, hne⟩
    · exact hf
    · obtain ⟨v2, Q2, hf2⟩ := D.files e he
      refine ⟨v2, Q2, hf2.kept hc ht ?_⟩
      intro k hk
      rcases hG k hk with e | e | e <;> rw [e] <;> refine ⟨by simp, ?_, ?_⟩ <;> intro h <;> cases h <;> exact hne rfl
/-- .. that is gone then. -/
theorem DiskAt.gone2 {tag tag' : Nat → Tag} {w w1 w' : World} {d m : Nat} {c : Ctl} {L : Ents} (D : DiskAt tag w d m c L) {n : Nam} {G : Nat → Prop} (hc : Chg G w w1)
    (hG : ∀ k, G k → tag k = .file n ∨ tag k = .row n ∨ tag k = .other) (ht : ∀ k, k < w.heap.size → tag' k = tag k) (ho : Owns w' m (del L n)) (hmt : w1.mapTurned w' m) : DiskAt tag' w' d m c (del L n) := by
  have hm : ¬ G m := fun e => by rcases hG m e with e | e | e <;> rw [D.root.tagm] at e <;> cases e
  have hdd : ¬ G d := fun e => by rcases hG d e with e | e | e <;> rw [D.root.tagd] at e <;> cases e
  have hc2 : Chg (· = m) w1 w' := (Chg.refl _ w1).grown hmt.grown (fun k hk => Or.inr (by cases hk; rfl))
  have hdm : ¬ d = m := fun e => by have h1 := D.root.tagd; rw [e, D.root.tagm] at h1; cases h1
  have hm1 : tag' m = .dir := (ht m D.mlt).trans D.root.tagm
  have D1 := D.root.kept D.mlt hc ht hdd
  refine ⟨D1.kept (Nat.lt_of_lt_of_le D.mlt hc.size) hc2 (fun _ _ => rfl) hdm, ho, ?_, ?_⟩
  · intro e he
    obtain ⟨he, hne⟩ := mem_del he
    obtain ⟨v2, Q2, hf2⟩ := D.files e he
    refine ⟨v2, Q2, (hf2.kept hc ht ?_).kept hc2 (fun _ _ => rfl) ?_⟩
    · intro k hk
      rcases hG k hk with e | e | e <;> rw [e] <;> refine ⟨by simp, ?_, ?_⟩ <;> intro h <;> cases h <;> exact hne rfl
    · rintro k rfl; rw [hm1]; exact ⟨by simp, by simp, by simp⟩
  · have h1 : (del L n).length ≤ L.length := List.length_filter_le _ _
    have := D.few
    show (del L n).length ≤ 8
    omega

def metAll (fs : Dir) : Nat := fs.foldl (fun k e => counts k e.2.ps) 0
theorem metAll_le (fs : Dir) : metAll fs ≤ lensD fs := by
  have : ∀ (fs : Dir) (k : Nat), fs.foldl (fun k e => counts k e.2.ps) k ≤ k + lensD fs := by
    intro fs
    induction fs with
    | nil => intro k; exact Nat.le_refl _
    | cons e r ih =>
      intro k
      have h1 := ih (counts k e.2.ps)
      have h2 := counts_le e.2.ps k
      simp only [List.foldl_cons, lensD, List.map_cons, List.sum_cons] at h1 ⊢
      omega
  have := this fs 0
  unfold metAll; omega
theorem lensD_take (fs : Dir) (j : Nat) : lensD (fs.take j) ≤ lensD fs := by
  unfold lensD
  conv => rhs; rw [← List.take_append_drop j fs]
  rw [List.map_append, List.sum_append]; omega

section
variable {tag0 tag' tag2 : Nat → Tag} {w0 wr w1 w2 : World} {d m : Nat} {c : Ctl} {L L' : Ents} {l : List Int} {fv : Value} {A B : Nat} {v : Value} {N1 j : Nat}

end

theorem key_len {w : World} {m : Nat} {L : Ents} (h : Owns w m L) {e : Nam × (Nat × Fil)} (he : e ∈ L) : e.1.length ≤ maxLen := by
  obtain ⟨es, clock, hb, F, hs, hD⟩ := h
  unfold datum at hD
  simp only [DataW.map.injEq] at hD
  have h1 : (Lit.string e.1, (DataW.lit (.int .u64 (e.2.1 : Int)) : DataW Unit)) ∈ (es.toList.map (WideElems.rg Try.prog tStr RP)).foldr DataW.insert [] := by rw [← hD]; exact List.mem_map_of_mem he
  obtain ⟨v, hv⟩ := (Maps.fit_keys F) _ (mem_sorted.1 h1)
  obtain ⟨s, rfl⟩ := Maps.keyOf_string_inv Try.underlying9 hv
  simp [keyOf, Try.underlying9, mapKey] at hv
  obtain ⟨h2, h3⟩ := hv
  have h4 : s.data.toList.length = e.1.length := by rw [← h3]
  have h5 : s.size = s.data.toList.length := rfl
  omega

end Disk
end Go.Proofs.Ytpdpjgeoclilhaa
