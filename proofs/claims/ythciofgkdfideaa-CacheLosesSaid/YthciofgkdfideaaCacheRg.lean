/-
  A ring of slots in memory: use and leave.
-/
import Derived.Test.YthciofgkdfideaaCacheMap
namespace Go.Proofs.Ythciofgkdfideaa
open Go.RowKit
namespace Ca
open Num (hid)
open Mem (Bs bs tI tS Chg Row ptr blk_cell blk_free blk_new blk_set blk_other blk_alloc)
structure Rg (w : World) (z : Nat) (B : List Nat) (f : Nat → One) (nx pv : Fn) : Prop where
  nd : (z :: B).Nodup
  lk : Lk nx pv z B z
  sl : ∀ k, k = z ∨ k ∈ B → Sl w f nx pv k
variable {w w' : World} {z s : Nat} {B l r : List Nat} {f f' : Nat → One} {nx pv : Fn}
theorem Rg.lt (h : Rg w z B f nx pv) {k : Nat} (hk : k = z ∨ k ∈ B) : k < w.heap.size := lt_of_block (h.sl k hk)
theorem Rg.apart {F : Nat → Prop} (h : Rg w z B f nx pv) (hc : Chg F w w') (hF : ∀ k, k = z ∨ k ∈ B → ¬ F k) : Rg w' z B f nx pv := ⟨h.nd, h.lk, fun k hk => (h.sl k hk).at hc (hF k hk)⟩
theorem in_mid : s = z ∨ s ∈ l ++ s :: r := Or.inr (List.mem_append_right _ List.mem_cons_self)
theorem in_more {k : Nat} (h : k = z ∨ k ∈ l ++ r) : k = z ∨ k ∈ l ++ s :: r := by
  rcases h with h | h
  · exact Or.inl h
  · rcases List.mem_append.1 h with h | h
    · exact Or.inr (List.mem_append_left _ h)
    · exact Or.inr (List.mem_append_right _ (List.mem_cons_of_mem _ h))
/-- Where the neighbours stand. -/
theorem Rg.near (h : Rg w z (l ++ s :: r) f nx pv) : (pv s = z ∨ pv s ∈ l ++ r) ∧ (nx s = z ∨ nx s ∈ l ++ r) := by
  obtain ⟨h1, h2⟩ := Lk.split.1 h.lk
  refine ⟨h1.pv_mem.imp_right (fun e => List.mem_append_left _ e), h2.nx_mem.imp_right (fun e => List.mem_append_right _ e)⟩
theorem Rg.off (h : Rg w z (l ++ s :: r) f nx pv) {k : Nat} (hk : k = z ∨ k ∈ l ++ r) : k ≠ s := by
  have h2 := (nodup_leave h.nd).2
  rintro rfl
  rcases hk with e | e
  · exact h2 (e ▸ List.mem_cons_self)
  · exact h2 (List.mem_cons_of_mem _ e)
theorem Rg.leave (h : Rg w z (l ++ s :: r) f nx pv) : Calls Try.prog 33 #[ptr s] w fun e w' => e = .returned (.tuple #[]) ∧ (∃ nx' pv', Rg w' z (l ++ r) f nx' pv') ∧ w'.heap[s]? = w.heap[s]? ∧ Chg (fun k => k = z ∨ k ∈ l ++ r) w w' := by
  obtain ⟨hp, hq⟩ := h.near
  refine (leave_any (h.sl s in_mid) (h.sl _ (in_more hp)) (h.sl _ (in_more hq))).mono ?_
  rintro e w' ⟨rfl, hs, hc⟩
  refine ⟨rfl, ⟨_, _, (nodup_leave h.nd).1, h.lk.leave h.nd, fun k hk => hs k (h.sl k (in_more hk))⟩, hc.block s (h.lt in_mid) (fun e => ?_), hc.mono (fun k _ e => ?_)⟩
  · rcases e with e | e
    · exact h.off hp e.symm
    · exact h.off hq e.symm
  · rcases e with rfl | rfl
    · exact hp
    · exact hq
theorem Rg.use_in (h : Rg w z (l ++ s :: r) f nx pv) : Calls Try.prog 25 #[ptr s, ptr z] w fun e w' => e = .returned (.tuple #[]) ∧ (∃ nx' pv', Rg w' z ((l ++ r) ++ [s]) f nx' pv') ∧ Chg (fun k => k = z ∨ k ∈ l ++ s :: r) w w' := by
  obtain ⟨hp, hq⟩ := h.near
  obtain ⟨hn, hs⟩ := nodup_leave h.nd
  have hl : Lk (nx1 nx pv s) (pv1 nx pv s) z (l ++ r) z := h.lk.leave h.nd
  have hy := hl.pv_mem
  have hsz : s ≠ z := fun e => hs (e ▸ List.mem_cons_self)
  refine (use_any (h.sl s in_mid) (h.sl _ (in_more hp)) (h.sl _ (in_more hq)) (h.sl z (Or.inl rfl)) (h.sl _ (in_more hy)) hsz (h.off hy)).mono ?_
  rintro e w' ⟨rfl, hk, hc⟩
  have hm : ∀ k, k ∈ (l ++ r) ++ [s] → k ∈ l ++ s :: r := fun k hk => by
    rcases List.mem_append.1 hk with e | e
    · rcases in_more (z := z) (s := s) (Or.inr e) with rfl | e2
      · exact absurd e (List.nodup_cons.1 hn).1
      · exact e2
    · rw [List.mem_singleton] at e
      rw [e]
      exact List.mem_append_right _ List.mem_cons_self
  refine ⟨rfl, ⟨_, _, ?_, hl.join hn hs, fun k hk2 => hk k (h.sl k (hk2.imp_right (hm k)))⟩, hc.mono (fun k _ e => ?_)⟩
  · have h2 : (z :: ((l ++ r) ++ [s])).Perm (s :: z :: (l ++ r)) := (List.Perm.cons z List.perm_append_comm).trans (List.Perm.swap s z _)
    exact h2.nodup_iff.2 (List.nodup_cons.2 ⟨hs, hn⟩)
  · rcases e with (rfl | rfl) | rfl | rfl | rfl
    · exact in_more hp
    · exact in_more hq
    · exact in_mid
    · exact Or.inl rfl
    · exact in_more hy
theorem upd_id {g : Fn} {a : Nat} (h : g a = a) : upd g a a = g := by
  funext k
  unfold upd
  split
  · rename_i e
    rw [e, h]
  · rfl
/-- A slot that is a ring by itself joins. -/
theorem Rg.use_new (h : Rg w z B f nx pv) (hs : Sl w f nx pv s) (hn : nx s = s) (hp : pv s = s) (hm : s ∉ z :: B) : Calls Try.prog 25 #[ptr s, ptr z] w fun e w' => e = .returned (.tuple #[]) ∧ (∃ nx' pv', Rg w' z (B ++ [s]) f nx' pv') ∧ Chg (fun k => k = z ∨ k ∈ s :: B) w w' := by
  have e1 : nx1 nx pv s = nx := by unfold nx1; rw [hn, hp]; exact upd_id hn
  have e2 : pv1 nx pv s = pv := by unfold pv1; rw [hn, hp]; exact upd_id hp
  have hy := h.lk.pv_mem
  have hsz : s ≠ z := fun e => hm (e ▸ List.mem_cons_self)
  have hys : pv z ≠ s := fun e => by
    rcases hy with h1 | h1
    · exact hsz (e.symm.trans h1)
    · exact hm (List.mem_cons_of_mem _ (e ▸ h1))
  have hps : Sl w f nx pv (pv s) := hp.symm ▸ hs
  have hns : Sl w f nx pv (nx s) := hn.symm ▸ hs
  have hy2 : pv1 nx pv s z ≠ s := by rw [e2]; exact hys
  have hy3 : Sl w f nx pv (pv1 nx pv s z) := by rw [e2]; exact h.sl _ hy
  refine (use_any hs hps hns (h.sl z (Or.inl rfl)) hy3 hsz hy2).mono ?_
  rintro e w' ⟨rfl, hk, hc⟩
  unfold nxU pvU at hk
  rw [e1, e2] at hk
  rw [e2] at hc
  refine ⟨rfl, ⟨_, _, ?_, h.lk.join h.nd hm, fun k hk2 => hk k ?_⟩, hc.mono (fun k _ e => ?_)⟩
  · have h2 : (z :: (B ++ [s])).Perm (s :: z :: B) := (List.Perm.cons z List.perm_append_comm).trans (List.Perm.swap s z _)
    exact h2.nodup_iff.2 (List.nodup_cons.2 ⟨hm, h.nd⟩)
  · rcases hk2 with e | e
    · exact h.sl k (Or.inl e)
    · rcases List.mem_append.1 e with e | e
      · exact h.sl k (Or.inr e)
      · rw [List.mem_singleton] at e
        exact e ▸ hs
  · rw [hp, hn] at e
    rcases e with (e | e) | e | e | e
    · exact Or.inr (e ▸ List.mem_cons_self)
    · exact Or.inr (e ▸ List.mem_cons_self)
    · exact Or.inr (e ▸ List.mem_cons_self)
    · exact Or.inl e
    · rw [e]
      exact hy.imp_right (fun h => List.mem_cons_of_mem _ h)
end Ca
end Go.Proofs.Ythciofgkdfideaa
