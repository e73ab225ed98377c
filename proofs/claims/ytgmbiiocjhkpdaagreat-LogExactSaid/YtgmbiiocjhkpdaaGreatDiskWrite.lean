/-
  Contract of the project's disk: Write.
-/
import Derived.Test.YtgmbiiocjhkpdaaGreatDiskTop
namespace Go.Proofs.YtgmbiiocjhkpdaaGreat
open Go.RowKit
namespace Disk
open Num (hid bcells)

/-- What was handed to a write, in blocks of its own. -/
structure WBox (w : World) (d : Nat) (s : ByteArray) (i : Int) (l : ByteArray) (a1 a2 a3 a4 : Nat) : Prop where
  b1 : w.heap[a1]? = some (.cells #[ptr d] 24 (0, 0))
  b2 : w.heap[a2]? = some (.cells #[.string s] tStr (0, 0))
  b3 : w.heap[a3]? = some (.cells #[.int .i64 i] 3 (0, 0))
  b4 : w.heap[a4]? = some (.cells #[.string l] tStr (0, 0))
theorem WBox.kept {w w' : World} {d : Nat} {s : ByteArray} {i : Int} {l : ByteArray} {a1 a2 a3 a4 : Nat} {F : Nat → Prop} (h : WBox w d s i l a1 a2 a3 a4) (hc : Chg F w w') (h1 : ¬ F a1) (h2 : ¬ F a2) (h3 : ¬ F a3) (h4 : ¬ F a4) : WBox w' d s i l a1 a2 a3 a4 :=
  ⟨hc.at h.b1 h1, hc.at h.b2 h2, hc.at h.b3 h3, hc.at h.b4 h4⟩
theorem WBox.on {w w' : World} {d : Nat} {s : ByteArray} {i : Int} {l : ByteArray} {a1 a2 a3 a4 : Nat} (h : WBox w d s i l a1 a2 a3 a4) (hb : Below w.heap.size w w') : WBox w' d s i l a1 a2 a3 a4 :=
  h.kept (Chg.of_below (F := fun _ => False) hb) (fun h => h) (fun h => h) (fun h => h) (fun h => h)

theorem del_del {α : Type} (L : List (Nam × α)) (n : Nam) : del (del L n) n = del L n := by
  unfold del
  rw [List.filter_filter]
  exact List.filter_congr fun e _ => by cases (e.1 == n) <;> rfl
theorem del_insB {α : Type} (n : Nam) (a : α) : ∀ L : List (Nam × α), del (insB (n, a) L) n = del L n
  | [] => by simp [insB, del]
  | y :: r => by
    have ih := del_insB n a r
    simp only [insB]
    split
    · unfold del; rw [List.filter_cons_of_neg (by simp)]
    · unfold del at ih ⊢
      by_cases hy : y.1 = n
      · rw [List.filter_cons_of_neg (by simp [hy]), List.filter_cons_of_neg (by simp [hy]), ih]
      · rw [List.filter_cons_of_pos (by simp [hy]), List.filter_cons_of_pos (by simp [hy]), ih]
theorem ins_ins {α : Type} (L : List (Nam × α)) (n : Nam) (a b : α) : ins (ins L n a) n b = ins L n b := by
  unfold ins
  rw [del_insB, del_del]
theorem get?_insB {α : Type} (n : Nam) (a : α) : ∀ L : List (Nam × α), (∀ e ∈ L, e.1 ≠ n) → get? (insB (n, a) L) n = some a
  | [], _ => by simp [insB, get?]
  | y :: r, h => by
    have ih := get?_insB n a r (fun e he => h e (List.mem_cons_of_mem _ he))
    have hy := h y (List.mem_cons_self ..)
    simp only [insB]
    split
    · simp [get?]
    · unfold get? at ih ⊢
      rw [List.find?_cons_of_neg (by simp [hy])]
      exact ih
theorem get?_ins {α : Type} (L : List (Nam × α)) (n : Nam) (a : α) : get? (ins L n a) n = some a := get?_insB n a _ (fun _ he => (mem_del he).2)
theorem get?_none {α : Type} {L : List (Nam × α)} {n : Nam} (h : get? L n = none) : ∀ e ∈ L, e.1 ≠ n := by
  intro e he hn
  unfold get? at h
  rw [Option.map_eq_none_iff, List.find?_eq_none] at h
  exact h e he (by simp [hn])

/-- A file is put. -/
theorem DiskAt.putted {tag : Nat → Tag} {w w' : World} {d m : Nat} {c : Ctl} {L : Ents} (D : DiskAt tag w d m c L) {n : Nam} {b : Nat} {F : Fil} (hf : ∃ v Q, FileAt tag w n b F v Q) (ho : Owns w' m (ins L n (b, F))) (ht : w.mapTurned w' m)
    (hl : (ins L n (b, F)).length ≤ 8) : DiskAt tag w' d m c (ins L n (b, F)) ∧ Chg (· = m) w w' := by
  have hg := ht.grown
  have hc : Chg (· = m) w w' := (Chg.refl _ w).grown hg (fun k hk => Or.inr (by cases hk; rfl))
  have hdm : ¬ d = m := fun e => by have h1 := D.root.tagd; rw [e, D.root.tagm] at h1; cases h1
  have hF : ∀ k, k = m → tag k ≠ .sec ∧ ∀ n, tag k ≠ .file n ∧ tag k ≠ .row n := by
    rintro k rfl; rw [D.root.tagm]; exact ⟨by simp, fun n => ⟨by simp, by simp⟩⟩
  refine ⟨⟨D.root.kept D.mlt hc (fun _ _ => rfl) hdm, ho, ?_, hl⟩, hc⟩
  intro e he
  rcases mem_ins he with rfl | ⟨he, -⟩
  · obtain ⟨v, Q, h⟩ := hf
    exact ⟨v, Q, h.kept hc (fun _ _ => rfl) (fun k hk => ⟨(hF k hk).1, (hF k hk).2 n⟩)⟩
  · exact (D.files.kept hc (fun _ _ => rfl) hF) e he

/-- The number of a file's places, whatever its slice. -/
theorem len_run {w : World} {v : Value} {n : Nat} {xs : List Value} (h : w.ownsRow 0 tPlace 3 v n xs) (W : World) : (Builtin.len_ #[tPlaces] 3 #[v]).run Tryz.prog W = .ok (.int .i64 n) W := by
  rcases h.2 with ⟨rfl, rfl⟩ | ⟨g, cap, cur, rfl, _⟩
  · simp [Builtin.len_, run_underlying Tryz.underlying118, goInt, Result.andThen]
  · simp [Builtin.len_, run_underlying Tryz.underlying118, goInt, Result.andThen]

/-- Behind the put: the file is written. -/
theorem wrote_out {tag : Nat → Tag} {w w4 w5 : World} {d m : Nat} {c : Ctl} {L : Ents} {n : Nam} {b : Nat} {F F' : Fil} (D4 : DiskAt tag w4 d m c (ins L n (b, F))) (hc : Chg (Mine tag) w w4) (h : FileTurned tag n b F' w4 w5) :
    Out tag d m ⟨c, ins (dirOf L) n F'⟩ w w5 := by
  obtain ⟨tag', L', h1, h2, h3, h4⟩ := D4.filed (get?_ins L n (b, F)) h
  refine ⟨tag', L', h1, ?_, fun k hk => h3 k (Nat.lt_of_lt_of_le hk hc.size), hc.trans h4⟩
  rw [h2, dirOf_ins, ins_ins]

theorem fwrite_any (tag : Nat → Tag) (w : World) (n : Nam) (f : Nat) (F : Fil) (v : Value) (Q : Pls) (h : FileAt tag w n f F v Q) (i : Nat) (hi : i ≤ Q.length) (hr : i = Q.length → Q.length < 16384) (s : ByteArray) (hs : s.size = 256) :
    Calls Tryz.prog 95 #[ptr f, .int .i64 i, .string s] w fun e w' => e = .returned (.tuple #[]) ∧ FileTurned tag n f (F.write i s.data.toList) w w' := by
  by_cases e : i = Q.length
  · subst e; exact fwrite_new tag w n f F v Q h (hr rfl) s hs
  · exact fwrite_old tag w n f F v Q h i (by omega) s hs
theorem lens_mem {L : Ents} {e : Nam × (Nat × Fil)} (h : e ∈ L) : e.2.2.ps.length ≤ lens L := by
  induction L with
  | nil => cases h
  | cons x r ih =>
    rw [lens_cons]
    rcases List.mem_cons.1 h with rfl | h
    · omega
    · have := ih h; omega

end Disk
end Go.Proofs.YtgmbiiocjhkpdaaGreat
