/-
  Contracts of the project's files: a cut.
-/
import Derived.Test.YtiomojidfkpagaaDiskSync
import Derived.RegionTactic
namespace Go.Proofs.Ytiomojidfkpagaa
open Go.RowKit
namespace Disk
open Num (hid bcells)

theorem zeroPlaces_one {n : Nat} : ∀ v ∈ (Builtin.zeroCells #[.pointer none, .pointer none, .bool false] n).toList, v.oneCell' = true := by
  intro v hv
  have h0 : ∀ v ∈ (#[.pointer none, .pointer none, .bool false] : Array Value), v.oneCell' = true := by
    intro v hv; simp at hv; rcases hv with rfl | rfl <;> rfl
  unfold Builtin.zeroCells at hv
  obtain ⟨k, hk, rfl⟩ := List.mem_iff_getElem.1 hv
  simp
  have : k % 3 = 0 ∨ k % 3 = 1 ∨ k % 3 = 2 := by omega
  rcases this with e | e | e <;> simp [e] <;> rfl
/-- 'clear' of a part of a row of places. -/
theorem run_clear_places {w : World} {g o n c : Nat} {cur : Array Value} {t : TypeId} (ty : TypeId) (hg : w.heap[g]? = some (.cells cur t (0, 0))) (hn : 0 < n) (hfit : o + n * 3 ≤ cur.size) :
    (Builtin.clear_ #[tPlaces] ty #[.slice (some ⟨g, o, none⟩) n c]).run Try.prog w =
      .ok (.tuple #[]) (w.setRow g (cur.toList.take o ++ (Builtin.zeroCells #[.pointer none, .pointer none, .bool false] n).toList ++ cur.toList.drop (o + n * 3)).toArray) := by
  have hz : (Builtin.zeroCells #[.pointer none, .pointer none, .bool false] n).toList.length = n * 3 := by
    rw [Array.length_toList, size_zeroCells]; rfl
  have hst := run_storeCells_at Try.prog g o t (Builtin.zeroCells #[.pointer none, .pointer none, .bool false] n).toList 0 cur w hg (by rw [hz]; omega) zeroPlaces_one
  rw [hz] at hst
  simp only [Nat.add_zero] at hst
  have e : (Value.agg #[Value.pointer none, Value.pointer none, Value.bool false]).cells = #[.pointer none, .pointer none, .bool false] := rfl
  obtain ⟨k, rfl⟩ : ∃ k, n = k + 1 := ⟨n - 1, by omega⟩
  simp [Builtin.clear_, run_underlying Try.underlying97]
  rw [e, hst]
  simp [Result.andThen]

theorem ownsRow_cut {w : World} {e : TypeId} {g len cap : Nat} {xs : List Value} (h : w.ownsRow 0 e 3 (.slice (some ⟨g, 0, none⟩) len cap) len xs) (i : Nat) (hi : i ≤ len) :
    w.ownsRow 0 e 3 (.slice (some ⟨g, 0, none⟩) i cap) i (xs.take (i * 3)) := by
  rcases h.2 with ⟨h1, _⟩ | ⟨g', cap', cur, hv, _, hb, h1, h2, h3, h4⟩
  · cases h1
  · simp only [Value.slice.injEq, Option.some.injEq, Addr.mk.injEq, and_true, true_and] at hv
    obtain ⟨rfl, rfl⟩ := hv
    refine ⟨by rw [List.length_take, h.1]; omega, Or.inr ⟨g, cap, cur, rfl, Nat.zero_le _, hb, by omega, h2, h3, ?_⟩⟩
    rw [← h4, List.take_take, Nat.min_eq_left (by omega)]

theorem delete_end {g len cap i : Nat} {xs : List Value} {w : World} (h : w.ownsRow 0 tPlace 3 (.slice (some ⟨g, 0, none⟩) len cap) len xs) (hi : i < len) :
    ∃ cur : Array Value, (∀ ty c, (Builtin.clear_ #[tPlaces] ty #[.slice (some ⟨g, i * 3, none⟩) (len - i) c]).run Try.prog w.drew = .ok (.tuple #[]) (w.drew.setRow g cur)) ∧
      (w.drew.setRow g cur).ownsRow 0 tPlace 3 (.slice (some ⟨g, 0, none⟩) i cap) i (xs.take (i * 3)) ∧ Chg (· = g) w (w.drew.setRow g cur) := by
  rcases h.2 with ⟨h1, _⟩ | ⟨g', cap', cur, hv, _, hb, h1, h2, h3, h4⟩
  · cases h1
  · simp only [Value.slice.injEq, Option.some.injEq, Addr.mk.injEq, and_true, true_and] at hv
    obtain ⟨rfl, rfl⟩ := hv
    have hlt := lt_of_block hb
    refine ⟨_, fun ty c => run_clear_places (w := w.drew) ty hb (by omega) (by rw [h3]; omega), ⟨by rw [List.length_take, h.1]; omega, Or.inr ⟨g, cap, _, rfl, Nat.zero_le _, setRow_heap w.drew g cur _ tPlace (0, 0) hb, by omega, h2, ?_, ?_⟩⟩,
      ⟨rfl, rfl, rfl, by simp, fun k hk hF => setRow_other w.drew g k _ hF⟩⟩
    · simp only [List.size_toArray, List.length_append, List.length_take, List.length_drop, Array.length_toList, size_zeroCells]
      show min (i * 3) cur.size + (len - i) * 3 + (cur.size - (i * 3 + (len - i) * 3)) = cap * 3
      omega
    · rw [List.append_assoc, List.take_append_of_le_length (by rw [List.length_take, Array.length_toList]; omega), List.take_take, Nat.min_self, ← h4, List.take_take, Nat.min_eq_left (by omega)]

set_option maxRecDepth 100000 in
theorem delete_some (g len cap i : Nat) (xs : List Value) (w : World) (h : w.ownsRow 0 tPlace 3 (.slice (some ⟨g, 0, none⟩) len cap) len xs) (hi : i < len) :
    Calls Try.prog 120 #[.slice (some ⟨g, 0, none⟩) len cap, .int .i64 i, .int .i64 len] w fun e w' =>
      e = .returned (.slice (some ⟨g, 0, none⟩) i cap) ∧ w'.ownsRow 0 tPlace 3 (.slice (some ⟨g, 0, none⟩) i cap) i (xs.take (i * 3)) ∧ Chg (· = g) w w' := by
  obtain ⟨g', cap', hv, hle, hcap, hg⟩ := row_some h (by omega)
  simp only [Value.slice.injEq, Option.some.injEq, Addr.mk.injEq, and_true, true_and] at hv
  obtain ⟨rfl, rfl⟩ := hv
  unfold maxLen at hcap
  obtain ⟨cur, hr0, hown, hchg⟩ := delete_end h hi
  have H := hid hown
  have HC := hid hchg
  clear h hown hchg
  by_cases hc : cap = len
  · subst hc
    have hr := hr0 0 (cap - i)
    have HR := hid hr0
    clear hr0
    go_enter Try.func120, Try.ntmps120
    go_wp2
    go_region
    all_goals
      go_wp2
      go_ret
      exact ⟨rfl, H.out, HC.out⟩
  · have hr := hr0 0 (cap - i)
    have HR := hid hr0
    clear hr0
    go_enter Try.func120, Try.ntmps120
    go_wp2
    go_region
    all_goals
      go_wp2
      go_ret
      exact ⟨rfl, H.out, HC.out⟩

set_option maxRecDepth 100000 in
theorem delete_none (w : World) :
    Calls Try.prog 120 #[.slice none 0 0, .int .i64 0, .int .i64 0] w fun e w' => e = .returned (.slice none 0 0) ∧ w = w' := by
  go_enter Try.func120, Try.ntmps120
  go_wp2
  go_ret
  exact ⟨rfl, rfl⟩
set_option maxRecDepth 100000 in
theorem delete_same (g len cap : Nat) (w : World) (h1 : len ≤ cap) :
    Calls Try.prog 120 #[.slice (some ⟨g, 0, none⟩) len cap, .int .i64 len, .int .i64 len] w fun e w' => e = .returned (.slice (some ⟨g, 0, none⟩) len cap) ∧ w = w' := by
  go_enter Try.func120, Try.ntmps120
  go_wp2
  go_ret
  exact ⟨rfl, rfl⟩

theorem Chg.file {tag : Nat → Tag} {n : Nam} {f : Nat} {a w : World} (h : Chg (fun k => tag k = .file n ∨ tag k = .row n) a w) (hf : tag f = .file n) (i : Nat) (u : Value) : Chg (fun k => tag k = .file n ∨ tag k = .row n) a (w.setCell ⟨f, i, none⟩ u) :=
  h.setCell (p := ⟨f, i, none⟩) (Or.inr (Or.inl hf)) u
theorem FileTurned.drew {tag : Nat → Tag} {n : Nam} {f : Nat} {F : Fil} {w w' : World} (h : FileTurned tag n f F w w') : FileTurned tag n f F w w'.drew := by
  obtain ⟨tag', v, Q, h1, h2, h3⟩ := h
  exact ⟨tag', v, Q, h1.drew, h2, h3.drew⟩
/-- The file's slice is another one. -/
theorem FileAt.sliced {tag : Nat → Tag} {w w1 : World} {n : Nam} {f : Nat} {F : Fil} {v v' : Value} {Q Q' : Pls} (h : FileAt tag w n f F v Q) (hc : Chg (fun k => tag k = .row n) w w1) (hr : w1.ownsRow 0 tPlace 3 v' Q'.length (Pls.cells Q'))
    (hv : ∀ g, v'.ownBlock = some g → tag g = .row n) (hQ : ∀ x ∈ Q', x ∈ Q) (hl : Q'.length ≤ 16384) :
    FileAt tag (w1.setCell ⟨f, 0, none⟩ v') n f ⟨Q'.map (·.2), F.sure⟩ v' Q' := by
  have hf : tag f ≠ .row n := fun e => by rw [h.tagb] at e; cases e
  have hb : w1.heap[f]? = some (.cells #[v, .bool F.sure] tFile (0, 0)) := hc.at h.blk hf
  have hc2 : Chg (fun k => tag k = .file n ∨ tag k = .row n) w (w1.setCell ⟨f, 0, none⟩ v') := Chg.file (hc.mono (fun _ _ e => Or.inr e)) h.tagb 0 _
  refine ⟨blk_set hb 0 v', h.tagb, ownsRow_setCell_other hr (fun e => hf (hv f e)) _, hv, fun x hx => (h.pls x (hQ x hx)).kept hc2 (fun _ _ => rfl) ?_, rfl, hl⟩
  rintro k (e | e) e' <;> rw [e] at e' <;> cases e'

theorem Pls.cells_take (Q : Pls) (i : Nat) (h : i < Q.length) : Q.cells.take (i * 3) = Pls.cells (Q.take i) := by
  rw [Pls.cells_at_drop Q i h, Nat.mul_comm, List.take_append_of_le_length (by rw [take_len Q i h]; omega), List.take_of_length_le (by rw [take_len Q i h]; omega)]

theorem cut_same {tag : Nat → Tag} {w : World} {n : Nam} {f : Nat} {F : Fil} {v : Value} {Q : Pls} (h : FileAt tag w n f F v Q) {i : Nat} (hi : i = Q.length) :
    FileTurned tag n f (F.cut i) w ((w.setCell ⟨f, 0, none⟩ v).setCell ⟨f, 1, none⟩ (.bool true)) := by
  subst hi
  have h2 := h.sliced (v' := v) (Q' := Q) (Chg.refl _ _) h.row h.tagr (fun x hx => hx) h.len
  have h3 := FileTurned.of h2 (Chg.file (Chg.refl _ _) h.tagb 0 _) (fun _ _ => rfl) h.tagb
  have e : F.cut Q.length = ⟨Q.map (·.2), true⟩ := by unfold Fil.cut; rw [h.ps, List.take_of_length_le (by simp)]
  rw [e]
  exact h3
theorem cut_end {tag : Nat → Tag} {w w1 : World} {n : Nam} {f : Nat} {F : Fil} {g cap : Nat} {Q : Pls} (h : FileAt tag w n f F (.slice (some ⟨g, 0, none⟩) Q.length cap) Q) {i : Nat} (hi : i < Q.length)
    (hr : w1.ownsRow 0 tPlace 3 (.slice (some ⟨g, 0, none⟩) i cap) i (Q.cells.take (i * 3))) (hc : Chg (· = g) w w1) :
    FileTurned tag n f (F.cut i) w ((w1.setCell ⟨f, 0, none⟩ (.slice (some ⟨g, 0, none⟩) i cap)).setCell ⟨f, 1, none⟩ (.bool true)) := by
  have hg := h.tagr g rfl
  have hc' : Chg (fun k => tag k = .row n) w w1 := hc.mono (by rintro k _ rfl; exact hg)
  have hl : (Q.take i).length = i := by rw [List.length_take]; omega
  have hlen := h.len
  rw [Pls.cells_take Q i hi] at hr
  have hv : ∀ k, (Value.slice (some ⟨g, 0, none⟩) i cap).ownBlock = some k → tag k = .row n := by
    intro k hk
    have e : g = k := by simpa [Value.ownBlock] using hk
    rw [← e]; exact hg
  have h2 := h.sliced (v' := .slice (some ⟨g, 0, none⟩) i cap) (Q' := Q.take i) hc' (by rw [hl]; exact hr) hv (fun x hx => List.mem_of_mem_take hx) (by omega)
  have h3 := FileTurned.of h2 (Chg.file (hc'.mono (fun _ _ e => Or.inr e)) h.tagb 0 _) (fun _ _ => rfl) h.tagb
  have e : F.cut i = ⟨(Q.take i).map (·.2), true⟩ := by unfold Fil.cut; rw [h.ps, List.map_take]
  rw [e]
  exact h3

set_option maxRecDepth 100000 in
set_option maxHeartbeats 1000000 in
theorem fcut_any (tag : Nat → Tag) (w : World) (n : Nam) (f : Nat) (F : Fil) (v : Value) (Q : Pls) (h : FileAt tag w n f F v Q) (i : Nat) (hi : i ≤ Q.length) :
    Calls Try.prog 98 #[ptr f, .int .i64 i] w fun e w' => e = .returned (.tuple #[]) ∧ FileTurned tag n f (F.cut i) w w' := by
  have c0 : w.cell? ⟨f, 0, none⟩ = some v := blk_cell h.blk 0
  have c1 : w.cell? ⟨f, 1, none⟩ = some (.bool F.sure) := blk_cell h.blk 1
  have z0 : w.frozen? ⟨f, 0, none⟩ = false := blk_free h.blk 0
  have z1 : w.frozen? ⟨f, 1, none⟩ = false := blk_free h.blk 1
  have hlen := h.len
  rcases h.row.2 with ⟨hv, hn⟩ | ⟨g, cap, cur0, hv, _, _, hn0, hm0, -, -⟩
  · subst hv
    obtain rfl : Q = [] := List.eq_nil_of_length_eq_zero hn
    obtain rfl : i = 0 := by simpa using hi
    have HH := hid h
    clear h hn
    go_enter Try.func98, Try.ntmps98
    go_wp2
    go_region_with ((go_at_call 120; refine (delete_none _).mono ?_; rintro e w' ⟨rfl, rfl⟩))
    all_goals
      go_wp2
      go_end0
      exact ⟨rfl, (cut_same HH.out rfl).drew⟩
  · subst hv
    by_cases hlt : i < Q.length
    · have hrow : w.drew.ownsRow 0 tPlace 3 (.slice (some ⟨g, 0, none⟩) Q.length cap) Q.length Q.cells := h.row
      have hf : f < w.drew.heap.size := lt_of_block h.blk
      have hne : ¬ f = g := fun e => by have h1 := h.tagb; rw [e, h.tagr g rfl] at h1; cases h1
      have HH := hid h
      clear h
      go_enter Try.func98, Try.ntmps98
      go_wp2
      go_region_with ((go_at_call 120; refine (delete_some g Q.length cap i _ w.drew hrow hlt).mono ?_; rintro e w' ⟨rfl, hr, hc⟩; have d0 := (hc.cell (i := 0) hf hne).trans c0; have d1 := (hc.cell (i := 1) hf hne).trans c1; have y0 := (hc.frozen (i := 0) hf hne).trans z0; have y1 := (hc.frozen (i := 1) hf hne).trans z1))
      all_goals
        have HR := hid hr
        have HC := hid hc
        clear hr hc
        go_wp2
        go_end0
        exact ⟨rfl, cut_end HH.out hlt HR.out (((Chg.refl _ w).drew).trans HC.out)⟩
    · obtain rfl : i = Q.length := by omega
      have HH := hid h
      clear h
      go_enter Try.func98, Try.ntmps98
      go_wp2
      go_region_with ((go_at_call 120; refine (delete_same g Q.length cap _ hn0).mono ?_; rintro e w' ⟨rfl, rfl⟩))
      all_goals
        go_wp2
        go_end0
        exact ⟨rfl, (cut_same HH.out rfl).drew⟩

end Disk
end Go.Proofs.Ytiomojidfkpagaa
