/-
  Put together: DiskActsAt, DiskSees, DiskSame, DiskOnes.
-/
import Derived.Test.YtgmbiiocjhkpdaaGreatDiskDoesW
import Derived.BigQuiet
import Derived.Deep.QuietTactic
/-
  Acts that came in; rows of acts on a plain disk.
-/
namespace Go.Proofs.YtgmbiiocjhkpdaaGreat
open Go.RowKit
namespace Disk
open Num (hid bcells)

/-- A slice of acts, as it is read. -/
def ActsAt (N : Nat) (w : World) (v : Value) (l : List ActM) : Prop :=
  ((∃ ao cap, v = .slice ao 0 cap ∧ l = []) ∨ ∃ b o cap, v = .slice (some ⟨b, o, none⟩) l.length cap ∧ b < N ∧ ∀ j (h : j < l.length) i, i < 6 → w.cell? ⟨b, o + j * 6 + i, none⟩ = l[j].cells[i]?) ∧ (∀ x ∈ l, ActOk N w x) ∧ l.length ≤ maxLen
theorem IntsAt.onOld {w w' : World} {N : Nat} {v : Value} {l : List Int} (h : IntsAt w v l) (hb : Below N w w') (ho : ∀ b o n cap, v = .slice (some ⟨b, o, none⟩) n cap → n ≠ 0 → b < N) : IntsAt w' v l := by
  rcases h with h | ⟨b, o, cap, hv, hb0, hl⟩
  · exact Or.inl h
  · exact Or.inr ⟨b, o, cap, hv, Nat.lt_of_lt_of_le hb0 hb.size, fun j hj => (hb.cell (p := ⟨b, o + j, none⟩) (ho b o _ cap hv (by omega))).trans (hl j hj)⟩
theorem ActOk.kept {N : Nat} {w w' : World} {x : ActM} (h : ActOk N w x) (hb : Below N w w') : ActOk N w' x := ⟨h.name, h.n, h.len, h.ints.onOld hb h.old, h.few, h.old⟩
theorem ActsAt.kept {N : Nat} {w w' : World} {v : Value} {l : List ActM} (h : ActsAt N w v l) (hb : Below N w w') : ActsAt N w' v l := by
  obtain ⟨h1, h2, h3⟩ := h
  refine ⟨?_, fun x hx => (h2 x hx).kept hb, h3⟩
  rcases h1 with h1 | ⟨b, o, cap, hv, hb0, hl⟩
  · exact Or.inl h1
  · exact Or.inr ⟨b, o, cap, hv, hb0, fun j hj i hi => (hb.cell (p := ⟨b, o + j * 6 + i, none⟩) hb0).trans (hl j hj i hi)⟩

def playM (l : List ActM) (M : Mod) : Mod := l.foldl (fun M x => (M.does x).2.2) M
theorem playM_next (l : List ActM) (M : Mod) (k : Nat) (h : k < l.length) : playM (l.take (k + 1)) M = ((playM (l.take k) M).does l[k]).2.2 := by
  unfold playM
  rw [List.take_succ_eq_append_getElem h, List.foldl_append]
  rfl
def filledM (l : List ActM) : Mod := (((playM (l.take 80) (Mod.new 16384)).on []).arm 0 0 0).room 16384

end Disk
end Go.Proofs.YtgmbiiocjhkpdaaGreat

/-
  A disk of the call's own beside other memory: what the call has made besides it stays.
-/
namespace Go.Proofs.YtgmbiiocjhkpdaaGreat
open Go.RowKit
namespace Disk
open Num (hid bcells)

/-- The disk at d is M; whatever the others are (O), they are none of its own. -/
def Sees (O : Nat → Prop) (d m : Nat) (M : Mod) (w : World) : Prop := ∃ tag L, DiskAt tag w d m M.c L ∧ dirOf L = M.fs ∧ (∀ k, O k → tag k = .other) ∧ ∀ k, O k → k < w.heap.size
/-- What the others are stays. -/
def Stays (O : Nat → Prop) (w w' : World) : Prop := Chg (fun k => ¬ O k) w w'

theorem Stays.refl (O : Nat → Prop) (w : World) : Stays O w w := Chg.refl _ _
theorem Stays.trans {O : Nat → Prop} {a b c : World} (h : Stays O a b) (k : Stays O b c) : Stays O a c := Chg.trans h k
theorem Stays.at {O : Nat → Prop} {w w' : World} (h : Stays O w w') {b : Nat} {o : Obj} (hb : w.heap[b]? = some o) (hO : O b) : w'.heap[b]? = some o := Chg.at h hb (fun h => h hO)
theorem Sees.of_out {O : Nat → Prop} {d m : Nat} {tag : Nat → Tag} {M : Mod} {w w' : World} (h : Out tag d m M w w') (ht : ∀ k, O k → tag k = .other) (hN : ∀ k, O k → k < w.heap.size) : Sees O d m M w' ∧ Stays O w w' := by
  obtain ⟨tag', L', h1, h2, h3, h4⟩ := h
  refine ⟨⟨tag', L', h1, h2, fun k hk => (h3 k (hN k hk)).trans (ht k hk), fun k hk => Nat.lt_of_lt_of_le (hN k hk) h4.size⟩, h4.mono ?_⟩
  intro k _ hm hO
  exact hm.1 (ht k hO)
theorem Sees.turned {O : Nat → Prop} {d m : Nat} {M : Mod} {w w' : World} {c' : Ctl} (h : Sees O d m M w) (ht : Turns m d c' w w') (ok : M.c.Ok → c'.Ok) : Sees O d m ⟨c', M.fs⟩ w' ∧ Stays O w w' := by
  obtain ⟨tag, L, D, hL, hN, hs⟩ := h
  have := Out.same (D.turned ht (ok D.root.ok)) ht.2
  rw [hL] at this
  exact Sees.of_out this hN hs
/-- What was made since the disk was turned last is no part of it. -/
theorem Sees.more {O : Nat → Prop} {d m : Nat} {M : Mod} {w w' : World} (h : Sees O d m M w) (hb : Below w.heap.size w w') : Sees (fun k => O k ∨ (w.heap.size ≤ k ∧ k < w'.heap.size)) d m M w' := by
  obtain ⟨tag, L, D, hL, hN, hs⟩ := h
  refine ⟨norm tag w.heap.size, L, D.kept (F := fun _ => False) (Chg.of_below hb) (fun k hk => norm_lt tag hk) (fun _ h => h.elim), hL, ?_, ?_⟩
  · rintro k (hk | ⟨hk, _⟩)
    · rw [norm_lt tag (hs k hk)]; exact hN k hk
    · exact norm_ge tag hk
  · rintro k (hk | ⟨_, hk⟩)
    · exact Nat.lt_of_lt_of_le (hs k hk) hb.size
    · exact hk
theorem Sees.kept {O : Nat → Prop} {d m : Nat} {M : Mod} {w w' : World} (h : Sees O d m M w) (hb : Below w.heap.size w w') : Sees O d m M w' := by
  obtain ⟨tag, L, D, hL, hN, hs⟩ := h
  exact ⟨tag, L, D.kept (F := fun _ => False) (Chg.of_below hb) (fun _ _ => rfl) (fun _ h => h.elim), hL, hN, fun k hk => Nat.lt_of_lt_of_le (hs k hk) hb.size⟩
theorem Sees.fewer {O O' : Nat → Prop} {d m : Nat} {M : Mod} {w : World} (h : Sees O d m M w) (hO : ∀ k, O' k → O k) : Sees O' d m M w := by
  obtain ⟨tag, L, D, hL, hN, hs⟩ := h
  exact ⟨tag, L, D, hL, fun k hk => hN k (hO k hk), fun k hk => hs k (hO k hk)⟩
theorem Sees.of_has {N d m : Nat} {M : Mod} {w : World} (h : Has N d m M w) : Sees (fun k => k < N) d m M w := by
  obtain ⟨tag, L, D, hL, hN, hs⟩ := h
  exact ⟨tag, L, D, hL, hN, fun k hk => Nat.lt_of_lt_of_le hk hs⟩

section
variable {O : Nat → Prop} {d m : Nat} {M : Mod} {w : World}
theorem write_sees (h : Sees O d m M w) (s : ByteArray) (hs : s.size ≤ maxLen) (i : Int) (l : ByteArray) (hl : l.size ≤ maxLen) :
    Calls Tryz.prog 56 #[ptr d, .string s, .int .i64 i, .string l] w fun e w' => e = .returned (.int .i64 (M.write s.data.toList i l.data.toList).1) ∧ Sees O d m (M.write s.data.toList i l.data.toList).2 w' ∧ Stays O w w' := by
  obtain ⟨tag, L, D, hL, hN, hz⟩ := h
  refine (write_any tag w d m M.c L D s hs i l hl).mono ?_
  rintro e w' ⟨rfl, ho⟩
  rw [hL] at ho ⊢
  exact ⟨rfl, Sees.of_out ho hN hz⟩
theorem sync_sees (h : Sees O d m M w) (s : ByteArray) (hs : s.size ≤ maxLen) :
    Calls Tryz.prog 65 #[ptr d, .string s] w fun e w' => e = .returned (.int .i64 (M.sync s.data.toList).1) ∧ Sees O d m (M.sync s.data.toList).2 w' ∧ Stays O w w' := by
  obtain ⟨tag, L, D, hL, hN, hz⟩ := h
  refine (sync_any tag w d m M.c L D s hs).mono ?_
  rintro e w' ⟨rfl, ho⟩
  rw [hL] at ho ⊢
  exact ⟨rfl, Sees.of_out ho hN hz⟩
theorem cut_sees (h : Sees O d m M w) (s : ByteArray) (hs : s.size ≤ maxLen) (i : Int) :
    Calls Tryz.prog 69 #[ptr d, .string s, .int .i64 i] w fun e w' => e = .returned (.int .i64 (M.cut s.data.toList i).1) ∧ Sees O d m (M.cut s.data.toList i).2 w' ∧ Stays O w w' := by
  obtain ⟨tag, L, D, hL, hN, hz⟩ := h
  refine (cut_any tag w d m M.c L D s hs i).mono ?_
  rintro e w' ⟨rfl, ho⟩
  rw [hL] at ho ⊢
  exact ⟨rfl, Sees.of_out ho hN hz⟩
theorem drop_sees (h : Sees O d m M w) (s : ByteArray) (hs : s.size ≤ maxLen) :
    Calls Tryz.prog 71 #[ptr d, .string s] w fun e w' => e = .returned (.int .i64 (M.drop s.data.toList).1) ∧ Sees O d m (M.drop s.data.toList).2 w' ∧ Stays O w w' := by
  obtain ⟨tag, L, D, hL, hN, hz⟩ := h
  refine (drop_any tag w d m M.c L D s hs).mono ?_
  rintro e w' ⟨rfl, ho⟩
  rw [hL] at ho ⊢
  exact ⟨rfl, Sees.of_out ho hN hz⟩
theorem load_sees (h : Sees O d m M w) (s : ByteArray) (hs : s.size ≤ maxLen) (l : ByteArray) (hl : l.size ≤ maxLen) :
    Calls Tryz.prog 43 #[ptr d, .string s, .string l] w fun e w' => e = .returned (.int .i64 (M.load s.data.toList l.data.toList).1) ∧ Sees O d m (M.load s.data.toList l.data.toList).2 w' ∧ Stays O w w' := by
  obtain ⟨tag, L, D, hL, hN, hz⟩ := h
  refine (load_any tag w d m M.c L D s hs l hl).mono ?_
  rintro e w' ⟨rfl, ho⟩
  rw [hL] at ho ⊢
  exact ⟨rfl, Sees.of_out ho hN hz⟩
theorem read_sees (h : Sees O d m M w) (s : ByteArray) (hs : s.size ≤ maxLen) (i : Int) (hi : i ≤ 9223372036854775807) :
    Calls Tryz.prog 67 #[ptr d, .string s, .int .i64 i] w fun e w' => e = .returned (.tuple #[.string ⟨(M.read s.data.toList i).1.toArray⟩, .int .i64 (M.read s.data.toList i).2.1]) ∧ Sees O d m (M.read s.data.toList i).2.2 w' ∧ Stays O w w' := by
  obtain ⟨tag, L, D, hL, hN, hz⟩ := h
  refine (read_any tag w d m M.c L D s hs i hi).mono ?_
  rintro e w' ⟨rfl, ho⟩
  rw [hL] at ho ⊢
  exact ⟨rfl, Sees.of_out ho hN hz⟩
theorem off_sees (h : Sees O d m M w) :
    Calls Tryz.prog 25 #[ptr d] w fun e w' => e = .returned (.tuple #[]) ∧ Sees O d m M.off w' ∧ Stays O w w' := by
  have h0 := h
  obtain ⟨tag, L, D, hL, hN, hz⟩ := h
  refine (off_any d m M.c w D.root.blk).mono ?_
  rintro e w' ⟨rfl, ht⟩
  exact ⟨rfl, h0.turned ht (fun o => o.offed)⟩
theorem arm_sees (h : Sees O d m M w) (a k n : Int) (ha : a ≤ 9223372036854775807) (hn : n ≤ 9223372036854775807) :
    Calls Tryz.prog 23 #[ptr d, .int .i64 a, .int .i64 k, .int .i64 n] w fun e w' => e = .returned (.tuple #[]) ∧ Sees O d m (M.arm a k n) w' ∧ Stays O w w' := by
  have h0 := h
  obtain ⟨tag, L, D, hL, hN, hz⟩ := h
  refine (arm_any d m M.c a k n w D.root.blk).mono ?_
  rintro e w' ⟨rfl, ht⟩
  exact ⟨rfl, h0.turned ht (fun o => o.armed a k n ha hn)⟩
theorem room_sees (h : Sees O d m M w) (n : Int) :
    Calls Tryz.prog 47 #[ptr d, .int .i64 n] w fun e w' => e = .returned (.tuple #[]) ∧ Sees O d m (M.room n) w' ∧ Stays O w w' := by
  have h0 := h
  obtain ⟨tag, L, D, hL, hN, hz⟩ := h
  refine (room_any d m M.c n w D.root.blk).mono ?_
  rintro e w' ⟨rfl, ht⟩
  exact ⟨rfl, h0.turned ht (fun o => o.roomed n)⟩
theorem on_sees (h : Sees O d m M w) (fv : Value) (l : List Int) (hI : IntsAt w fv l) (hl : l.length ≤ maxLen) (hv : ∀ b o n cap, fv = .slice (some ⟨b, o, none⟩) n cap → n ≠ 0 → O b) :
    Calls Tryz.prog 27 #[ptr d, fv] w fun e w' => e = .returned (.tuple #[]) ∧ Sees O d m (M.on l) w' ∧ Stays O w w' := by
  obtain ⟨tag, L, D, hL, hN, hz⟩ := h
  refine (on_any tag _ d m M.c L D _ l hI hl (fun b o n cap e hn => hN b (hv b o n cap e hn))).mono ?_
  rintro e w' ⟨rfl, ho⟩
  rw [hL] at ho
  exact ⟨rfl, Sees.of_out ho hN hz⟩
theorem ops_sees (h : Sees O d m M w) : Calls Tryz.prog 34 #[ptr d] w fun e w' => e = .returned (.int .i64 M.c.ops) ∧ w = w' := by
  obtain ⟨tag, L, D, hL, hN, hz⟩ := h
  exact ops_any d m M.c w D.root.blk
theorem size_sees (h : Sees O d m M w) (s : ByteArray) (hs : s.size ≤ maxLen) : Calls Tryz.prog 38 #[ptr d, .string s] w fun e w' => e = .returned (.int .i64 (M.size s.data.toList)) ∧ w = w' := by
  obtain ⟨tag, L, D, hL, hN, hz⟩ := h
  refine (size_any tag w d m M.c L D s hs).mono ?_
  rintro e w' ⟨rfl, rfl⟩
  refine ⟨ret_i ?_, rfl⟩
  unfold sizeN Mod.size
  rw [← hL, dirOf_get]
  cases get? L s.data.toList <;> rfl
theorem bytes_sees (h : Sees O d m M w) (s : ByteArray) (hs : s.size ≤ maxLen) :
    Calls Tryz.prog 36 #[ptr d, .string s] w fun e w' => e = .returned (.string ⟨(M.bytes s.data.toList).toArray⟩) ∧ Below w.heap.size w w' := by
  obtain ⟨tag, L, D, hL, hN, hz⟩ := h
  refine (bytes_any tag w d m M.c L D s hs).mono ?_
  rintro e w' ⟨rfl, hb⟩
  rw [hL]
  exact ⟨rfl, hb⟩
theorem names_sees (h : Sees O d m M w) :
    Calls Tryz.prog 74 #[ptr d] w fun e w' => ∃ v, e = .returned v ∧ w'.ownsRow w.heap.size tStr 1 v M.names.length (M.names.map fun l => Value.string ⟨l.toArray⟩) ∧ Below w.heap.size w w' := by
  obtain ⟨tag, L, D, hL, hN, hz⟩ := h
  refine (names_any tag w d m M.c L D).mono ?_
  rintro e w' ⟨v, rfl, hr, hb⟩
  have e1 : M.names = L.map (·.1) := by unfold Mod.names; rw [← hL]; unfold dirOf; rw [List.map_map]; rfl
  rw [e1, List.length_map]
  exact ⟨v, rfl, hr, hb⟩
end

end Disk
end Go.Proofs.YtgmbiiocjhkpdaaGreat

/-
  Contract of the statements' own 'same': two slices of names.
-/
namespace Go.Proofs.YtgmbiiocjhkpdaaGreat
open Go.RowKit
namespace Disk
open Num (hid bcells)

/-- A slice of strings, as it is read. -/
def StrsAt (w : World) (v : Value) (l : List Nam) : Prop :=
  ((∃ ao cap, v = .slice ao 0 cap ∧ l = []) ∨ ∃ b o cap, v = .slice (some ⟨b, o, none⟩) l.length cap ∧ ∀ j (h : j < l.length), w.cell? ⟨b, o + j, none⟩ = some (.string ⟨l[j].toArray⟩)) ∧ l.length ≤ 1000000
theorem StrsAt.of_row {w : World} {base : Nat} {v : Value} {l : List Nam} (h : w.ownsRow base tStr 1 v l.length (l.map fun l => Value.string ⟨l.toArray⟩)) (hl : l.length ≤ 1000000) : StrsAt w v l := by
  refine ⟨?_, hl⟩
  rcases h.2 with ⟨rfl, hn⟩ | ⟨g, cap, cur, rfl, _⟩
  · exact Or.inl ⟨none, 0, rfl, List.eq_nil_of_length_eq_zero hn⟩
  · refine Or.inr ⟨g, 0, cap, rfl, fun j hj => ?_⟩
    rw [Nat.zero_add, World.ownsRow.cellAt h j (by omega), List.getElem?_map, List.getElem?_eq_getElem hj]; rfl
theorem StrsAt.len {w : World} {v : Value} {l : List Nam} (h : StrsAt w v l) : ∃ ao cap, v = .slice ao l.length cap := by
  rcases h.1 with ⟨ao, cap, rfl, rfl⟩ | ⟨b, o, cap, rfl, _⟩
  · exact ⟨ao, cap, rfl⟩
  · exact ⟨_, cap, rfl⟩
theorem StrsAt.at {w : World} {v : Value} {l : List Nam} (h : StrsAt w v l) (hl : 0 < l.length) : ∃ b o cap, v = .slice (some ⟨b, o, none⟩) l.length cap ∧ ∀ j (h : j < l.length), w.cell? ⟨b, o + j, none⟩ = some (.string ⟨l[j].toArray⟩) := by
  rcases h.1 with ⟨ao, cap, rfl, rfl⟩ | h
  · exact absurd hl (Nat.lt_irrefl _)
  · exact h

end Disk
end Go.Proofs.YtgmbiiocjhkpdaaGreat

/-
  append of one int, of one string, to a slice of the call's own.
-/
namespace Go.Proofs.YtgmbiiocjhkpdaaGreat
open Go.RowKit
namespace Disk
open Num (hid bcells)

/-- 'append(xs, x)', x one cell in a block. -/
theorem append_one {w : World} {base : Nat} {v : Value} {n : Nat} {xs : List Value} (t e : TypeId) (i : TypeInfo) (z : Value) (bytes : Nat) (ht : Tryz.prog.underlying t = some (.slice e)) (hi : Tryz.prog.info? e = some i) (h0 : i.zero = some z) (h1 : i.size = 1) (h2 : i.bytes = bytes) (hz : z.cells.size = 1)
    (hby : bytes ≤ 16) (hown : w.ownsRow base e 1 v n xs) (hb : base ≤ w.heap.size) {a : Nat} {x : Value} (hc : w.heap[a]? = some (.cells #[x] e (0, 0))) (hx : x.oneCell' = true) (hn : n ≤ 1000000) :
    ∃ v' w', (Builtin.append_ #[t, t] t #[v, .slice (some ⟨a, 0, none⟩) 1 1]).run Tryz.prog w = .ok v' w' ∧ w'.ownsRow base e 1 v' (n + 1) (xs ++ [x]) ∧ w.grownBy w' v.ownBlock := by
  obtain ⟨v', w', hr, ho, hg, -⟩ := run_append_own (P := Tryz.prog) w base t t e i z 1 bytes ht hi h0 h1 h2 hz (by decide) v n xs hown ⟨a, 0, none⟩ 1 1 [x] rfl (by
    intro j u hj
    match j, hj with
    | 0, hj => simp at hj; subst hj; exact blk_cell hc 0) (by
    intro u hu; simp at hu; subst hu; exact hx) (by unfold maxLen; omega) (by have := Nat.mul_le_mul_left (n + 1) hby; omega) hb
  exact ⟨v', w', hr, ho, hg⟩
theorem intInfo : ∃ i, Tryz.prog.info? 3 = some i ∧ i.zero = some (.int .i64 0) ∧ i.size = 1 ∧ i.bytes = 8 := by
  have h : (Tryz.prog.info? 3).map (fun i => (i.zero, i.size, i.bytes)) = some (some (.int .i64 0), 1, 8) := by kernel_rfl
  cases e : Tryz.prog.info? 3 with
  | none => rw [e] at h; cases h
  | some i =>
    rw [e] at h
    simp only [Option.map_some, Option.some.injEq, Prod.mk.injEq] at h
    exact ⟨i, rfl, h.1, h.2.1, h.2.2⟩
theorem strInfo : ∃ i, Tryz.prog.info? tStr = some i ∧ i.zero = some (.string ⟨#[]⟩) ∧ i.size = 1 ∧ i.bytes = 16 := by
  have h : (Tryz.prog.info? tStr).map (fun i => (i.zero, i.size, i.bytes)) = some (some (.string ⟨#[]⟩), 1, 16) := by kernel_rfl
  cases e : Tryz.prog.info? tStr with
  | none => rw [e] at h; cases h
  | some i =>
    rw [e] at h
    simp only [Option.map_some, Option.some.injEq, Prod.mk.injEq] at h
    exact ⟨i, rfl, h.1, h.2.1, h.2.2⟩
/-- 'append(sizes, n)'. -/
theorem append_int {w : World} {base : Nat} {v : Value} {n : Nat} {xs : List Value} (hown : w.ownsRow base 3 1 v n xs) (hb : base ≤ w.heap.size) {a : Nat} {x : Int} (hc : w.heap[a]? = some (.cells #[.int .i64 x] 3 (0, 0))) (hn : n ≤ 1000000) :
    ∃ v' w', (Builtin.append_ #[35, 35] 35 #[v, .slice (some ⟨a, 0, none⟩) 1 1]).run Tryz.prog w = .ok v' w' ∧ w'.ownsRow base 3 1 v' (n + 1) (xs ++ [.int .i64 x]) ∧ w.grownBy w' v.ownBlock := by
  obtain ⟨i, hi, h0, h1, h2⟩ := intInfo
  exact append_one 35 3 i _ 8 Tryz.underlying35 hi h0 h1 h2 rfl (by decide) hown hb hc rfl hn
/-- 'append(bytes, s)'. -/
theorem append_str {w : World} {base : Nat} {v : Value} {n : Nat} {xs : List Value} (hown : w.ownsRow base tStr 1 v n xs) (hb : base ≤ w.heap.size) {a : Nat} {x : ByteArray} (hc : w.heap[a]? = some (.cells #[.string x] tStr (0, 0))) (hn : n ≤ 1000000) :
    ∃ v' w', (Builtin.append_ #[102, 102] 102 #[v, .slice (some ⟨a, 0, none⟩) 1 1]).run Tryz.prog w = .ok v' w' ∧ w'.ownsRow base tStr 1 v' (n + 1) (xs ++ [.string x]) ∧ w.grownBy w' v.ownBlock := by
  obtain ⟨i, hi, h0, h1, h2⟩ := strInfo
  exact append_one 102 tStr i _ 16 Tryz.underlying102 hi h0 h1 h2 rfl (by decide) hown hb hc rfl hn

end Disk
end Go.Proofs.YtgmbiiocjhkpdaaGreat
