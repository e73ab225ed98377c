/-
  append of one int, of one string, to a slice of the call's own.
-/
import Derived.Test.YtfgaoopgnpigjaaDiskSame
namespace Go.Proofs.Ytfgaoopgnpigjaa
open Go.RowKit
namespace Disk
open Num (hid bcells)

/-- 'append(xs, x)', x one cell in a block. -/
theorem append_one {w : World} {base : Nat} {v : Value} {n : Nat} {xs : List Value} (t e : TypeId) (i : TypeInfo) (z : Value) (bytes : Nat) (ht : Try.prog.underlying t = some (.slice e)) (hi : Try.prog.info? e = some i) (h0 : i.zero = some z) (h1 : i.size = 1) (h2 : i.bytes = bytes) (hz : z.cells.size = 1)
    (hby : bytes ≤ 16) (hown : w.ownsRow base e 1 v n xs) (hb : base ≤ w.heap.size) {a : Nat} {x : Value} (hc : w.heap[a]? = some (.cells #[x] e (0, 0))) (hx : x.oneCell' = true) (hn : n ≤ 1000000) :
    ∃ v' w', (Builtin.append_ #[t, t] t #[v, .slice (some ⟨a, 0, none⟩) 1 1]).run Try.prog w = .ok v' w' ∧ w'.ownsRow base e 1 v' (n + 1) (xs ++ [x]) ∧ w.grownBy w' v.ownBlock := by
  obtain ⟨v', w', hr, ho, hg, -⟩ := run_append_own (P := Try.prog) w base t t e i z 1 bytes ht hi h0 h1 h2 hz (by decide) v n xs hown ⟨a, 0, none⟩ 1 1 [x] rfl (by
    intro j u hj
    match j, hj with
    | 0, hj => simp at hj; subst hj; exact blk_cell hc 0) (by
    intro u hu; simp at hu; subst hu; exact hx) (by unfold maxLen; omega) (by have := Nat.mul_le_mul_left (n + 1) hby; omega) hb
  exact ⟨v', w', hr, ho, hg⟩
theorem intInfo : ∃ i, Try.prog.info? 3 = some i ∧ i.zero = some (.int .i64 0) ∧ i.size = 1 ∧ i.bytes = 8 := by
  have h : (Try.prog.info? 3).map (fun i => (i.zero, i.size, i.bytes)) = some (some (.int .i64 0), 1, 8) := by kernel_rfl
  cases e : Try.prog.info? 3 with
  | none => rw [e] at h; cases h
  | some i =>
    rw [e] at h
    simp only [Option.map_some, Option.some.injEq, Prod.mk.injEq] at h
    exact ⟨i, rfl, h.1, h.2.1, h.2.2⟩
theorem strInfo : ∃ i, Try.prog.info? tStr = some i ∧ i.zero = some (.string ⟨#[]⟩) ∧ i.size = 1 ∧ i.bytes = 16 := by
  have h : (Try.prog.info? tStr).map (fun i => (i.zero, i.size, i.bytes)) = some (some (.string ⟨#[]⟩), 1, 16) := by kernel_rfl
  cases e : Try.prog.info? tStr with
  | none => rw [e] at h; cases h
  | some i =>
    rw [e] at h
    simp only [Option.map_some, Option.some.injEq, Prod.mk.injEq] at h
    exact ⟨i, rfl, h.1, h.2.1, h.2.2⟩
/-- 'append(sizes, n)'. -/
theorem append_int {w : World} {base : Nat} {v : Value} {n : Nat} {xs : List Value} (hown : w.ownsRow base 3 1 v n xs) (hb : base ≤ w.heap.size) {a : Nat} {x : Int} (hc : w.heap[a]? = some (.cells #[.int .i64 x] 3 (0, 0))) (hn : n ≤ 1000000) :
    ∃ v' w', (Builtin.append_ #[46, 46] 46 #[v, .slice (some ⟨a, 0, none⟩) 1 1]).run Try.prog w = .ok v' w' ∧ w'.ownsRow base 3 1 v' (n + 1) (xs ++ [.int .i64 x]) ∧ w.grownBy w' v.ownBlock := by
  obtain ⟨i, hi, h0, h1, h2⟩ := intInfo
  exact append_one 46 3 i _ 8 Try.underlying46 hi h0 h1 h2 rfl (by decide) hown hb hc rfl hn
/-- 'append(bytes, s)'. -/
theorem append_str {w : World} {base : Nat} {v : Value} {n : Nat} {xs : List Value} (hown : w.ownsRow base tStr 1 v n xs) (hb : base ≤ w.heap.size) {a : Nat} {x : ByteArray} (hc : w.heap[a]? = some (.cells #[.string x] tStr (0, 0))) (hn : n ≤ 1000000) :
    ∃ v' w', (Builtin.append_ #[52, 52] 52 #[v, .slice (some ⟨a, 0, none⟩) 1 1]).run Try.prog w = .ok v' w' ∧ w'.ownsRow base tStr 1 v' (n + 1) (xs ++ [.string x]) ∧ w.grownBy w' v.ownBlock := by
  obtain ⟨i, hi, h0, h1, h2⟩ := strInfo
  exact append_one 52 tStr i _ 16 Try.underlying52 hi h0 h1 h2 rfl (by decide) hown hb hc rfl hn

end Disk
end Go.Proofs.Ytfgaoopgnpigjaa
