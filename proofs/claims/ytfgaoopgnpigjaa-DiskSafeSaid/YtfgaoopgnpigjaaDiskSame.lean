/-
  Contract of the statements' own 'same': two slices of names.
-/
import Derived.Test.YtfgaoopgnpigjaaDiskSees
import Derived.BigQuiet
import Derived.Deep.QuietTactic
namespace Go.Proofs.Ytfgaoopgnpigjaa
open Go.RowKit
namespace Disk
open Num (hid bcells)

/-- A slice of strings, as it is read. -/
def StrsAt (w : World) (v : Value) (l : List Nam) : Prop :=
  ((∃ ao cap, v = .slice ao 0 cap ∧ l = []) ∨ ∃ b o cap, v = .slice (some ⟨b, o, none⟩) l.length cap ∧ ∀ j (h : j < l.length), w.cell? ⟨b, o + j, none⟩ = some (.string ⟨l[j].toArray⟩)) ∧ l.length ≤ 1000000
theorem StrsAt.of_row {w : World} {base : Nat} {v : Value} {l : List Nam} (h : w.ownsRow base tStr 1 v l.length (l.map fun l => Value.string ⟨l.toArray⟩)) (hl : l.length ≤ 1000000) : StrsAt w v l := by
  refine ⟨?_, hl⟩
  rcases h.2 with ⟨rfl, hn⟩ | ⟨g, cap, cur, rfl, _⟩
  · exact Or.inl ⟨none, 0, rfl, List.eq_nil_of_length_eq_zero hn⟩
  · refine Or.inr ⟨g, 0, cap, rfl, fun j hj => ?_⟩
    rw [Nat.zero_add, World.ownsRow.cellAt h j (by omega), List.getElem?_map, List.getElem?_eq_getElem hj]; rfl
theorem StrsAt.len {w : World} {v : Value} {l : List Nam} (h : StrsAt w v l) : ∃ ao cap, v = .slice ao l.length cap := by
  rcases h.1 with ⟨ao, cap, rfl, rfl⟩ | ⟨b, o, cap, rfl, _⟩
  · exact ⟨ao, cap, rfl⟩
  · exact ⟨_, cap, rfl⟩
theorem StrsAt.at {w : World} {v : Value} {l : List Nam} (h : StrsAt w v l) (hl : 0 < l.length) : ∃ b o cap, v = .slice (some ⟨b, o, none⟩) l.length cap ∧ ∀ j (h : j < l.length), w.cell? ⟨b, o + j, none⟩ = some (.string ⟨l[j].toArray⟩) := by
  rcases h.1 with ⟨ao, cap, rfl, rfl⟩ | h
  · exact absurd hl (Nat.lt_irrefl _)
  · exact h

set_option maxRecDepth 100000 in
set_option maxHeartbeats 1000000 in
/-- The same list twice. -/
theorem same_yes (w : World) (a b : Value) (l : List Nam) (ha : StrsAt w a l) (hb : StrsAt w b l) :
    Calls Try.prog 36 #[a, b] w fun e w' => e = .returned (.bool true) ∧ ∃ q, w' = w.drewN q := by
  have hl := ha.2
  by_cases h0 : 0 < l.length
  · obtain ⟨b1, o1, c1, rfl, h1⟩ := ha.at h0
    obtain ⟨b2, o2, c2, rfl, h2⟩ := hb.at h0
    have H1 := hid h1
    have H2 := hid h2
    clear ha hb h1 h2
    go_enter Try.func36, Try.ntmps36
    go_wp2
    go_loopw [5] (fun i wr => ∃ k : Nat, k ≤ l.length ∧ i = .int .i64 k ∧ ∃ q, wr = w.drewN q) (fun i _ => l.length - (intOf i).toNat)
    case atStart => exact ⟨0, Nat.zero_le _, rfl, 0, rfl⟩
    case round =>
      obtain ⟨k, hk, rfl, q, rfl⟩ := hrel
      by_cases hlt : k < l.length
      · have x1 := H1.out k hlt
        have x2 := H2.out k hlt
        go_wp2
        go_quiet (fail)
        go_wp2
        go_roundw
        case rel => exact ⟨k + 1, by omega, by go_num, _, rfl⟩
        case measure => simp [intOf]; omega
      · obtain rfl : k = l.length := by omega
        go_wp2
        go_ret
        exact ⟨rfl, q, rfl⟩
  · obtain rfl : l = [] := List.eq_nil_of_length_eq_zero (by omega)
    obtain ⟨ao, cap, rfl⟩ := ha.len
    obtain ⟨ao2, cap2, rfl⟩ := hb.len
    clear ha hb
    go_enter Try.func36, Try.ntmps36
    go_wp2
    go_loopw [5] (fun i wr => i = .int .i64 0 ∧ wr = w) (fun _ _ => 0)
    case atStart => exact ⟨rfl, rfl⟩
    case round =>
      obtain ⟨rfl, rfl⟩ := hrel
      go_wp2
      go_ret
      exact ⟨rfl, 0, rfl⟩

end Disk
end Go.Proofs.Ytfgaoopgnpigjaa
