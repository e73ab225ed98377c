/-
  Contract of the project's isGood.
-/
import Derived.Test.YtkoglikaaehhjaaSpareMath
import Derived.Laws.Cover1
namespace Go.Proofs.Ytkoglikaaehhjaa
open Go.RowKit
namespace Sp
open Num (hid)
open Mem (Bs bs IAt tI tS tIs tSs LAt)
abbrev tT : TypeId := 24
abbrev tH : TypeId := 35
/-- A trunk, as it is handed over. -/
def trV (t : Tr) (lv : Value) : Value := .agg #[.int .i64 t.next, lv]
abbrev tObj (n : Int) (lv : Value) : Obj := .cells #[.int .i64 n, lv] tT
theorem all_split {α : Type} {p : α → Bool} {l : List α} {k : Nat} (h : k < l.length) (hg : p l[k] = false) : l.all p = false := by
  rw [List.all_eq_false]
  exact ⟨l[k], List.getElem_mem h, by rw [hg]; decide⟩
theorem all_full {α : Type} {p : α → Bool} {l : List α} (hk : ∀ j (hj : j < l.length), p l[j] = true) : l.all p = true := by
  rw [List.all_eq_true]
  intro v hv
  obtain ⟨j, hj, rfl⟩ := List.getElem_of_mem hv
  exact hk j hj
theorem ret_b {a b : Bool} (h : a = b) : Ending.returned (.bool a) = .returned (.bool b) := by rw [h]
theorem box_cells (w : World) (n : Int) (lv : Value) : (w.alloc (tObj n lv)).cell? ⟨w.heap.size, 0, none⟩ = some (.int .i64 n) ∧ (w.alloc (tObj n lv)).cell? ⟨w.heap.size, 1, none⟩ = some lv := by simp
set_option maxRecDepth 100000 in
set_option maxHeartbeats 1000000 in
theorem good_any (t : Tr) (lv : Value) (w : World) (h : IAt w lv t.list) :
    Calls Try.prog 22 #[trV t lv] w fun e w' => e = .returned (.bool (okT t)) ∧ Below w.heap.size w w' := by
  obtain ⟨ao, cap, rfl, hm, -, hat⟩ := Mem.IAt.ways1 h
  have B1 := hid ((Below.refl w.heap.size w).alloc (Nat.le_refl _) (tObj t.next (.slice ao t.list.length cap)))
  have HK := hid hat
  obtain ⟨next, l⟩ := t
  simp only at B1 HK hm ⊢
  unfold trV
  simp only
  have hok : okT ⟨next, l⟩ = ((decide (0 ≤ next) && decide (next < 4096)) && (decide (l.length ≤ 50) && l.all okP)) := rfl
  rw [hok]
  clear hok h hat
  by_cases h1 : next < 0
  · rw [decide_eq_false (by omega : ¬ 0 ≤ next)]
    go_enter Try.func22, Try.ntmps22
    go_wp2
    go_ret
    exact ⟨rfl, B1.out⟩
  · rw [decide_eq_true (by omega : 0 ≤ next)]
    by_cases h2 : 4096 ≤ next
    · rw [decide_eq_false (by omega : ¬ next < 4096)]
      go_enter Try.func22, Try.ntmps22
      go_wp2
      go_ret
      exact ⟨rfl, B1.out⟩
    · rw [decide_eq_true (by omega : next < 4096)]
      by_cases h3 : 50 < l.length
      · rw [decide_eq_false (by omega : ¬ l.length ≤ 50)]
        have h3' : (50 : Int) < (l.length : Int) := by omega
        go_enter Try.func22, Try.ntmps22
        go_wp2
        go_ret
        exact ⟨rfl, B1.out⟩
      · rw [decide_eq_true (by omega : l.length ≤ 50)]
        have h3' : ¬ (50 : Int) < (l.length : Int) := by omega
        obtain ⟨nl, hnl⟩ : ∃ x, l.length = x := ⟨_, rfl⟩
        rw [hnl] at B1 h3' ⊢
        have HNL := hid hnl
        obtain ⟨g, hg⟩ : ∃ x, l.all okP = x := ⟨_, rfl⟩
        have HG := hid hg
        rw [hg]
        clear hnl h3 hm hg
        go_enter Try.func22, Try.ntmps22
        go_wp2_with fail
        go_loopw [22] (fun i wr => ∃ k : Nat, k ≤ nl ∧ i = .int .i64 k ∧ (∀ j (hj : j < l.length), j < k → okP l[j] = true) ∧ wr = w.alloc (tObj next (.slice ao nl cap))) (fun i _ => nl - (intOf i).toNat)
        case atStart => exact ⟨0, Nat.zero_le _, rfl, fun j _ hj => absurd hj (Nat.not_lt_zero _), rfl⟩
        case round =>
          obtain ⟨k, hk, rfl, hp, rfl⟩ := hrel
          have HP := hid hp
          clear hp
          by_cases hlt : k < nl
          · have hlt' : (k : Int) < nl := by omega
            have i1 : k < l.length := by have := HNL.out; omega
            obtain ⟨b, o, rfl, hbl, x0⟩ := HK.out k i1
            have y0 := (B1.out.cell (p := ⟨b, o + k, none⟩) hbl).trans x0
            by_cases hg : okP l[k] = true
            · have hg2 := (okP_iff _).1 hg
              have HS : Hid (∀ j (hj : j < l.length), j < k + 1 → okP l[j] = true) := hid (fun j hj hjk => by
                by_cases e : j < k
                · exact HP.out j hj e
                · obtain rfl : j = k := by omega
                  exact hg)
              generalize l[k] = x at *
              clear x0
              have g1 : ¬ x < 1 := by omega
              have g2 : ¬ 4096 ≤ x := by omega
              go_wp2
              go_roundw
              case rel => exact ⟨k + 1, by omega, by go_num, HS.out, trivial⟩
              case measure => simp [intOf]; omega
            · have hg' : okP l[k] = false := by simpa using hg
              obtain rfl : false = g := (all_split i1 hg').symm.trans HG.out
              have hg2 : l[k] < 1 ∨ 4096 ≤ l[k] := by
                rcases Int.lt_or_le l[k] 1 with h | h
                · exact Or.inl h
                · rcases Int.lt_or_le l[k] 4096 with h4 | h4
                  · exact absurd ((okP_iff _).2 ⟨h, h4⟩) hg
                  · exact Or.inr h4
              generalize l[k] = x at *
              clear x0
              rcases hg2 with g1 | g1
              · go_wp2
                go_ret
                exact ⟨rfl, B1.out⟩
              · have g2 : ¬ x < 1 := by omega
                go_wp2
                go_ret
                exact ⟨rfl, B1.out⟩
          · obtain rfl : k = nl := by omega
            have hlt' : ¬ (k : Int) < k := by omega
            obtain rfl : true = g := (all_full (fun j hj => HP.out j hj (by have := HNL.out; omega))).symm.trans HG.out
            go_wp2
            go_ret
            exact ⟨rfl, B1.out⟩
end Sp
end Go.Proofs.Ytkoglikaaehhjaa
