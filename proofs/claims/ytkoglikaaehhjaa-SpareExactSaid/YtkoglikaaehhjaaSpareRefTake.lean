/-
  Contract of the reference's Take, over a book.
-/
import Derived.Test.YtkoglikaaehhjaaSpareGive
import Derived.Test.YtkoglikaaehhjaaSpareInv
import Derived.Test.YtkoglikaaehhjaaSpareRefDec
import Derived.Deep.RegionHeld3
namespace Go.Proofs.Ytkoglikaaehhjaa
open Go.RowKit
namespace Sp
open Num (hid)
open Mem (Bs bs IAt tI tS tIs tSs Chg Row ptr blk_cell blk_free blk_new blk_set blk_other blk_alloc row_kept row_shape row_type)
/-- Take of a book, in plain words. -/
def rTake (h : Hd) (B : Book) : (Int × Hd × Int) × Book :=
  if h.spare = 0 then (takeNew h, B) else
  if (decT (getB B h.trunk)).2 ≠ 0 ∨ badT h (decT (getB B h.trunk)).1 = true then ((0, hd0, 30), B) else
  if (decT (getB B h.trunk)).1.list.length = 0 then (takeTrunk h (decT (getB B h.trunk)).1.next, B) else
  (((decT (getB B h.trunk)).1.list.getLastD 0, { h with spare := h.spare - 1 }, 0), putB B h.trunk (pageT ⟨(decT (getB B h.trunk)).1.next, (decT (getB B h.trunk)).1.list.dropLast⟩))
/-- Give of a book, in plain words. -/
def rGive (h : Hd) (B : Book) (n : Int) : (Hd × Int) × Book :=
  if n < 1 ∨ h.pages ≤ n then ((hd0, 1), B) else if h.pages - 1 ≤ h.spare then ((hd0, 30), B) else
  if h.trunk = 0 then (({ h with trunk := n, spare := h.spare + 1 }, 0), putB B n (pageT ⟨0, []⟩)) else
  if (decT (getB B h.trunk)).2 ≠ 0 then ((hd0, 30), B) else
  if (decT (getB B h.trunk)).1.list.length < 50 then (({ h with spare := h.spare + 1 }, 0), putB B h.trunk (pageT ⟨(decT (getB B h.trunk)).1.next, (decT (getB B h.trunk)).1.list ++ [n]⟩))
  else (({ h with trunk := n, spare := h.spare + 1 }, 0), putB B n (pageT ⟨h.trunk, []⟩))
theorem okT_last {T : Tr} (h : okT T = true) : okT ⟨T.next, T.list.dropLast⟩ = true := by
  rw [okT_iff] at h ⊢
  refine ⟨h.1, ?_, fun x hx => h.2.2 x (List.dropLast_subset _ hx)⟩
  rw [List.length_dropLast]
  have := h.2.1
  omega
/-- The project's Take over a desk that never fails is the book's. -/
theorem take_same (h : Hd) (B : Book) (l : Int) (hl : l < 0) : (takeM h ⟨B, l⟩).1 = (rTake h B).1 ∧ (takeM h ⟨B, l⟩).2.B = (rTake h B).2 ∧ (takeM h ⟨B, l⟩).2.left < 0 := by
  unfold takeM rTake
  by_cases h0 : h.spare = 0
  · rw [if_pos h0, if_pos h0]
    exact ⟨rfl, rfl, hl⟩
  · rw [if_neg h0, if_neg h0]
    have hg : (⟨B, l⟩ : St).get h.trunk = ((getB B h.trunk, 0), ⟨B, l - 1⟩) := get_yes (S := ⟨B, l⟩) (show ¬ l = 0 by omega)
    by_cases h1 : (decT (getB B h.trunk)).2 = 0
    · have ht : trunkAt ⟨B, l⟩ h.trunk = (((decT (getB B h.trunk)).1, 0), ⟨B, l - 1⟩) := by
        rw [tat_ok (by rw [hg]) (by rw [hg]; exact h1), hg]
      rw [ht]
      have hok := (dec_ok h1).1
      by_cases h2 : badT h (decT (getB B h.trunk)).1 = true
      · rw [to_bad h2, if_pos (Or.inr h2)]
        exact ⟨rfl, rfl, by show l - 1 < 0; omega⟩
      · have h2' : badT h (decT (getB B h.trunk)).1 = false := by simpa using h2
        rw [if_neg (by rintro (e | e); exact e h1; exact h2 e)]
        by_cases h3 : (decT (getB B h.trunk)).1.list.length = 0
        · rw [to_none h2' h3, if_pos h3]
          exact ⟨rfl, rfl, by show l - 1 < 0; omega⟩
        · rw [to_some h2' h3, if_neg h3]
          rw [ptr_ok (okT_last hok), put_yes (S := ⟨B, l - 1⟩) (show ¬ l - 1 = 0 by omega)]
          rw [if_neg (fun e => e rfl)]
          exact ⟨rfl, rfl, by show l - 1 - 1 < 0; omega⟩
    · have ht : trunkAt ⟨B, l⟩ h.trunk = ((noT, 30), ⟨B, l - 1⟩) := by
        rw [tat_bad (by rw [hg]) (by rw [hg]; exact h1), hg]
      rw [ht, to_err (by decide), if_pos (Or.inl h1)]
      exact ⟨rfl, rfl, by show l - 1 < 0; omega⟩
theorem give_same (h : Hd) (hf : Fit h) (B : Book) (l : Int) (hl : l < 0) (n : Int) : (giveM h ⟨B, l⟩ n).1 = (rGive h B n).1 ∧ (giveM h ⟨B, l⟩ n).2.B = (rGive h B n).2 ∧ (giveM h ⟨B, l⟩ n).2.left < 0 := by
  unfold rGive
  by_cases h0 : n < 1 ∨ h.pages ≤ n
  · rw [gv_arg h0, if_pos h0]
    exact ⟨rfl, rfl, hl⟩
  · rw [if_neg h0]
    by_cases h1 : h.pages - 1 ≤ h.spare
    · rw [gv_full h0 h1, if_pos h1]
      exact ⟨rfl, rfl, hl⟩
    · rw [if_neg h1]
      have hg : (⟨B, l⟩ : St).get h.trunk = ((getB B h.trunk, 0), ⟨B, l - 1⟩) := get_yes (S := ⟨B, l⟩) (show ¬ l = 0 by omega)
      unfold Fit at hf
      by_cases h2 : h.trunk = 0
      · rw [if_pos h2]
        have ho : okT ⟨h.trunk, []⟩ = true := by rw [h2]; rfl
        rw [gv_of h0 h1 (tf_none h2), go_ok (by rw [ptr_ok ho, put_yes (S := ⟨B, l⟩) (show ¬ l = 0 by omega)]), if_neg (fun e => e rfl), h2]
        exact ⟨rfl, rfl, by show l - 1 < 0; omega⟩
      · rw [if_neg h2]
        by_cases h3 : (decT (getB B h.trunk)).2 = 0
        · have ht : trunkAt ⟨B, l⟩ h.trunk = (((decT (getB B h.trunk)).1, 0), ⟨B, l - 1⟩) := by
            rw [tat_ok (by rw [hg]) (by rw [hg]; exact h3), hg]
          have hok := (dec_ok h3).1
          have hokL := (okT_iff _).1 hok
          rw [if_neg (fun e => e h3)]
          have htf := tf_of (n := n) h2 ht
          rw [if_neg (fun e => e rfl)] at htf
          by_cases h4 : (decT (getB B h.trunk)).1.list.length < 50
          · rw [if_pos h4] at htf ⊢
            have ho : okT ⟨(decT (getB B h.trunk)).1.next, (decT (getB B h.trunk)).1.list ++ [n]⟩ = true := by
              rw [okT_iff]
              refine ⟨hokL.1, by simp; omega, fun x hx => ?_⟩
              rcases List.mem_append.1 hx with hx | hx
              · exact hokL.2.2 x hx
              · simp at hx; omega
            rw [gv_of h0 h1 htf, go_ok (by rw [ptr_ok ho, put_yes (S := ⟨B, l - 1⟩) (show ¬ l - 1 = 0 by omega)]), if_neg (fun e => e rfl)]
            exact ⟨rfl, rfl, by show l - 1 - 1 < 0; omega⟩
          · rw [if_neg h4] at htf ⊢
            have ho : okT ⟨h.trunk, []⟩ = true := by
              rw [okT_iff]
              exact ⟨by show 0 ≤ h.trunk ∧ h.trunk < 4096; omega, by simp, fun x hx => by simp at hx⟩
            rw [gv_of h0 h1 htf, go_ok (by rw [ptr_ok ho, put_yes (S := ⟨B, l - 1⟩) (show ¬ l - 1 = 0 by omega)]), if_neg (fun e => e rfl)]
            exact ⟨rfl, rfl, by show l - 1 - 1 < 0; omega⟩
        · have ht : trunkAt ⟨B, l⟩ h.trunk = ((noT, 30), ⟨B, l - 1⟩) := by
            rw [tat_bad (by rw [hg]) (by rw [hg]; exact h3), hg]
          rw [if_pos h3]
          have htf := tf_of (n := n) h2 ht
          rw [if_pos (by decide)] at htf
          rw [gv_of h0 h1 htf, go_err (by decide)]
          exact ⟨rfl, rfl, by show l - 1 < 0; omega⟩
end Sp
end Go.Proofs.Ytkoglikaaehhjaa
