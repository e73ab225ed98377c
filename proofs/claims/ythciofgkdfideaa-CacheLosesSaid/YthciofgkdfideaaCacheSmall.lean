/-
  The laws' own small functions: place, same.
-/
import Derived.Test.YthciofgkdfideaaCacheMem
import Derived.Test.YthciofgkdfideaaCacheLosesM
import Derived.Test.YthciofgkdfideaaQuietTail
namespace Go.Proofs.Ythciofgkdfideaa
open Go.RowKit
namespace Ca
open Num (hid)
open Mem (Bs bs LAt ptr)
/-- A list of pages as it is read. -/
abbrev PL (w : World) (v : Value) (l : List Pg) : Prop := LAt 2 pV w v l
theorem PL.cells {w : World} {v : Value} {l : List Pg} (h : PL w v l) : ∃ ao cap, v = .slice ao l.length cap ∧ l.length ≤ maxLen ∧ ∀ j (hj : j < l.length), ∃ b o, ao = some ⟨b, o, none⟩ ∧ b < w.heap.size ∧ w.cell? ⟨b, o + j * 2, none⟩ = some (.int .i64 l[j].1) ∧ w.cell? ⟨b, o + j * 2 + 1, none⟩ = some (.string (bs l[j].2)) := by
  obtain ⟨ao, cap, h1, h2, -, h4⟩ := h.ways
  refine ⟨ao, cap, h1, h2, fun j hj => ?_⟩
  obtain ⟨b, o, e1, e2, e3⟩ := h4 j hj
  exact ⟨b, o, e1, e2, e3 0 (by decide), e3 1 (by decide)⟩
theorem keys_take_succ {l : List Pg} {i : Nat} {n : Int} (h : i < l.length) (hn : n ∉ keysP (l.take i)) (e : l[i].1 ≠ n) : n ∉ keysP (l.take (i + 1)) := by
  rw [List.take_add_one, List.getElem?_eq_getElem h]
  unfold keysP at hn ⊢
  rw [List.map_append, List.mem_append]
  rintro (h1 | h1)
  · exact hn h1
  · simp at h1
    exact e h1.symm
set_option maxRecDepth 100000 in
set_option maxHeartbeats 1000000 in
theorem place_any {w : World} {v : Value} {l : List Pg} (h : PL w v l) (n : Int) :
    Calls Try.prog 22 #[v, .int .i64 n] w fun e w' => e = .returned (.int .i64 (placeM n l)) ∧ w = w' := by
  obtain ⟨ao, cap, rfl, hmax, hx⟩ := h.cells
  have HX := hid hx
  have hm2 : l.length ≤ 9223372036854775807 := by unfold maxLen at hmax; omega
  obtain ⟨nl, hnl⟩ : ∃ x, l.length = x := ⟨_, rfl⟩
  have HNL := hid hnl
  rw [hnl] at hm2 ⊢
  clear h hx hmax hnl
  go_enter Try.func22, Try.ntmps22
  go_wp2_with fail
  go_loopw [5] (fun iv wr => ∃ i : Nat, i ≤ nl ∧ iv = .int .i64 (i : Int) ∧ wr = w ∧ Hid (n ∉ keysP (l.take i))) (fun iv _ => nl - (intOf iv).toNat)
  case atStart => exact ⟨0, Nat.zero_le _, rfl, rfl, hid (by simp [keysP])⟩
  case round =>
    obtain ⟨i, hi, rfl, rfl, HN⟩ := hrel
    by_cases hlt : i < nl
    · have hil : i < l.length := by rw [HNL.out]; exact hlt
      have hlt1 : (i : Int) < (nl : Int) := by omega
      obtain ⟨g, o, rfl, hg, x0, x1⟩ := HX.out i hil
      by_cases e : l[i].1 = n
      · have he : (l[i].1 == n) = true := by simpa using e
        have HP := hid (place_hit HN.out (List.getElem?_eq_getElem hil) e)
        generalize l[i].1 = z0 at *
        go_wp2
        go_ret
        exact ⟨by rw [HP.out]; rfl, rfl⟩
      · have he : (l[i].1 == n) = false := by simpa using e
        have HH := hid (keys_take_succ hil HN.out e)
        generalize l[i].1 = z0 at *
        go_wp2
        go_roundw
        case rel => exact ⟨i + 1, by omega, by go_num, trivial, HH⟩
        case measure => simp [intOf]; omega
    · have hlt1 : ¬ (i : Int) < (nl : Int) := by omega
      have hn := HN.out
      rw [List.take_of_length_le (by rw [HNL.out]; omega)] at hn
      have HP := hid (place_miss hn)
      clear hn
      go_wp2
      go_ret
      exact ⟨by rw [HP.out]; rfl, rfl⟩
theorem bs_text (a : Bs) : (bs a).toList = a := by
  rw [ByteArray.toList_eq]
  simp [bs]
theorem bs_ne {a b : Bs} (h : a ≠ b) : ((bs a).toList == (bs b).toList) = false := by
  rw [bs_text, bs_text]
  simpa using h
theorem same_head {l m : List Pg} {i : Nat} (hl : l.length = m.length) (h : i < l.length) (e : l[i] ≠ m[i]'(hl ▸ h)) : decide (l = m) = false := by
  rw [decide_eq_false_iff_not]
  rintro rfl
  exact e rfl
theorem take_same {l m : List Pg} {i : Nat} (h1 : i < l.length) (h2 : i < m.length) (e : l.take i = m.take i) (e2 : l[i] = m[i]) : l.take (i + 1) = m.take (i + 1) := by
  rw [List.take_add_one, List.take_add_one, List.getElem?_eq_getElem h1, List.getElem?_eq_getElem h2, e, e2]
set_option maxRecDepth 100000 in
set_option maxHeartbeats 1000000 in
theorem same_any {w : World} {v x : Value} {l m : List Pg} (h : PL w v l) (k : PL w x m) :
    Calls Try.prog 11 #[v, x] w fun e w' => e = .returned (.bool (decide (l = m))) ∧ Below w.heap.size w w' := by
  obtain ⟨ao, cap, rfl, hmax, hx⟩ := h.cells
  obtain ⟨ao2, cap2, rfl, -, hy⟩ := k.cells
  have HX := hid hx
  have HY := hid hy
  have hm2 : l.length ≤ 9223372036854775807 := by unfold maxLen at hmax; omega
  obtain ⟨nl, hnl⟩ : ∃ x, l.length = x := ⟨_, rfl⟩
  obtain ⟨nm, hnm⟩ : ∃ x, m.length = x := ⟨_, rfl⟩
  have HNL := hid hnl
  have HNM := hid hnm
  rw [hnl] at hm2 ⊢
  rw [hnm]
  clear h k hx hy hmax
  by_cases hne : nl = nm
  · subst hne
    have HB0 := hid (Below.refl w.heap.size w)
    clear hnl hnm
    go_enter Try.func11, Try.ntmps11
    go_wp2_with fail
    go_loopw [5] (fun iv wr => ∃ i : Nat, i ≤ nl ∧ iv = .int .i64 (i : Int) ∧ Hid (Below w.heap.size w wr) ∧ Hid (l.take i = m.take i)) (fun iv _ => nl - (intOf iv).toNat)
    case atStart => exact ⟨0, Nat.zero_le _, rfl, HB0, hid rfl⟩
    case round =>
      obtain ⟨i, hi, rfl, HB, HS⟩ := hrel
      by_cases hlt : i < nl
      · have hil : i < l.length := by rw [HNL.out]; exact hlt
        have him : i < m.length := by rw [HNM.out]; exact hlt
        have hlt1 : (i : Int) < (nl : Int) := by omega
        obtain ⟨g, o, rfl, hg, x0, x1⟩ := HX.out i hil
        obtain ⟨g2, o2, rfl, hg2, y0, y1⟩ := HY.out i him
        rw [← HB.out.cell (p := ⟨g, o + i * 2, none⟩) hg] at x0
        rw [← HB.out.cell (p := ⟨g, o + i * 2 + 1, none⟩) hg] at x1
        rw [← HB.out.cell (p := ⟨g2, o2 + i * 2, none⟩) hg2] at y0
        rw [← HB.out.cell (p := ⟨g2, o2 + i * 2 + 1, none⟩) hg2] at y1
        have hgl := Nat.lt_of_lt_of_le hg HB.out.size
        have hgl2 := Nat.lt_of_lt_of_le hg2 HB.out.size
        by_cases e : l[i] = m[i]
        · have HH := hid (take_same hil him HS.out e)
          rw [e] at x0 x1
          generalize m[i].1 = z0 at *
          generalize m[i].2 = z1 at *
          have HD := hid HB.out.drew
          go_wp2
          go_region
          go_wp2
          go_roundw
          case rel => exact ⟨i + 1, by omega, by go_num, HD, HH⟩
          case measure => simp [intOf]; omega
        · have HF := hid (same_head (by rw [HNL.out, HNM.out]) hil e)
          have HD := hid HB.out.drew
          by_cases e1 : l[i].1 = m[i].1
          · have e2 : ((bs l[i].2).toList == (bs m[i].2).toList) = false := bs_ne (fun h => e (Prod.ext e1 h))
            rw [e1] at x0
            generalize m[i].1 = z0 at *
            generalize l[i].2 = z1 at *
            generalize m[i].2 = z2 at *
            clear e e1
            go_wp2
            go_region
            go_wp2
            go_ret
            exact ⟨by rw [HF.out]; rfl, HD.out⟩
          · have e2 : (l[i].1 == m[i].1) = false := by simpa using e1
            generalize l[i].1 = z0 at *
            generalize m[i].1 = z3 at *
            generalize l[i].2 = z1 at *
            generalize m[i].2 = z2 at *
            clear e e1
            go_wp2
            go_region
            go_wp2
            go_ret
            exact ⟨by rw [HF.out]; rfl, HD.out⟩
      · have hlt1 : ¬ (i : Int) < (nl : Int) := by omega
        have hs := HS.out
        rw [List.take_of_length_le (by rw [HNL.out]; omega), List.take_of_length_le (by rw [HNM.out]; omega)] at hs
        have HF : Hid (decide (l = m) = true) := hid (by simpa using hs)
        clear hs
        go_wp2
        go_ret
        exact ⟨by rw [HF.out]; rfl, HB.out⟩
  · have HF : Hid (decide (l = m) = false) := hid (by
      rw [decide_eq_false_iff_not]
      rintro rfl
      exact hne (hnl.symm.trans hnm))
    have hne1 : ((nl : Int) == (nm : Int)) = false := by simpa using (by omega : ¬ (nl : Int) = nm)
    clear hnl hnm hne
    go_enter Try.func11, Try.ntmps11
    go_wp2
    go_ret
    exact ⟨by rw [HF.out]; rfl, Below.refl _ _⟩
end Ca
end Go.Proofs.Ythciofgkdfideaa
