/-
  A book of pages of the call's own: the struct and its two rows; place, Get, Put.
-/
import Derived.Test.YtkoglikaaehhjaaSpareRefEnc
namespace Go.Proofs.Ytkoglikaaehhjaa
open Go.RowKit
namespace Sp
open Num (hid)
open Mem (Bs bs tI tS tIs tSs Chg Row ptr blk_cell blk_free blk_new blk_set blk_other blk_alloc row_kept row_shape row_type wpList_append_run)
abbrev tBk : TypeId := 43
abbrev keysV (B : Book) : List Value := B.map fun x => Value.int .i64 x.1
abbrev datasV (B : Book) : List Value := B.map fun x => Value.string (bs x.2)
structure BookAt (R : Nat → Prop) (w : World) (b : Nat) (nv dv : Value) (B : Book) : Prop where
  blk : w.heap[b]? = some (.cells #[nv, dv] tBk (0, 0))
  own : R b
  keys : Row R w tI 1 nv B.length (keysV B)
  datas : Row R w tS 1 dv B.length (datasV B)
def BookR (R : Nat → Prop) (w : World) (b : Nat) (B : Book) : Prop := ∃ nv dv, BookAt R w b nv dv B
theorem BookAt.kept {R F : Nat → Prop} {w w' : World} {b : Nat} {nv dv : Value} {B : Book} (h : BookAt R w b nv dv B) (hc : Chg F w w') (hF : ∀ k, F k → ¬ R k) : BookAt R w' b nv dv B :=
  ⟨hc.at h.blk (fun e => hF b e h.own), h.own, h.keys.kept hc (fun g hg e => hF g e (h.keys.2 g hg)), h.datas.kept hc (fun g hg e => hF g e (h.datas.2 g hg))⟩
theorem BookR.apart {R F : Nat → Prop} {w w' : World} {b : Nat} {B : Book} (h : BookR R w b B) (hc : Chg F w w') (hF : ∀ k, F k → ¬ R k) : BookR R w' b B := by
  obtain ⟨nv, dv, h⟩ := h
  exact ⟨nv, dv, h.kept hc hF⟩
theorem BookR.on {R : Nat → Prop} {w w' : World} {b : Nat} {B : Book} (h : BookR R w b B) (hb : Below w.heap.size w w') : BookR R w' b B := h.apart (F := fun _ => False) (Chg.of_below hb) (fun _ h => h.elim)
theorem BookR.mono {R R' : Nat → Prop} {w : World} {b : Nat} {B : Book} (h : BookR R w b B) (hR : ∀ g, g < w.heap.size → R g → R' g) : BookR R' w b B := by
  obtain ⟨nv, dv, h⟩ := h
  exact ⟨nv, dv, h.blk, hR b (lt_of_block h.blk) h.own, h.keys.mono hR, h.datas.mono hR⟩
theorem BookR.lt {R : Nat → Prop} {w : World} {b : Nat} {B : Book} (h : BookR R w b B) : b < w.heap.size := by
  obtain ⟨nv, dv, h⟩ := h
  exact lt_of_block h.blk
/-- The rows' values, and where their cells are. -/
theorem BookAt.shape {R : Nat → Prop} {w : World} {b : Nat} {nv dv : Value} {B : Book} (h : BookAt R w b nv dv B) :
    ∃ ao cap ao2 cap2, nv = .slice ao B.length cap ∧ dv = .slice ao2 B.length cap2 ∧ (∀ k (hk : k < B.length), ∃ g, ao = some ⟨g, 0, none⟩ ∧ g < w.heap.size ∧ w.cell? ⟨g, k, none⟩ = some (.int .i64 B[k].1)) ∧
      (∀ k (hk : k < B.length), ∃ g, ao2 = some ⟨g, 0, none⟩ ∧ g < w.heap.size ∧ w.cell? ⟨g, k, none⟩ = some (.string (bs B[k].2)) ∧ w.frozen? ⟨g, k, none⟩ = false) := by
  obtain ⟨ao, cap, rfl, h1⟩ := row_shape h.keys.1
  obtain ⟨ao2, cap2, rfl, h2⟩ := row_shape h.datas.1
  refine ⟨ao, cap, ao2, cap2, rfl, rfl, fun k hk => ?_, fun k hk => ?_⟩
  · obtain ⟨g, rfl, hg⟩ := h1 (by omega)
    refine ⟨g, rfl, hg, ?_⟩
    rw [h.keys.1.cellAt k (by omega), List.getElem?_map, List.getElem?_eq_getElem hk]
    rfl
  · obtain ⟨g, rfl, hg⟩ := h2 (by omega)
    obtain ⟨cur, hh⟩ := row_type h.datas.1 (g := g) rfl
    refine ⟨g, rfl, hg, ?_, blk_free hh k⟩
    rw [h.datas.1.cellAt k (by omega), List.getElem?_map, List.getElem?_eq_getElem hk]
    rfl
set_option maxRecDepth 100000 in
set_option maxHeartbeats 1000000 in
theorem place_any {R : Nat → Prop} {w : World} {b : Nat} {B : Book} (h : BookR R w b B) (n : Int) (hB : B.length ≤ 100000) :
    Calls Try.prog 32 #[ptr b, .int .i64 n] w fun e w' => e = .returned (.int .i64 (placeB B n)) ∧ w = w' := by
  obtain ⟨nv, dv, h⟩ := h
  obtain ⟨ao, cap, ao2, cap2, rfl, rfl, hk1, -⟩ := h.shape
  have HK := hid hk1
  have c0 := blk_cell h.blk 0
  have hlt := lt_of_block h.blk
  obtain ⟨nl, hnl⟩ : ∃ x, B.length = x := ⟨_, rfl⟩
  rw [hnl] at c0 hB
  simp only [List.getElem?_toArray, List.getElem?_cons_zero] at c0
  rcases place_ways B n with ⟨k0, hk0, e1, e2, -, -, e5⟩ | ⟨e1, -, -, e4⟩
  · rw [e1]
    have HE := hid e5
    have hk0' : k0 < nl := by omega
    have HN := hid hnl
    have H2 := hid e2
    clear h hk1 e1 e5 e2 hnl
    go_enter Try.func32, Try.ntmps32
    go_wp2_with fail
    go_loopw [5] (fun i wr => ∃ k : Nat, k ≤ k0 ∧ i = .int .i64 k ∧ wr = w) (fun i _ => k0 + 1 - (intOf i).toNat)
    case atStart => exact ⟨0, Nat.zero_le _, rfl, rfl⟩
    case round =>
      obtain ⟨k, hk, rfl, rfl⟩ := hrel
      have hlt1 : (k : Int) < nl := by omega
      have i1 : k < B.length := by omega
      obtain ⟨g, rfl, hg, x0⟩ := HK.out k i1
      by_cases hkk : k < k0
      · have hne : (B[k].1 == n) = false := by simpa using HE.out k hkk
        generalize B[k].1 = y at *
        go_wp2
        go_roundw
        case rel => exact ⟨k + 1, by omega, by go_num, trivial⟩
        case measure => simp [intOf]; omega
      · obtain rfl : k = k0 := by omega
        have hne : (B[k].1 == n) = true := by simpa using H2.out
        generalize B[k].1 = y at *
        clear H2
        go_wp2
        go_ret
        exact ⟨rfl, rfl⟩
  · rw [e1]
    have HE := hid e4
    have HN := hid hnl
    clear h hk1 e1 e4 hnl
    go_enter Try.func32, Try.ntmps32
    go_wp2_with fail
    go_loopw [5] (fun i wr => ∃ k : Nat, k ≤ nl ∧ i = .int .i64 k ∧ wr = w) (fun i _ => nl - (intOf i).toNat)
    case atStart => exact ⟨0, Nat.zero_le _, rfl, rfl⟩
    case round =>
      obtain ⟨k, hk, rfl, rfl⟩ := hrel
      by_cases hkk : k < nl
      · have hlt1 : (k : Int) < nl := by omega
        have i1 : k < B.length := by have := HN.out; omega
        obtain ⟨g, rfl, hg, x0⟩ := HK.out k i1
        have hne : (B[k].1 == n) = false := by simpa using HE.out k i1
        generalize B[k].1 = y at *
        go_wp2
        go_roundw
        case rel => exact ⟨k + 1, by omega, by go_num, trivial⟩
        case measure => simp [intOf]; omega
      · obtain rfl : k = nl := by omega
        have hlt1 : ¬ (k : Int) < k := by omega
        go_wp2
        go_ret
        exact ⟨rfl, rfl⟩
theorem full_none (w : World) : Calls Try.prog 29 #[.string ⟨#[]⟩] w fun e w' => e = .returned (.string (bs (zeros 232))) ∧ Below w.heap.size w w' := full_b [] (by decide) w
set_option maxRecDepth 100000 in
set_option maxHeartbeats 1000000 in
theorem bget_any {R : Nat → Prop} {w : World} {b : Nat} {B : Book} (h : BookR R w b B) (n : Int) (hB : B.length ≤ 100000) :
    Calls Try.prog 21 #[ptr b, .int .i64 n] w fun e w' => e = .returned (.string (bs (getB B n))) ∧ Below w.heap.size w w' := by
  have HP := hid (place_any h n hB)
  obtain ⟨nv, dv, h⟩ := h
  obtain ⟨ao, cap, ao2, cap2, rfl, rfl, -, hk2⟩ := h.shape
  have c1 := blk_cell h.blk 1
  have hlt := lt_of_block h.blk
  simp only [List.getElem?_toArray, List.getElem?_cons_succ, List.getElem?_cons_zero] at c1
  rcases place_ways B n with ⟨k0, hk0, e1, -, e3, -, -⟩ | ⟨e1, e2, -, -⟩
  · rw [e1] at HP
    rw [e3]
    obtain ⟨g, rfl, hg, x0, -⟩ := hk2 k0 hk0
    have hk0' : (k0 : Int) < (B.length : Int) := by omega
    generalize B[k0].2 = y at *
    obtain ⟨nl, hnl⟩ : ∃ x, B.length = x := ⟨_, rfl⟩
    rw [hnl] at c1 hk0 hk0'
    clear h e1 e3 hk2 hB hnl
    go_enter Try.func21, Try.ntmps21
    go_wp2_with fail
    refine HP.out.mono ?_
    rintro e w3 ⟨rfl, rfl⟩
    go_wp2
    go_ret
    exact ⟨rfl, Below.refl _ _⟩
  · rw [e1] at HP
    rw [e2]
    clear h e1 e2 hk2 hB c1
    have HF := hid (full_none w)
    go_enter Try.func21, Try.ntmps21
    go_wp2_with fail
    refine HP.out.mono ?_
    rintro e w3 ⟨rfl, rfl⟩
    go_wp2_with fail
    refine HF.out.mono ?_
    rintro e w4 ⟨rfl, hb⟩
    have HB := hid hb
    clear hb
    go_wp2
    go_ret
    exact ⟨rfl, HB.out⟩
end Sp
end Go.Proofs.Ytkoglikaaehhjaa
