/-
  Contracts of the project's Good and of what it calls.
-/
import Derived.Test.YtoifhcmgeackdaaGreatDoorGrpTrNoA
import Derived.Test.YtoifhcmgeackdaaGreatDoorNodeShelf
import Derived.Laws.Cover1
namespace Go.Proofs.YtoifhcmgeackdaaGreatDoor
open Go.RowKit
namespace No
open Num (hid)
/-- A boxed node. -/
def Nb (b : Nat) (f : Bool) (ks cs ps : Value) (w : World) : Prop := w.heap[b]? = some (.cells #[.bool f, ks, cs, ps] tN (0, 0))
theorem Nb.lt {b : Nat} {f : Bool} {ks cs ps : Value} {w : World} (h : Nb b f ks cs ps w) : b < w.heap.size := lt_of_block h
theorem Nb.on {b : Nat} {f : Bool} {ks cs ps : Value} {w w' : World} (h : Nb b f ks cs ps w) (hb : Below w.heap.size w w') : Nb b f ks cs ps w' := (hb.block _ (lt_of_block h)).trans h
theorem Nb.new (f : Bool) (ks cs ps : Value) (w : World) : Nb w.heap.size f ks cs ps (w.alloc (.cells #[.bool f, ks, cs, ps] tN)) := heap_alloc_new w _
theorem Nb.cells {b : Nat} {f : Bool} {ks cs ps : Value} {w : World} (h : Nb b f ks cs ps w) : w.cell? ⟨b, 0, none⟩ = some (.bool f) ∧ w.cell? ⟨b, 1, none⟩ = some ks ∧ w.cell? ⟨b, 2, none⟩ = some cs ∧ w.cell? ⟨b, 3, none⟩ = some ps := by
  unfold Nb at h
  simp [World.cell?, h]
/-- A boxed cell. -/
def Cb (b : Nat) (c : C) (w : World) : Prop := w.heap[b]? = some (.cells #[.int .i64 c.z, .string (bs c.d), .int .i64 c.p] tC (0, 0))
theorem Cb.new (c : C) (w : World) : Cb w.heap.size c (w.alloc (.cells #[.int .i64 c.z, .string (bs c.d), .int .i64 c.p] tC)) := heap_alloc_new w _
theorem Cb.cells {b : Nat} {c : C} {w : World} (h : Cb b c w) : w.cell? ⟨b, 0, none⟩ = some (.int .i64 c.z) ∧ w.cell? ⟨b, 1, none⟩ = some (.string (bs c.d)) ∧ w.cell? ⟨b, 2, none⟩ = some (.int .i64 c.p) := by
  unfold Cb at h
  simp [World.cell?, h]
theorem Cb.on {b : Nat} {c : C} {w w' : World} (h : Cb b c w) (hb : Below w.heap.size w w') : Cb b c w' := (hb.block _ (lt_of_block h)).trans h
theorem all_split {α : Type} {p : α → Bool} {l : List α} {k : Nat} (h : k < l.length) (hg : p l[k] = false) : l.all p = false := by
  rw [List.all_eq_false]
  exact ⟨l[k], List.getElem_mem h, by rw [hg]; decide⟩
theorem all_full {α : Type} {p : α → Bool} {l : List α} (hk : ∀ j (hj : j < l.length), p l[j] = true) : l.all p = true := by
  rw [List.all_eq_true]
  intro v hv
  obtain ⟨j, hj, rfl⟩ := List.getElem_of_mem hv
  exact hk j hj
/-! ### Small tests -/
theorem islong_any (k : Bs) (w : World) : Calls Tryz.prog 134 #[.string (bs k)] w fun e w' => e = .returned (.bool (!short k)) ∧ Below w.heap.size w w' := by
  have hz := bs_size k
  unfold short
  by_cases h : k.length ≤ 64
  · rw [decide_eq_true h]
    have h1 : ¬ (64 : Int) < ((bs k).size : Int) := by omega
    clear hz h
    go_enter Tryz.func134, Tryz.ntmps134
    go_wp2
    go_ret
    exact ⟨rfl, Below.refl _ _⟩
  · rw [decide_eq_false h]
    have h1 : (64 : Int) < ((bs k).size : Int) := by omega
    clear hz h
    go_enter Tryz.func134, Tryz.ntmps134
    go_wp2
    go_ret
    exact ⟨rfl, Below.refl _ _⟩
theorem natbeq (a b : Nat) : ((a : Int) == (b : Int)) = decide (a = b) := by
  rw [Bool.eq_iff_iff, beq_iff_eq, decide_eq_true_eq]
  omega
theorem ret_b {a b : Bool} (h : a = b) : Ending.returned (.bool a) = .returned (.bool b) := by rw [h]
theorem isnopage_any (p : Int) (w : World) : Calls Tryz.prog 172 #[.int .i64 p] w fun e w' => e = .returned (.bool (!okP p)) ∧ Below w.heap.size w w' := by
  have e : okP p = (decide (1 ≤ p) && decide (p < 4096)) := rfl
  rw [e]
  by_cases h1 : p < 1
  · rw [decide_eq_false (by omega : ¬ 1 ≤ p)]
    clear e
    go_enter Tryz.func172, Tryz.ntmps172
    go_wp2
    go_ret
    exact ⟨rfl, Below.refl _ _⟩
  · rw [decide_eq_true (by omega : 1 ≤ p)]
    by_cases h2 : 4096 ≤ p
    · rw [decide_eq_false (by omega : ¬ p < 4096)]
      clear e
      go_enter Tryz.func172, Tryz.ntmps172
      go_wp2
      go_ret
      exact ⟨rfl, Below.refl _ _⟩
    · rw [decide_eq_true (by omega : p < 4096)]
      clear e
      go_enter Tryz.func172, Tryz.ntmps172
      go_wp2
      go_ret
      exact ⟨rfl, Below.refl _ _⟩
theorem isinline_any (z : Int) (w : World) : Calls Tryz.prog 171 #[.int .i64 z] w fun e w' => e = .returned (.bool (decide (z ≤ 40))) ∧ w = w' := by
  go_enter Tryz.func171, Tryz.ntmps171
  go_wp2
  all_goals (
    go_ret
    refine ⟨ret_b ?_, rfl⟩
    simp_all)
theorem bs_nil_iff (d : Bs) : ((bs d).toList == []) = decide (d = []) := by
  rw [bs_list]
  cases d <;> rfl
set_option maxRecDepth 100000 in
set_option maxHeartbeats 1000000 in
theorem isbad_any (c : C) (w : World) : Calls Tryz.prog 137 #[.agg #[.int .i64 c.z, .string (bs c.d), .int .i64 c.p]] w fun e w' => e = .returned (.bool (!okC c)) ∧ Below w.heap.size w w' := by
  obtain ⟨z, d, p⟩ := c
  have hz := bs_size d
  have B1 := hid ((Below.refl w.heap.size w).alloc (Nat.le_refl _) (.cells #[.int .i64 z, .string (bs d), .int .i64 p] tC))
  have HI := hid (isinline_any z)
  have HP := hid (isnopage_any p)
  unfold okC
  simp only
  by_cases h0 : z < 0
  · have h0' : ¬ 0 ≤ z := by omega
    rw [decide_eq_false h0']
    clear h0' hz
    go_enter Tryz.func137, Tryz.ntmps137
    go_wp2
    go_ret
    exact ⟨rfl, B1.out⟩
  · have h0' : 0 ≤ z := by omega
    rw [decide_eq_true h0']
    by_cases h5 : 5000 < z
    · rw [decide_eq_false (by omega : ¬ z ≤ 5000)]
      clear h0' hz
      go_enter Tryz.func137, Tryz.ntmps137
      go_wp2
      go_ret
      exact ⟨rfl, B1.out⟩
    · rw [decide_eq_true (by omega : z ≤ 5000)]
      by_cases h4 : z ≤ 40
      · rw [if_pos h4]
        rw [decide_eq_true h4] at HI
        by_cases hd : (d.length : Int) = z
        · rw [decide_eq_true hd]
          have hd' : (((bs d).size : Int) != z) = false := by rw [hz]; simpa using hd
          by_cases hp : p = 0
          · rw [decide_eq_true hp]
            have hp' : (p != 0) = false := by rw [hp]; rfl
            clear h0' hz h4 hd hp
            go_enter Tryz.func137, Tryz.ntmps137
            go_wp2_with fail
            refine (HI.out _).mono ?_
            rintro e w3 ⟨rfl, rfl⟩
            go_wp2
            go_ret
            exact ⟨rfl, B1.out⟩
          · rw [decide_eq_false hp]
            have hp' : (p != 0) = true := by simpa using hp
            clear h0' hz h4 hd hp
            go_enter Tryz.func137, Tryz.ntmps137
            go_wp2_with fail
            refine (HI.out _).mono ?_
            rintro e w3 ⟨rfl, rfl⟩
            go_wp2
            go_ret
            exact ⟨rfl, B1.out⟩
        · rw [decide_eq_false hd]
          have hd' : (((bs d).size : Int) != z) = true := by rw [hz]; simpa using hd
          clear h0' hz h4 hd
          go_enter Tryz.func137, Tryz.ntmps137
          go_wp2_with fail
          refine (HI.out _).mono ?_
          rintro e w3 ⟨rfl, rfl⟩
          go_wp2
          go_ret
          exact ⟨rfl, B1.out⟩
      · rw [if_neg h4]
        rw [decide_eq_false h4] at HI
        have HX := bs_nil_iff d
        cases hq : decide (d = []) with
        | true =>
          rw [hq] at HX
          clear h0' hz h4 hq
          go_enter Tryz.func137, Tryz.ntmps137
          go_wp2_with fail
          refine (HI.out _).mono ?_
          rintro e w3 ⟨rfl, rfl⟩
          go_wp2_with fail
          refine (HP.out _).mono ?_
          rintro e w3 ⟨rfl, hb⟩
          have B3 := hid (B1.out.trans (hb.mono B1.out.size))
          clear hb
          go_wp2
          go_ret
          exact ⟨rfl, B3.out⟩
        | false =>
          rw [hq] at HX
          clear h0' hz h4 hq
          go_enter Tryz.func137, Tryz.ntmps137
          go_wp2_with fail
          refine (HI.out _).mono ?_
          rintro e w3 ⟨rfl, rfl⟩
          go_wp2
          go_ret
          exact ⟨rfl, B1.out⟩
set_option maxRecDepth 100000 in
set_option maxHeartbeats 1000000 in
theorem indexS_any (x : Value) (l : List Bs) (w : World) (h : SAt w x l) :
    Calls Tryz.prog 169 #[x, .func (.func 134) #[] #[]] w fun e w' => (∃ i : Int, e = .returned (.int .i64 i) ∧ decide (0 ≤ i) = !(l.all short)) ∧ Below w.heap.size w w' := by
  obtain ⟨ao, cap, rfl, hmax, -, hat⟩ := SAt.ways1 h
  have HAT := hid hat
  have hmax' : (l.length : Int) ≤ 9223372036854775807 := by unfold maxLen at hmax; omega
  clear h hat
  go_enter Tryz.func169, Tryz.ntmps169
  go_wp2
  go_loopw [8] (fun i wr => ∃ k : Nat, k ≤ l.length ∧ i = .int .i64 k ∧ (∀ j (hj : j < k) (hl : j < l.length), short l[j] = true) ∧ Below w.heap.size w wr) (fun i _ => l.length - (intOf i).toNat)
  case atStart => exact ⟨0, Nat.zero_le _, rfl, fun j hj => absurd hj (Nat.not_lt_zero _), Below.refl _ _⟩
  case round =>
    obtain ⟨k, hk, rfl, hne, hb⟩ := hrel
    have HNE := hid hne
    have HB := hid hb
    have hszr := hb.size
    clear hne hb
    by_cases hlt : k < l.length
    · obtain ⟨b, o, rfl, hbl, x0⟩ := HAT.out k hlt
      have y0 := (HB.out.cell (p := ⟨b, o + k, none⟩) hbl).trans x0
      clear x0
      have HI := hid (islong_any l[k])
      cases hg : short l[k] with
      | false =>
        rw [hg] at HI
        have HS := hid (all_split (p := short) hlt hg)
        clear hg
        generalize l[k] = v at *
        go_wp2_with fail
        refine (HI.out _).mono ?_
        rintro e w3 ⟨rfl, hb3⟩
        have B3 := hid (HB.out.trans (hb3.mono hszr))
        clear hb3
        go_wp2
        go_ret
        exact ⟨⟨k, rfl, by rw [HS.out]; simp⟩, B3.out⟩
      | true =>
        rw [hg] at HI
        have HG := hid hg
        clear hg
        go_wp2_with fail
        refine (HI.out _).mono ?_
        rintro e w3 ⟨rfl, hb3⟩
        have B3 := hid (HB.out.trans (hb3.mono hszr))
        clear hb3
        go_wp2
        go_roundw
        case rel =>
          refine ⟨k + 1, by omega, by go_num, fun j hj hl => ?_, B3.out⟩
          by_cases hjk : j < k
          · exact HNE.out j hjk hl
          · obtain rfl : j = k := by omega
            exact HG.out
        case measure => simp [intOf]; omega
    · have HS := hid (all_full (p := short) (l := l) (fun j hj => HNE.out j (by omega) hj))
      go_wp2
      go_ret
      exact ⟨⟨-1, rfl, by rw [HS.out]; rfl⟩, HB.out⟩
set_option maxRecDepth 100000 in
set_option maxHeartbeats 1000000 in
theorem containsS_any (x : Value) (l : List Bs) (w : World) (h : SAt w x l) :
    Calls Tryz.prog 133 #[x, .func (.func 134) #[] #[]] w fun e w' => e = .returned (.bool (!(l.all short))) ∧ Below w.heap.size w w' := by
  have H := hid (indexS_any x l w h)
  obtain ⟨ao, cap, rfl, -, -, -⟩ := SAt.ways1 h
  clear h
  go_enter Tryz.func133, Tryz.ntmps133
  go_wp2_with fail
  refine H.out.mono ?_
  rintro e w' ⟨⟨i, rfl, hi⟩, hb⟩
  have HI := hid hi
  have HB := hid hb
  clear hi hb
  go_wp2
  go_ret
  exact ⟨by rw [← HI.out]; rfl, HB.out⟩
set_option maxRecDepth 100000 in
set_option maxHeartbeats 1000000 in
theorem indexC_any (x : Value) (l : List C) (w : World) (h : CAt w x l) :
    Calls Tryz.prog 170 #[x, .func (.func 137) #[] #[]] w fun e w' => (∃ i : Int, e = .returned (.int .i64 i) ∧ decide (0 ≤ i) = !(l.all okC)) ∧ Below w.heap.size w w' := by
  obtain ⟨ao, cap, rfl, hmax, -, hat⟩ := CAt.ways3 h
  have HAT := hid hat
  have hmax' : (l.length : Int) ≤ 9223372036854775807 := by unfold maxLen at hmax; omega
  clear h hat
  go_enter Tryz.func170, Tryz.ntmps170
  go_wp2
  go_loopw [8] (fun i wr => ∃ k : Nat, k ≤ l.length ∧ i = .int .i64 k ∧ (∀ j (hj : j < k) (hl : j < l.length), okC l[j] = true) ∧ Below w.heap.size w wr) (fun i _ => l.length - (intOf i).toNat)
  case atStart => exact ⟨0, Nat.zero_le _, rfl, fun j hj => absurd hj (Nat.not_lt_zero _), Below.refl _ _⟩
  case round =>
    obtain ⟨k, hk, rfl, hne, hb⟩ := hrel
    have HNE := hid hne
    have HB := hid hb
    have hszr := hb.size
    clear hne hb
    by_cases hlt : k < l.length
    · obtain ⟨b, o, rfl, hbl, x0, x1, x2⟩ := HAT.out k hlt
      have y0 := (HB.out.cell (p := ⟨b, o + k * 3, none⟩) hbl).trans x0
      have y1 := (HB.out.cell (p := ⟨b, o + k * 3 + 1, none⟩) hbl).trans x1
      have y2 := (HB.out.cell (p := ⟨b, o + k * 3 + 2, none⟩) hbl).trans x2
      clear x0 x1 x2
      have HI := hid (isbad_any l[k])
      cases hg : okC l[k] with
      | false =>
        rw [hg] at HI
        have HS := hid (all_split (p := okC) hlt hg)
        clear hg
        generalize l[k] = v at *
        go_wp2_with fail
        refine (HI.out _).mono ?_
        rintro e w3 ⟨rfl, hb3⟩
        have B3 := hid (HB.out.trans (hb3.mono hszr))
        clear hb3
        go_wp2
        go_ret
        exact ⟨⟨k, rfl, by rw [HS.out]; simp⟩, B3.out⟩
      | true =>
        rw [hg] at HI
        have HG := hid hg
        clear hg
        go_wp2_with fail
        refine (HI.out _).mono ?_
        rintro e w3 ⟨rfl, hb3⟩
        have B3 := hid (HB.out.trans (hb3.mono hszr))
        clear hb3
        go_wp2
        go_roundw
        case rel =>
          refine ⟨k + 1, by omega, by go_num, fun j hj hl => ?_, B3.out⟩
          by_cases hjk : j < k
          · exact HNE.out j hjk hl
          · obtain rfl : j = k := by omega
            exact HG.out
        case measure => simp [intOf]; omega
    · have HS := hid (all_full (p := okC) (l := l) (fun j hj => HNE.out j (by omega) hj))
      go_wp2
      go_ret
      exact ⟨⟨-1, rfl, by rw [HS.out]; rfl⟩, HB.out⟩
set_option maxRecDepth 100000 in
set_option maxHeartbeats 1000000 in
theorem containsC_any (x : Value) (l : List C) (w : World) (h : CAt w x l) :
    Calls Tryz.prog 136 #[x, .func (.func 137) #[] #[]] w fun e w' => e = .returned (.bool (!(l.all okC))) ∧ Below w.heap.size w w' := by
  have H := hid (indexC_any x l w h)
  obtain ⟨ao, cap, rfl, -, -, -⟩ := CAt.ways3 h
  clear h
  go_enter Tryz.func136, Tryz.ntmps136
  go_wp2_with fail
  refine H.out.mono ?_
  rintro e w' ⟨⟨i, rfl, hi⟩, hb⟩
  have HI := hid hi
  have HB := hid hb
  clear hi hb
  go_wp2
  go_ret
  exact ⟨by rw [← HI.out]; rfl, HB.out⟩
set_option maxRecDepth 100000 in
set_option maxHeartbeats 1000000 in
theorem indexI_any (x : Value) (l : List Int) (w : World) (h : IAt w x l) :
    Calls Tryz.prog 188 #[x, .func (.func 172) #[] #[]] w fun e w' => (∃ i : Int, e = .returned (.int .i64 i) ∧ decide (0 ≤ i) = !(l.all okP)) ∧ Below w.heap.size w w' := by
  obtain ⟨ao, cap, rfl, hmax, -, hat⟩ := IAt.ways1 h
  have HAT := hid hat
  have hmax' : (l.length : Int) ≤ 9223372036854775807 := by unfold maxLen at hmax; omega
  clear h hat
  go_enter Tryz.func188, Tryz.ntmps188
  go_wp2
  go_loopw [8] (fun i wr => ∃ k : Nat, k ≤ l.length ∧ i = .int .i64 k ∧ (∀ j (hj : j < k) (hl : j < l.length), okP l[j] = true) ∧ Below w.heap.size w wr) (fun i _ => l.length - (intOf i).toNat)
  case atStart => exact ⟨0, Nat.zero_le _, rfl, fun j hj => absurd hj (Nat.not_lt_zero _), Below.refl _ _⟩
  case round =>
    obtain ⟨k, hk, rfl, hne, hb⟩ := hrel
    have HNE := hid hne
    have HB := hid hb
    have hszr := hb.size
    clear hne hb
    by_cases hlt : k < l.length
    · obtain ⟨b, o, rfl, hbl, x0⟩ := HAT.out k hlt
      have y0 := (HB.out.cell (p := ⟨b, o + k, none⟩) hbl).trans x0
      clear x0
      have HI := hid (isnopage_any l[k])
      cases hg : okP l[k] with
      | false =>
        rw [hg] at HI
        have HS := hid (all_split (p := okP) hlt hg)
        clear hg
        generalize l[k] = v at *
        go_wp2_with fail
        refine (HI.out _).mono ?_
        rintro e w3 ⟨rfl, hb3⟩
        have B3 := hid (HB.out.trans (hb3.mono hszr))
        clear hb3
        go_wp2
        go_ret
        exact ⟨⟨k, rfl, by rw [HS.out]; simp⟩, B3.out⟩
      | true =>
        rw [hg] at HI
        have HG := hid hg
        clear hg
        go_wp2_with fail
        refine (HI.out _).mono ?_
        rintro e w3 ⟨rfl, hb3⟩
        have B3 := hid (HB.out.trans (hb3.mono hszr))
        clear hb3
        go_wp2
        go_roundw
        case rel =>
          refine ⟨k + 1, by omega, by go_num, fun j hj hl => ?_, B3.out⟩
          by_cases hjk : j < k
          · exact HNE.out j hjk hl
          · obtain rfl : j = k := by omega
            exact HG.out
        case measure => simp [intOf]; omega
    · have HS := hid (all_full (p := okP) (l := l) (fun j hj => HNE.out j (by omega) hj))
      go_wp2
      go_ret
      exact ⟨⟨-1, rfl, by rw [HS.out]; rfl⟩, HB.out⟩
set_option maxRecDepth 100000 in
set_option maxHeartbeats 1000000 in
theorem containsI_any (x : Value) (l : List Int) (w : World) (h : IAt w x l) :
    Calls Tryz.prog 173 #[x, .func (.func 172) #[] #[]] w fun e w' => e = .returned (.bool (!(l.all okP))) ∧ Below w.heap.size w w' := by
  have H := hid (indexI_any x l w h)
  obtain ⟨ao, cap, rfl, -, -, -⟩ := IAt.ways1 h
  clear h
  go_enter Tryz.func173, Tryz.ntmps173
  go_wp2_with fail
  refine H.out.mono ?_
  rintro e w' ⟨⟨i, rfl, hi⟩, hb⟩
  have HI := hid hi
  have HB := hid hb
  clear hi hb
  go_wp2
  go_ret
  exact ⟨by rw [← HI.out]; rfl, HB.out⟩
/-! ### No number twice -/
theorem below_put {B : Nat} {w0 w : World} (h : Below B w0 w) (enc : Int → Value) (g o m : Nat) (d : Array Int) (os : Array Obj) (hg : B ≤ g) (hs : B ≤ w.heap.size) : Below B w0 (sortWorld enc w g o m d os) := by
  refine h.trans ⟨rfl, rfl, rfl, ?_, fun k hk => ?_⟩
  · show w.heap.size ≤ (Sort.grow (Sort.putRow enc (Sort.ahead w m) g o d) os).heap.size
    rw [Sort.size_grow, Sort.size_putRow]
    exact Nat.le_add_right _ _
  · show (Sort.grow (Sort.putRow enc (Sort.ahead w m) g o d) os).heap[k]? = _
    rw [Sort.heap_grow_old _ _ (by rw [Sort.size_putRow]; show k < w.heap.size; omega)]
    show (w.heap.modify g _)[k]? = _
    rw [Array.getElem?_modify, if_neg (by omega)]
theorem below_put0 {B : Nat} {w0 w : World} (h : Below B w0 w) (enc : Int → Value) (g o m : Nat) (d : Array Int) (hg : B ≤ g) (hs : B ≤ w.heap.size) : Below B w0 (Sort.putRow enc (Sort.ahead w m) g o d) := by
  have := below_put h enc g o m d #[] hg hs
  unfold sortWorld at this
  rwa [Sort.grow_empty] at this
theorem cmp_lays (g o size : Nat) (w : World) : CmpLays1 Tryz.prog 191 #[] (Value.int .i64) Lib.compareInt g o size w := by
  intro m os dk _ x y
  refine (Any.cmp_Compare_int Tryz.cmpIL x y _).mono ?_
  rintro e w' ⟨rfl, rfl⟩
  exact ⟨rfl, 0, #[], by rw [Sort.grow_empty]; rfl⟩
theorem enters_cmp : ∀ args w, (callFunc 191 args).run Tryz.prog w = .ok (.enter 191 args) w := enters_of Tryz.func191 (by kernel_rfl) rfl
/-- Sort and Compact of a list of the call's own: how many are left. -/
theorem holds_own {w : World} {base : Nat} {g cap n : Nat} {l : List Int} (h : w.ownsRow base tI 1 (.slice (some ⟨g, 0, none⟩) n cap) n (l.map (Value.int .i64))) : Sort.Holds (Value.int .i64) w g 0 l.toArray := by
  rcases h.2 with ⟨h0, _⟩ | ⟨g', cap', cur, hv, h1, h2, h3, h4, h5, h6⟩
  · cases h0
  · cases hv
    intro j hj
    have hj' : j < l.length := by simpa using hj
    refine ⟨?_, ?_⟩
    · have := h.cellAt j (by rw [← h.1, List.length_map]; exact hj')
      rw [Nat.zero_add, this]
      simp [getElem!_pos, hj']
    · simp [World.frozen?, h2]
set_option maxRecDepth 100000 in
set_option maxHeartbeats 2000000 in
theorem unlike_any (x : Value) (l : List Int) (w : World) (h : IAt w x l) (h0 : l ≠ []) (hl : l.length ≤ 4096) :
    Calls Tryz.prog 174 #[x] w fun e w' => e = .returned (.bool (unlike l)) ∧ Below w.heap.size w w' := by
  have hl0 : 0 < l.length := List.length_pos_iff.2 h0
  obtain ⟨ao, cap, rfl, -, hcap, hat⟩ := IAt.ways1 h
  obtain ⟨b, o, rfl, hbl, -⟩ := hat 0 hl0
  have HC : Hid (∀ j, j < l.length → w.cell? ⟨b, o + j, none⟩ = some (.int .i64 (l.getD j 0))) := hid (fun j hj => by
    obtain ⟨b', o', e, _, hx⟩ := hat j hj
    cases e
    rw [hx]
    simp [List.getD, hj])
  have HCl := hid (Any.slices_Clone_int Tryz.cloneI b o l.length cap l w (Nat.le_refl _) (by omega) HC.out)
  rw [List.take_length] at HCl
  clear h h0 hat HC
  go_enter Tryz.func174, Tryz.ntmps174
  go_wp2_with fail
  refine HCl.out.mono ?_
  rintro e w1 ⟨v', rfl, hown, -, hb⟩
  have hx : ∃ g cap', v' = .slice (some ⟨g, 0, none⟩) l.length cap' ∧ w.heap.size ≤ g ∧ g < w1.heap.size ∧ l.length ≤ cap' := by
    rcases hown.2 with ⟨_, e0⟩ | ⟨g, cap', cur, hv, h1, h2, h3, _⟩
    · omega
    · exact ⟨g, cap', hv, h1, lt_of_block h2, h3⟩
  obtain ⟨g, cap', rfl, hg, hgl, hcl⟩ := hx
  have HH := holds_own hown
  have B1 := hid hb
  have hsz1 := hb.size
  have HSo := hid (Any.slices_SortFunc Tryz.sortF (Value.int .i64) (fun _ => rfl) Lib.compareInt swo_cmp 191 #[] g 0 cap' l.toArray w1 enters_cmp (cmp_lays _ _ _ _) HH hgl (by simp; omega))
  rw [List.size_toArray] at HSo
  clear hown hb
  go_wp2_with fail
  refine HSo.out.mono ?_
  rintro e w2 ⟨rfl, d', m, os, hP, hS, rfl⟩
  have hd : d'.size = l.length := by simpa using hP.1
  have HL := hid (compact_len l d' hP hS)
  have HH2 : Sort.Holds (Value.int .i64) (sortWorld (Value.int .i64) w1 g 0 m d' os) g 0 d'.toList.toArray := by
    have h1 := Sort.holds_putRow (Value.int .i64) (Sort.ahead w1 m) g 0 l.toArray d' (Sort.holds_ahead _ _ m _ _ _ HH) (by rw [hd]; simp)
    have h2 := Sort.holds_grow (Value.int .i64) _ os g 0 d' (by rw [Sort.size_putRow]; exact hgl) h1
    rw [Array.toArray_toList]
    exact h2
  have B2 := hid (below_put B1.out (Value.int .i64) g 0 m d' os hg hsz1)
  have HCo := hid (Any.slices_Compact_int Tryz.compI g 0 cap' d'.toList _ HH2 (by simp; omega) (by simp; omega))
  rw [Array.length_toList, hd] at HCo
  have hsz2 : w.heap.size ≤ (sortWorld (Value.int .i64) w1 g 0 m d' os).heap.size := B2.out.size
  generalize sortWorld (Value.int .i64) w1 g 0 m d' os = w2 at *
  clear hP hS HH HH2
  go_wp2_with fail
  refine HCo.out.mono ?_
  rintro e w3 ⟨rfl, q, rfl⟩
  have B3 := hid (below_put0 B2.out (Value.int .i64) g 0 q (Lib.compact d'.toList ++ List.replicate (l.length - (Lib.compact d'.toList).length) 0).toArray hg hsz2)
  generalize Sort.putRow (Value.int .i64) (Sort.ahead w2 q) g 0 (Lib.compact d'.toList ++ List.replicate (l.length - (Lib.compact d'.toList).length) 0).toArray = w3 at *
  generalize (Lib.compact d'.toList).length = nl at *
  clear hd
  go_wp2
  all_goals (
    go_ret
    refine ⟨ret_b ?_, B3.out⟩
    rw [← HL.out]
    exact natbeq _ _)
set_option maxRecDepth 100000 in
set_option maxHeartbeats 1000000 in
theorem arekids_any (x : Value) (l : List Int) (w : World) (h : IAt w x l) (h0 : l ≠ []) (hl : l.length < 4096) :
    Calls Tryz.prog 138 #[x] w fun e w' => e = .returned (.bool (l.all okP && unlike l)) ∧ Below w.heap.size w w' := by
  have HC := hid (containsI_any x l w h)
  have HU := hid (fun w (h : IAt w x l) => unlike_any x l w h h0 (by omega))
  have HA := hid h
  obtain ⟨ao, cap, rfl, -, -, -⟩ := IAt.ways1 h
  have hl' : (l.length : Int) < 4096 := by omega
  clear h h0 hl
  cases hp : l.all okP with
  | false =>
    rw [hp] at HC
    clear hp
    go_enter Tryz.func138, Tryz.ntmps138
    go_wp2_with fail
    refine HC.out.mono ?_
    rintro e w1 ⟨rfl, hb⟩
    have B1 := hid hb
    clear hb
    go_wp2
    go_ret
    exact ⟨rfl, B1.out⟩
  | true =>
    rw [hp] at HC
    clear hp
    go_enter Tryz.func138, Tryz.ntmps138
    go_wp2_with fail
    refine HC.out.mono ?_
    rintro e w1 ⟨rfl, hb⟩
    have B1 := hid hb
    clear hb
    go_wp2_with fail
    refine (HU.out _ (HA.out.on B1.out)).mono ?_
    rintro e w2 ⟨rfl, hb⟩
    have B2 := hid (B1.out.trans (hb.mono B1.out.size))
    clear hb
    go_wp2
    go_ret
    exact ⟨rfl, B2.out⟩
/-! ### Keys that rise -/
theorem leq_less (a b : Bs) : (Op.bytesLess b a || b == a) = !less a b := by
  have h1 := less_cmp a b
  have h2 := less_cmp b a
  have h3 := cmp_anti a b
  have h4 := cmp_zero b a
  unfold less at h1 h2 ⊢
  rw [h1, h2]
  by_cases e : Lib.compareBytes b a = 0
  · rw [h4.1 e]
    have : Lib.compareBytes a a = 0 := (cmp_zero a a).2 rfl
    rw [this]
    simp
  · have hne : (b == a) = false := by rw [beq_eq_false_iff_ne]; exact fun x => e (h4.2 x)
    rw [hne]
    simp only [Bool.or_false]
    rw [← decide_not, decide_eq_decide]
    omega
theorem rise_full {l : List Bs} (h : ∀ j (hj : j + 1 < l.length), less (l[j]'(by omega)) l[j + 1] = true) : rise l = true := (rise_iff l).2 h
theorem rise_no {l : List Bs} {j : Nat} (hj : j + 1 < l.length) (h : less (l[j]'(by omega)) l[j + 1] = false) : rise l = false := by
  cases e : rise l with
  | false => rfl
  | true => rw [(rise_iff l).1 e j hj] at h; cases h
set_option maxRecDepth 100000 in
set_option maxHeartbeats 2000000 in
theorem rise_any (x : Value) (l : List Bs) (w : World) (h : SAt w x l) :
    Calls Tryz.prog 135 #[x] w fun e w' => e = .returned (.bool (rise l)) ∧ Below w.heap.size w w' := by
  obtain ⟨ao, cap, rfl, hmax, -, hat⟩ := SAt.ways1 h
  have HAT := hid hat
  have hmax' : (l.length : Int) ≤ 9223372036854775807 := by unfold maxLen at hmax; omega
  clear h hat
  go_enter Tryz.func135, Tryz.ntmps135
  go_wp2
  go_loopw [3] (fun i wr => ∃ k : Nat, i = .int .i64 ((k : Int) + 1) ∧ (∀ j (hj : j < k) (hl : j + 1 < l.length), less (l[j]'(by omega)) l[j + 1] = true) ∧ Below w.heap.size w wr) (fun i _ => l.length - (intOf i).toNat)
  case atStart => exact ⟨0, rfl, fun j hj => absurd hj (Nat.not_lt_zero _), Below.refl _ _⟩
  case round =>
    obtain ⟨k, rfl, hne, hb⟩ := hrel
    have HNE := hid hne
    have HB := hid hb
    have hszr := hb.size
    clear hne hb
    by_cases hlt : k + 1 < l.length
    · obtain ⟨b, o, rfl, hbl, x0⟩ := HAT.out k (by omega)
      obtain ⟨b', o', e', -, x1⟩ := HAT.out (k + 1) hlt
      cases e'
      have y0 := (HB.out.cell (p := ⟨b, o + k, none⟩) hbl).trans x0
      have y1 := (HB.out.cell (p := ⟨b, o + (k + 1), none⟩) hbl).trans x1
      clear x0 x1
      have HL := leq_less l[k] l[k + 1]
      have hlt' : (k : Int) + 1 < l.length := by omega
      have hk1 : (k : Int) + 1 - 1 = k := by omega
      rw [← bs_list l[k + 1], ← bs_list l[k]] at HL
      rw [bs_list l[k + 1], bs_list l[k]] at HL
      cases hg : less l[k] l[k + 1] with
      | false =>
        rw [hg] at HL
        have HS := hid (rise_no hlt hg)
        have HH := hid HL
        clear HL hg
        cases hx : Op.bytesLess (bs l[k + 1]).toList (bs l[k]).toList with
        | true =>
          go_wp2
          go_region
          all_goals
            go_wp2
            go_ret
            exact ⟨by rw [HS.out]; rfl, HB.out.drew⟩
        | false =>
          have hy : ((bs l[k + 1]).toList == (bs l[k]).toList) = true := by
            have h0 := HH.out
            rw [bs_list, bs_list] at hx ⊢
            rw [hx] at h0
            simpa using h0
          go_wp2
          go_region
          all_goals
            go_wp2
            go_ret
            exact ⟨by rw [HS.out]; rfl, HB.out.drew⟩
      | true =>
        rw [hg] at HL
        have HG := hid hg
        have hx : Op.bytesLess (bs l[k + 1]).toList (bs l[k]).toList = false := by
          rw [bs_list, bs_list]
          simp only [Bool.not_true, Bool.or_eq_false_iff] at HL
          exact HL.1
        have hy : ((bs l[k + 1]).toList == (bs l[k]).toList) = false := by
          rw [bs_list, bs_list]
          simp only [Bool.not_true, Bool.or_eq_false_iff] at HL
          exact HL.2
        clear HL hg
        go_wp2
        go_region
        all_goals
          go_wp2
          go_roundw
          case rel =>
            refine ⟨k + 1, by go_num, fun j hj hl => ?_, HB.out.drew⟩
            by_cases hjk : j < k
            · exact HNE.out j hjk hl
            · obtain rfl : j = k := by omega
              exact HG.out
          case measure => simp [intOf]; omega
    · have HS := hid (rise_full (l := l) (fun j hj => HNE.out j (by omega) hj))
      have hlt' : ¬ (k : Int) + 1 < l.length := by omega
      go_wp2
      go_ret
      exact ⟨by rw [HS.out]; rfl, HB.out⟩
end No
end Go.Proofs.YtoifhcmgeackdaaGreatDoor
