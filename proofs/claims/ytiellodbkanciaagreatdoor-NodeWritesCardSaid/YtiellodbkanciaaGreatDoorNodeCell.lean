/-
  The reader's methods, whether it lives or failed; contract of its cell.
-/
import Derived.Test.YtiellodbkanciaaGreatDoorNodeRead
namespace Go.Proofs.YtiellodbkanciaaGreatDoor
open Go.RowKit
namespace No
open Num (hid unvL unfF)
/-- What a method made of a reader that may have failed. -/
def Ran {α : Type} (S : Bs) (e : Bool) (x : Option (α × Bs)) (z y : α) (T : Bs) (e' : Bool) : Prop :=
  T.length ≤ S.length ∧ ((e = false ∧ e' = false ∧ x = some (y, T)) ∨ (e' = true ∧ y = z ∧ (e = false → x = none)))
theorem Ran.ok {α : Type} {S T : Bs} {x : Option (α × Bs)} {z y : α} (h : x = some (y, T)) (hl : T.length ≤ S.length) : Ran S false x z y T false := ⟨hl, Or.inl ⟨rfl, rfl, h⟩⟩
theorem Ran.no {α : Type} {S : Bs} {e : Bool} {x : Option (α × Bs)} {z : α} (h : e = false → x = none) : Ran S e x z z S true := ⟨Nat.le_refl _, Or.inr ⟨rfl, rfl, h⟩⟩
theorem byS_len {S x t : Bs} {n : Nat} (h : byS S n = some (x, t)) : t.length ≤ S.length := by
  obtain ⟨h1, _⟩ := byS_back h
  rw [h1, List.length_append]; omega
theorem upS_len {S t : Bs} {m n : Nat} (h : upS S m = some (n, t)) : t.length ≤ S.length := by
  obtain ⟨h1, _⟩ := upS_back h
  rw [h1, List.length_append]; omega
theorem fxS_len {S t : Bs} {m n : Nat} (h : fxS S m = some (n, t)) : t.length ≤ S.length := by
  obtain ⟨h1, _⟩ := fxS_back h
  rw [h1, List.length_append]; omega
theorem bytes_any (b n : Nat) (S : Bs) (e0 : Bool) (hS : S.length ≤ 281474976710656) (w : World) (h : Rn b S e0 w) :
    Calls Tryz.prog 102 #[ptr b, .int .i64 (n : Nat)] w fun e w' => ∃ y T e1, e = .returned (.string (bs y)) ∧ Rn b T e1 w' ∧ One b w w' ∧ Ran S e0 (byS S n) [] y T e1 := by
  cases e0 with
  | true =>
    refine (bytes_dead b n S w h).mono ?_
    rintro e w' ⟨rfl, hr, ho⟩
    exact ⟨[], S, true, rfl, hr, ho, Ran.no (fun h => by cases h)⟩
  | false =>
    refine (bytes_live b n S hS w h).mono ?_
    rintro e w' ⟨ho, hx⟩
    cases hb : byS S n with
    | none => rw [hb] at hx; obtain ⟨rfl, hr⟩ := hx; exact ⟨[], S, true, rfl, hr, ho, Ran.no (fun _ => rfl)⟩
    | some x => rw [hb] at hx; obtain ⟨rfl, hr⟩ := hx; exact ⟨x.1, x.2, false, rfl, hr, ho, Ran.ok rfl (byS_len hb)⟩
theorem fixed_any (b n : Nat) (hn1 : 1 ≤ n) (hn4 : n ≤ 4) (S : Bs) (e0 : Bool) (hS : S.length ≤ 281474976710656) (w : World) (h : Rn b S e0 w) :
    Calls Tryz.prog 101 #[ptr b, .int .i64 (n : Nat)] w fun e w' => ∃ (y : Nat) (T : Bs) (e1 : Bool), e = .returned (.int .i64 y) ∧ Rn b T e1 w' ∧ One b w w' ∧ Ran S e0 (fxS S n) 0 y T e1 := by
  cases e0 with
  | true =>
    refine (fixed_dead b n S w h).mono ?_
    rintro e w' ⟨rfl, hr, ho⟩
    exact ⟨0, S, true, rfl, hr, ho, Ran.no (fun h => by cases h)⟩
  | false =>
    refine (fixed_live b n hn1 hn4 S hS w h).mono ?_
    rintro e w' ⟨ho, hx⟩
    cases hb : fxS S n with
    | none => rw [hb] at hx; obtain ⟨rfl, hr⟩ := hx; exact ⟨0, S, true, rfl, hr, ho, Ran.no (fun _ => rfl)⟩
    | some x => rw [hb] at hx; obtain ⟨rfl, hr⟩ := hx; exact ⟨x.1, x.2, false, rfl, hr, ho, Ran.ok rfl (fxS_len hb)⟩
theorem upto_any (b m : Nat) (hm : m ≤ 5000) (S : Bs) (e0 : Bool) (hS : S.length ≤ 281474976710656) (w : World) (h : Rn b S e0 w) :
    Calls Tryz.prog 103 #[ptr b, .int .u64 (m : Nat)] w fun e w' => ∃ (y : Nat) (T : Bs) (e1 : Bool), e = .returned (.int .i64 y) ∧ Rn b T e1 w' ∧ One b w w' ∧ Ran S e0 (upS S m) 0 y T e1 := by
  cases e0 with
  | true =>
    refine (upto_dead b m S hS w h).mono ?_
    rintro e w' ⟨rfl, hr, ho⟩
    exact ⟨0, S, true, rfl, hr, ho, Ran.no (fun h => by cases h)⟩
  | false =>
    refine (upto_live b m hm S hS w h).mono ?_
    rintro e w' ⟨ho, hx⟩
    cases hb : upS S m with
    | none => rw [hb] at hx; obtain ⟨rfl, hr⟩ := hx; exact ⟨0, S, true, rfl, hr, ho, Ran.no (fun _ => rfl)⟩
    | some x => rw [hb] at hx; obtain ⟨rfl, hr⟩ := hx; exact ⟨x.1, x.2, false, rfl, hr, ho, Ran.ok rfl (upS_len hb)⟩
/-! ### Boxed cells -/
theorem Cb.lt {b : Nat} {c : C} {w : World} (h : Cb b c w) : b < w.heap.size := lt_of_block h
theorem Cb.one {b g : Nat} {c : C} {w w' : World} (h : Cb g c w) (ho : One b w w') (hne : g ≠ b) : Cb g c w' := (ho.block g (lt_of_block h) hne).trans h
theorem Cb.free {b : Nat} {c : C} {w : World} (h : Cb b c w) : w.frozen? ⟨b, 0, none⟩ = false ∧ w.frozen? ⟨b, 1, none⟩ = false ∧ w.frozen? ⟨b, 2, none⟩ = false := by
  unfold Cb at h
  simp [World.frozen?, h]
theorem Cb.other {g : Nat} {c : C} {w : World} (h : Cb g c w) {g' : Nat} (hg : g' ≠ g) (j : Nat) (u : Value) : Cb g c (w.setCell ⟨g', j, none⟩ u) := (Below.heap_setCell _ _ _ _ (show g ≠ g' from fun e => hg e.symm)).trans h
theorem Cb.put {g : Nat} {c : C} {w : World} (h : Cb g c w) (c' : C) : Cb g c' (((w.setCell ⟨g, 0, none⟩ (.int .i64 c'.z)).setCell ⟨g, 1, none⟩ (.string (bs c'.d))).setCell ⟨g, 2, none⟩ (.int .i64 c'.p)) := by
  unfold Cb at h ⊢
  simp [World.setCell, Array.getElem?_modify, h]
theorem Cb.alloc {b : Nat} {c : C} {w : World} (h : Cb b c w) (o : Obj) : Cb b c (w.alloc o) := h.on ((Below.refl _ _).alloc (Nat.le_refl _) o)
abbrev cObj (c : C) : Obj := .cells #[.int .i64 c.z, .string (bs c.d), .int .i64 c.p] tC
def noC : C := ⟨0, [], 0⟩
def CRan (S : Bs) (e : Bool) (c : C) (T : Bs) (e' : Bool) : Prop := T.length ≤ S.length ∧ ((e = false ∧ e' = false ∧ ceS S = some (c, T)) ∨ (e' = true ∧ (e = false → ceS S = none)))
theorem cran_bytes {S T1 T2 x : Bs} {e0 e1 e2 : Bool} {y : Nat} (h1 : Ran S e0 (upS S 5000) 0 y T1 e1) (h4 : y ≤ 40) (h2 : Ran T1 e1 (byS T1 y) [] x T2 e2) : CRan S e0 ⟨y, x, 0⟩ T2 e2 := by
  obtain ⟨l1, h1⟩ := h1
  obtain ⟨l2, h2⟩ := h2
  refine ⟨Nat.le_trans l2 l1, ?_⟩
  unfold ceS
  rcases h1 with ⟨rfl, rfl, hx⟩ | ⟨rfl, rfl, hx⟩
  · rw [hx]
    show _ ∨ (_ ∧ (_ → ceB y T1 = none))
    rcases h2 with ⟨-, rfl, hy⟩ | ⟨rfl, -, hy⟩
    · refine Or.inl ⟨rfl, rfl, ?_⟩
      show ceB y T1 = _
      unfold ceB
      rw [if_pos h4, hy]
      rfl
    · refine Or.inr ⟨rfl, fun _ => ?_⟩
      unfold ceB
      rw [if_pos h4, hy rfl]
      rfl
  · rcases h2 with ⟨he, _, _⟩ | ⟨rfl, -, hy⟩
    · cases he
    · exact Or.inr ⟨rfl, fun h => by rw [hx h]; rfl⟩
theorem cran_page {S T1 T2 : Bs} {e0 e1 e2 : Bool} {y p : Nat} (h1 : Ran S e0 (upS S 5000) 0 y T1 e1) (h4 : ¬ y ≤ 40) (h2 : Ran T1 e1 (fxS T1 4) 0 p T2 e2) : CRan S e0 ⟨y, [], p⟩ T2 e2 := by
  obtain ⟨l1, h1⟩ := h1
  obtain ⟨l2, h2⟩ := h2
  refine ⟨Nat.le_trans l2 l1, ?_⟩
  unfold ceS
  rcases h1 with ⟨rfl, rfl, hx⟩ | ⟨rfl, rfl, hx⟩
  · rw [hx]
    show _ ∨ (_ ∧ (_ → ceB y T1 = none))
    rcases h2 with ⟨-, rfl, hy⟩ | ⟨rfl, -, hy⟩
    · refine Or.inl ⟨rfl, rfl, ?_⟩
      show ceB y T1 = _
      unfold ceB
      rw [if_neg h4, hy]
      rfl
    · refine Or.inr ⟨rfl, fun _ => ?_⟩
      unfold ceB
      rw [if_neg h4, hy rfl]
      rfl
  · exact absurd (Nat.zero_le 40) h4
set_option maxRecDepth 100000 in
set_option maxHeartbeats 2000000 in
theorem cell_any (b : Nat) (S : Bs) (e0 : Bool) (hS : S.length ≤ 281474976710656) (w : World) (h : Rn b S e0 w) :
    Calls Tryz.prog 104 #[ptr b] w fun e w' => ∃ c T e1, e = .returned c.agg ∧ Rn b T e1 w' ∧ One b w w' ∧ CRan S e0 c T e1 := by
  have hbl := h.lt
  have R0 := hid (Cb.new noC w)
  have O0 := hid ((One.refl b w).alloc (cObj noC))
  have HU := hid (upto_any b 5000 (Nat.le_refl _) S e0 hS _ (h.alloc (cObj noC)))
  clear h
  go_enter Tryz.func104, Tryz.ntmps104
  go_wp2_with fail
  refine HU.out.mono ?_
  rintro e w1 ⟨y, T1, e1, rfl, hr, ho, hran⟩
  have R1 := hid (R0.out.one ho (by omega))
  have hl1 := R1.out.lt
  have HR1 := hid (hr.alloc (cObj ⟨y, [], 0⟩))
  have HO1 := hid ((O0.out.trans ho).alloc (cObj ⟨y, [], 0⟩))
  have R2 := hid (R1.out.alloc (cObj ⟨y, [], 0⟩))
  have T2 := hid (Cb.new ⟨y, [], 0⟩ w1)
  have hb1 : b < w1.heap.size := hr.lt
  have HRan := hid hran
  have hT1 := hran.1
  have hne : ¬ w1.heap.size = w.heap.size := by omega
  have hne2 : ¬ w.heap.size = w1.heap.size := by omega
  clear hr ho hran R1
  by_cases h4 : y ≤ 40
  · have HI := hid (isinline_any (y : Int))
    rw [decide_eq_true (by omega : (y : Int) ≤ 40)] at HI
    have HB := hid (bytes_any b y T1 e1 (by omega) _ HR1.out)
    go_wp2_with fail
    refine (HI.out _).mono ?_
    rintro e w2 ⟨rfl, rfl⟩
    go_wp2_with fail
    refine HB.out.mono ?_
    rintro e w3 ⟨x, T3, e3, rfl, hr, ho, hran⟩
    have R3 := hid (R2.out.one ho (by omega))
    have T3' := hid (T2.out.one ho (by omega))
    have HR3 := hid hr
    have HO3 := hid (HO1.out.trans ho)
    have HC := hid (cran_bytes HRan.out h4 hran)
    have hl2 := R3.out.lt
    have hl3 := T3'.out.lt
    clear hr ho hran R2 T2
    obtain ⟨t0, t1, t2⟩ := T3'.out.cells
    obtain ⟨tf0, tf1, tf2⟩ := T3'.out.free
    obtain ⟨r0, r1, r2⟩ := R3.out.cells
    obtain ⟨f0, f1, f2⟩ := R3.out.free
    have U := hid (Cb.put (Cb.other R3.out (by omega : w1.heap.size ≠ w.heap.size) 1 (.string (bs x))) ⟨y, x, 0⟩).cells
    have HR5 := hid (((HR3.out.other (by omega : w1.heap.size ≠ b) 1 (.string (bs x))).other (by omega : w.heap.size ≠ b) 0 (.int .i64 y)).other (by omega : w.heap.size ≠ b) 1 (.string (bs x)) |>.other (by omega : w.heap.size ≠ b) 2 (.int .i64 0))
    have HO5 := hid ((((HO3.out.high (by omega : w.heap.size ≤ w1.heap.size) 1 (.string (bs x))).high (Nat.le_refl _) 0 (.int .i64 y)).high (Nat.le_refl _) 1 (.string (bs x))).high (Nat.le_refl _) 2 (.int .i64 0))
    simp only at t0 t1 t2 r0 r1 r2
    go_wp2
    obtain ⟨u0, u1, u2⟩ := U.out
    try simp only at u0 u1 u2
    exact bodyPost_ret (v := C.agg ⟨y, x, 0⟩) (by simp [results, C.agg, go_sem, u0, u1, u2]) rfl ⟨⟨y, x, 0⟩, T3, e3, rfl, HR5.out, HO5.out, HC.out⟩
  · have HI := hid (isinline_any (y : Int))
    rw [decide_eq_false (by omega : ¬ (y : Int) ≤ 40)] at HI
    have HB : Hid (Calls Tryz.prog 101 #[ptr b, .int .i64 4] (w1.alloc (cObj ⟨y, [], 0⟩)) fun e w' => ∃ (p : Nat) (T : Bs) (e2 : Bool), e = .returned (.int .i64 p) ∧ Rn b T e2 w' ∧ One b (w1.alloc (cObj ⟨y, [], 0⟩)) w' ∧ Ran T1 e1 (fxS T1 4) 0 p T e2) := hid (fixed_any b 4 (by decide) (by decide) T1 e1 (by omega) _ HR1.out)
    go_wp2_with fail
    refine (HI.out _).mono ?_
    rintro e w2 ⟨rfl, rfl⟩
    go_wp2_with fail
    refine HB.out.mono ?_
    rintro e w3 ⟨x, T3, e3, rfl, hr, ho, hran⟩
    have R3 := hid (R2.out.one ho (by omega))
    have T3' := hid (T2.out.one ho (by omega))
    have HR3 := hid hr
    have HO3 := hid (HO1.out.trans ho)
    have HC := hid (cran_page HRan.out h4 hran)
    have hl2 := R3.out.lt
    have hl3 := T3'.out.lt
    clear hr ho hran R2 T2
    obtain ⟨t0, t1, t2⟩ := T3'.out.cells
    obtain ⟨tf0, tf1, tf2⟩ := T3'.out.free
    obtain ⟨r0, r1, r2⟩ := R3.out.cells
    obtain ⟨f0, f1, f2⟩ := R3.out.free
    have U := hid (Cb.put (Cb.other R3.out (by omega : w1.heap.size ≠ w.heap.size) 2 (.int .i64 x)) ⟨y, [], x⟩).cells
    have HR5 := hid (((HR3.out.other (by omega : w1.heap.size ≠ b) 2 (.int .i64 x)).other (by omega : w.heap.size ≠ b) 0 (.int .i64 y)).other (by omega : w.heap.size ≠ b) 1 (.string (bs [])) |>.other (by omega : w.heap.size ≠ b) 2 (.int .i64 x))
    have HO5 := hid ((((HO3.out.high (by omega : w.heap.size ≤ w1.heap.size) 2 (.int .i64 x)).high (Nat.le_refl _) 0 (.int .i64 y)).high (Nat.le_refl _) 1 (.string (bs []))).high (Nat.le_refl _) 2 (.int .i64 x))
    simp only at t0 t1 t2 r0 r1 r2
    go_wp2
    obtain ⟨u0, u1, u2⟩ := U.out
    try simp only at u0 u1 u2
    exact bodyPost_ret (v := C.agg ⟨y, [], x⟩) (by simp [results, C.agg, go_sem, u0, u1, u2]) rfl ⟨⟨y, [], x⟩, T3, e3, rfl, HR5.out, HO5.out, HC.out⟩
theorem cell_lit (b : Nat) (S : Bs) (e0 : Bool) (hS : S.length ≤ 281474976710656) (w : World) (h : Rn b S e0 w) :
    Calls Tryz.prog 104 #[ptr b] w fun e w' => ∃ c T e1, e = .returned (.agg #[.int .i64 c.z, .string (bs c.d), .int .i64 c.p]) ∧ Rn b T e1 w' ∧ One b w w' ∧ CRan S e0 c T e1 := cell_any b S e0 hS w h
end No
end Go.Proofs.YtiellodbkanciaaGreatDoor
