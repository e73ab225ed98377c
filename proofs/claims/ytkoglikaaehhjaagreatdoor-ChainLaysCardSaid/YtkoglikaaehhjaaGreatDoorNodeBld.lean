/-
  A builder that a call makes, strings.Repeat and strings.Clone, strings.Trim, Compare: what the library's functions give, in node's words.
-/
import Derived.Test.YtkoglikaaehhjaaGreatDoorGrpNoA
import Derived.Test.YtkoglikaaehhjaaGreatDoorNodeShelf
import Derived.Shelf.Strings.OnBuilder
import Derived.Shelf.Strings.BuilderK
namespace Go.Proofs.YtkoglikaaehhjaaGreatDoor
open Go.RowKit Go.Shelf
namespace No
open Num (hid)
theorem extra : Builder.Extra Tryz.prog Tryz.repeatH_ren where
  sizeBuilder := by kernel_rfl
  liesBuilder := by kernel_rfl
  t5 := Tryz.repeatH.t5
  a5 := Tryz.repeatH.a5
  z5 := Tryz.repeatH.z5
  v5 := Tryz.repeatH.v5
  infoByte := by kernel_rfl
  cellsByte := by kernel_rfl
  sizeByte := by kernel_rfl
  neB5 := by decide
theorem repeat_is : Tryz.repeatH_ren.f 105 = 43 := by kernel_rfl
theorem repeat_any (k : Nat) (hk : k ≤ 1000) (w : World) :
    Calls Tryz.prog 43 #[.string ⟨#[0]⟩, .int .i64 k] w fun e w' => e = .returned (.string (bs (zeros k))) ∧ Below w.heap.size w w' := by
  have h := Any.strings_Repeat Tryz.repeatH extra ⟨#[0]⟩ k w (by omega) (by show 1 * k ≤ _; omega)
  rw [repeat_is] at h
  have e : Lib.repeatL (⟨#[0]⟩ : ByteArray).data.toList k = zeros k := by
    have := Lib.repeatL_replicate 0 1 k
    rw [Nat.mul_one] at this
    exact this
  rw [e] at h
  exact h
abbrev tU8 : TypeId := 5
abbrev tBld : TypeId := 89
theorem fown_on {w w' : World} {base : Nat} {e : TypeId} {v : Value} {n : Nat} {l : List Value} (h : w.ownsRowF base e 1 v n l) (hb : Below w.heap.size w w') : w'.ownsRowF base e 1 v n l := by
  obtain ⟨h1, h2⟩ := h
  refine ⟨h1, ?_⟩
  rcases h2 with h2 | ⟨g, cap, cur, fz, e1, e2, e3, e4⟩
  · exact Or.inl h2
  · exact Or.inr ⟨g, cap, cur, fz, e1, e2, (hb.block _ (lt_of_block e3)).trans e3, e4⟩
theorem fbat_on {T e : TypeId} {B b : Nat} {p : Value} {l : List Value} {w w' : World} (h : Lib.BuilderAtF T e B b p l w) (hb : Below w.heap.size w w') : Lib.BuilderAtF T e B b p l w' := by
  obtain ⟨h1, v, h2, h3, h4⟩ := h
  exact ⟨h1, v, (hb.block _ (lt_of_block h2)).trans h2, fown_on h3 hb, h4⟩
/-- A builder of the call's own that holds bytes. -/
abbrev FB (b : Nat) (l : Bs) (w : World) : Prop := Lib.IsBuilderF tBld tU8 b b (Lib.byteCells l) w
theorem FB.on {b : Nat} {l : Bs} {w w' : World} (h : FB b l w) (hb : Below w.heap.size w w') : FB b l w' :=
  h.elim (fun h => Or.inl (fbat_on h hb)) (fun h => Or.inr (fbat_on h hb))
theorem FB.fresh (w : World) : FB w.heap.size [] (w.alloc (.cells #[.pointer none, .slice none 0 0] tBld)) :=
  Or.inl ⟨Nat.le_refl _, .slice none 0 0, heap_alloc_new w _, World.ownsRowF_nil _ _ _ _, by simp [Value.ownBlock]⟩
theorem fstr_any (b : Nat) (l x : Bs) (w : World) (h : FB b l w) (hlen : l.length + x.length ≤ 140737488355328) (hb : b ≤ w.heap.size) :
    Calls Tryz.prog 48 #[.pointer (some ⟨b, 0, none⟩), .string (bs x)] w fun e w' => e = .returned (.tuple #[.int .i64 (bs x).size, .nilIface]) ∧ FB b (l ++ x) w' ∧ Below b w w' ∧ Lib.OthersKept tU8 (some b) w w' := by
  have hL : Lays.n166 Tryz.prog Tryz.repeatH_ren := { Tryz.repeatH with }
  refine (Any.Builder_WriteString_k hL extra b b (Lib.byteCells l) (bs x) w h (by rw [Lib.byteCells_length, bs_size]; exact hlen) hb).mono ?_
  rintro e w' ⟨rfl, h1, h2, h3⟩
  refine ⟨rfl, Or.inr ?_, h2, h3⟩
  rw [Lib.strCells_eq, ← Lib.byteCells_append] at h1
  exact h1
theorem fend_any (b : Nat) (l : Bs) (w : World) (h : FB b l w) (hb : b ≤ w.heap.size) :
    Calls Tryz.prog 49 #[.pointer (some ⟨b, 0, none⟩)] w fun e w' => e = .returned (.string (bs l)) ∧ Below b w w' := by
  have hL : Lays.n169 Tryz.prog Tryz.repeatH_ren := { Tryz.repeatH with }
  refine (Any.Builder_String_any_f hL extra b b l w h hb).mono ?_
  rintro e w' ⟨rfl, _, h2⟩
  exact ⟨rfl, h2⟩
/-- A boxed node above the builder stands. -/
theorem kept_blk {b g : Nat} {cs : Array Value} {t : TypeId} {w w' : World} (h : Lib.OthersKept tU8 (some b) w w') (hx : w.heap[g]? = some (.cells cs t (0, 0))) (hne : g ≠ b) (ht : t ≠ tU8) : w'.heap[g]? = some (.cells cs t (0, 0)) := by
  refine h g _ hx (by simpa using hne) ?_
  intro c fz e
  simp only [Obj.cells.injEq] at e
  exact absurd e.2.1 ht
theorem clone_any (s : ByteArray) (w : World) (hs : s.size ≤ 281474976710656) : Calls Tryz.prog 32 #[.string s] w fun e w' => e = .returned (.string s) ∧ Below w.heap.size w w' := by
  have C := hid (fun w => AnyPu.stringslite_Clone Tryz.cloneL s w hs)
  go_enter Tryz.func32, Tryz.ntmps32
  go_wp2_with fail
  refine (C.out _).mono ?_
  rintro e w' ⟨rfl, hb⟩
  have HB := hid hb
  clear hb
  go_wp2
  go_ret
  exact ⟨rfl, HB.out⟩
theorem dropWhile_all {l : Bs} {p : UInt8 → Bool} (h : ∀ x ∈ l, p x = true) : l.dropWhile p = [] := by
  induction l with
  | nil => rfl
  | cons a l ih => rw [List.dropWhile_cons, if_pos (h a (by simp))]; exact ih fun x hx => h x (by simp [hx])
theorem dropWhile_none {p : UInt8 → Bool} : ∀ {l : Bs}, l.dropWhile p = [] → ∀ x ∈ l, p x = true
  | a :: l, h, x, hx => by
    rw [List.dropWhile_cons] at h
    by_cases ha : p a = true
    · rw [if_pos ha] at h
      rcases List.mem_cons.1 hx with rfl | hx
      · exact ha
      · exact dropWhile_none h x hx
    · rw [if_neg ha] at h; cases h
theorem dropWhile_head {p : UInt8 → Bool} : ∀ {l r : Bs} {a : UInt8}, l.dropWhile p = a :: r → p a = false
  | b :: l, r, a, h => by
    rw [List.dropWhile_cons] at h
    by_cases hb : p b = true
    · rw [if_pos hb] at h; exact dropWhile_head h
    · rw [if_neg hb] at h; cases h; simpa using hb
theorem trim_blank (S : Bs) : decide (Lib.trimB S 0 = []) = blank S := by
  unfold Lib.trimB Lib.trimLeftB Lib.trimRightB blank
  rw [Bool.eq_iff_iff, decide_eq_true_eq, List.all_eq_true]
  constructor
  · intro h
    cases hr : S.reverse.dropWhile (· == 0) with
    | nil => exact fun x hx => dropWhile_none hr x (by simpa using hx)
    | cons a r =>
      rw [hr] at h
      have h1 := dropWhile_head hr
      have h2 := dropWhile_none h a (by simp)
      rw [h1] at h2; cases h2
  · intro h
    rw [dropWhile_all (l := S.reverse) (fun x hx => h x (by simpa using hx))]
    rfl
theorem trim_any (S : Bs) (w : World) (hs : S.length ≤ 9223372036854775807) : Calls Tryz.prog 66 #[.string (bs S), .string ⟨#[0]⟩] w fun e w' => (∃ X, e = .returned (.string (bs X)) ∧ decide (X = []) = blank S) ∧ Below w.heap.size w w' := by
  refine (Any.strings_Trim_one Tryz.trimL (bs S) 0 (by decide) w (by rw [bs_size]; exact hs)).mono ?_
  rintro e w' ⟨rfl, hw⟩
  refine ⟨⟨Lib.trimB S 0, rfl, ?_⟩, ?_⟩
  · exact trim_blank S
  · rcases hw with rfl | rfl
    · exact Below.refl _ _
    · exact (Below.refl _ _).drew
end No
end Go.Proofs.YtkoglikaaehhjaaGreatDoor
