/-
  A builder that a call makes, strings.Repeat: what the library's functions give, in spare's words.
-/
import Derived.Test.YtkoglikaaehhjaaGreatDoorSpareMath
import Derived.Test.YtkoglikaaehhjaaGreatDoorSpareShelf
import Derived.Shelf.Strings.OnBuilder
import Derived.Shelf.Strings.BuilderK
import Derived.Shelf.Strings.BuilderF
namespace Go.Proofs.YtkoglikaaehhjaaGreatDoor
open Go.RowKit Go.Shelf
namespace Sp
open Num (hid)
open Mem (Bs bs)
theorem extra : Builder.Extra Tryz.prog Tryz.repeatH_ren where
  sizeBuilder := by kernel_rfl
  liesBuilder := by kernel_rfl
  t5 := Tryz.repeatH.t5
  a5 := Tryz.repeatH.a5
  z5 := Tryz.repeatH.z5
  v5 := Tryz.repeatH.v5
  infoByte := by kernel_rfl
  cellsByte := by kernel_rfl
  sizeByte := by kernel_rfl
  neB5 := by decide
theorem repeat_is : Tryz.repeatH_ren.f 105 = 43 := by kernel_rfl
theorem repeat_any (k : Nat) (hk : k ≤ 1000) (w : World) :
    Calls Tryz.prog 43 #[.string ⟨#[0]⟩, .int .i64 k] w fun e w' => e = .returned (.string (bs (zeros k))) ∧ Below w.heap.size w w' := by
  have h := Any.strings_Repeat Tryz.repeatH extra ⟨#[0]⟩ k w (by omega) (by show 1 * k ≤ _; omega)
  rw [repeat_is] at h
  have e : Lib.repeatL (⟨#[0]⟩ : ByteArray).data.toList k = zeros k := by
    have := Lib.repeatL_replicate 0 1 k
    rw [Nat.mul_one] at this
    exact this
  rw [e] at h
  exact h
abbrev tU8 : TypeId := 5
abbrev tBld : TypeId := 89
theorem fown_on {w w' : World} {base : Nat} {e : TypeId} {v : Value} {n : Nat} {l : List Value} (h : w.ownsRowF base e 1 v n l) (hb : Below w.heap.size w w') : w'.ownsRowF base e 1 v n l := by
  obtain ⟨h1, h2⟩ := h
  refine ⟨h1, ?_⟩
  rcases h2 with h2 | ⟨g, cap, cur, fz, e1, e2, e3, e4⟩
  · exact Or.inl h2
  · exact Or.inr ⟨g, cap, cur, fz, e1, e2, (hb.block _ (lt_of_block e3)).trans e3, e4⟩
theorem fbat_on {T e : TypeId} {B b : Nat} {p : Value} {l : List Value} {w w' : World} (h : Lib.BuilderAtF T e B b p l w) (hb : Below w.heap.size w w') : Lib.BuilderAtF T e B b p l w' := by
  obtain ⟨h1, v, h2, h3, h4⟩ := h
  exact ⟨h1, v, (hb.block _ (lt_of_block h2)).trans h2, fown_on h3 hb, h4⟩
/-- A builder of the call's own that holds bytes. -/
abbrev FB (b : Nat) (l : Bs) (w : World) : Prop := Lib.IsBuilderF tBld tU8 b b (Lib.byteCells l) w
theorem FB.on {b : Nat} {l : Bs} {w w' : World} (h : FB b l w) (hb : Below w.heap.size w w') : FB b l w' :=
  h.elim (fun h => Or.inl (fbat_on h hb)) (fun h => Or.inr (fbat_on h hb))
theorem FB.fresh (w : World) : FB w.heap.size [] (w.alloc (.cells #[.pointer none, .slice none 0 0] tBld)) :=
  Or.inl ⟨Nat.le_refl _, .slice none 0 0, heap_alloc_new w _, World.ownsRowF_nil _ _ _ _, by simp [Value.ownBlock]⟩
theorem fstr_any (b : Nat) (l x : Bs) (w : World) (h : FB b l w) (hlen : l.length + x.length ≤ 140737488355328) (hb : b ≤ w.heap.size) :
    Calls Tryz.prog 48 #[.pointer (some ⟨b, 0, none⟩), .string (bs x)] w fun e w' => e = .returned (.tuple #[.int .i64 (bs x).size, .nilIface]) ∧ FB b (l ++ x) w' ∧ Below b w w' ∧ Lib.OthersKept tU8 (some b) w w' := by
  have hL : Lays.n166 Tryz.prog Tryz.repeatH_ren := { Tryz.repeatH with }
  refine (Any.Builder_WriteString_k hL extra b b (Lib.byteCells l) (bs x) w h (by rw [Lib.byteCells_length, bs_size]; exact hlen) hb).mono ?_
  rintro e w' ⟨rfl, h1, h2, h3⟩
  refine ⟨rfl, Or.inr ?_, h2, h3⟩
  rw [Lib.strCells_eq, ← Lib.byteCells_append] at h1
  exact h1
theorem flen_any (b : Nat) (l : Bs) (w : World) (h : FB b l w) :
    Calls Tryz.prog 46 #[.pointer (some ⟨b, 0, none⟩)] w fun e w' => e = .returned (.int .i64 l.length) ∧ w = w' := by
  have hL : Lays.n170 Tryz.prog Tryz.repeatH_ren := { Tryz.repeatH with }
  refine (Any.Builder_Len_f hL b b (Lib.byteCells l) w h).mono ?_
  rintro e w' ⟨rfl, h1⟩
  refine ⟨?_, h1.symm⟩
  rw [Lib.byteCells_length]
theorem fend_any (b : Nat) (l : Bs) (w : World) (h : FB b l w) (hb : b ≤ w.heap.size) :
    Calls Tryz.prog 49 #[.pointer (some ⟨b, 0, none⟩)] w fun e w' => e = .returned (.string (bs l)) ∧ Below b w w' := by
  have hL : Lays.n169 Tryz.prog Tryz.repeatH_ren := { Tryz.repeatH with }
  refine (Any.Builder_String_any_f hL extra b b l w h hb).mono ?_
  rintro e w' ⟨rfl, _, h2⟩
  exact ⟨rfl, h2⟩
end Sp
end Go.Proofs.YtkoglikaaehhjaaGreatDoor
