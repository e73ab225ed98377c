/-
  A builder that a call makes (bytes and texts behind each other), with the frame that reaches above it; clones; prefixes cut off; texts joined.
-/
import Derived.Test.YtiellodbkanciaaGreatDoorGrpRowA
import Derived.Test.YtiellodbkanciaaGreatDoorGrpValC
namespace Go.Proofs.YtiellodbkanciaaGreatDoor
open Go.RowKit Go.Shelf
namespace Ro
open Va
open Num (hid)
def wbyR : Ren := ⟨fun n => if n = 167 then 61 else Tryz.replL_ren.f n, Tryz.replL_ren.t, Tryz.replL_ren.g⟩
theorem wbyL : Lays.n167 Tryz.prog wbyR := { Tryz.replL with
  f167 := Tryz.func61.trans (congrArg some (by kernel_rfl))
  f240 := Tryz.func113.trans (congrArg some (by kernel_rfl))
  f276 := Tryz.func151.trans (congrArg some (by kernel_rfl)) }
theorem extraW : Builder.Extra Tryz.prog wbyR := {
  sizeBuilder := by kernel_rfl
  liesBuilder := by kernel_rfl
  t5 := Tryz.replL.t5
  a5 := Tryz.replL.a5
  z5 := Tryz.replL.z5
  v5 := Tryz.replL.v5
  infoByte := by kernel_rfl
  cellsByte := by kernel_rfl
  sizeByte := by kernel_rfl
  neB5 := by decide }
abbrev tU8 : TypeId := 5
abbrev tBld : TypeId := 82
theorem fown_on {w w' : World} {base : Nat} {e : TypeId} {v : Value} {n : Nat} {l : List Value} (h : w.ownsRowF base e 1 v n l) (hb : Below w.heap.size w w') : w'.ownsRowF base e 1 v n l := by
  obtain ⟨h1, h2⟩ := h
  refine ⟨h1, ?_⟩
  rcases h2 with h2 | ⟨g, cap, cur, fz, e1, e2, e3, e4⟩
  · exact Or.inl h2
  · exact Or.inr ⟨g, cap, cur, fz, e1, e2, (hb.block _ (lt_of_block e3)).trans e3, e4⟩
theorem fbat_on {T e : TypeId} {B b : Nat} {p : Value} {l : List Value} {w w' : World} (h : Lib.BuilderAtF T e B b p l w) (hb : Below w.heap.size w w') : Lib.BuilderAtF T e B b p l w' := by
  obtain ⟨h1, v, h2, h3, h4⟩ := h
  exact ⟨h1, v, (hb.block _ (lt_of_block h2)).trans h2, fown_on h3 hb, h4⟩
/-- A builder of the call's own that holds bytes. -/
abbrev FB (b : Nat) (l : Bs) (w : World) : Prop := Lib.IsBuilderF tBld tU8 b b (Lib.byteCells l) w
theorem FB.on {b : Nat} {l : Bs} {w w' : World} (h : FB b l w) (hb : Below w.heap.size w w') : FB b l w' :=
  h.elim (fun h => Or.inl (fbat_on h hb)) (fun h => Or.inr (fbat_on h hb))
theorem FB.fresh (w : World) : FB w.heap.size [] (w.alloc (.cells #[.pointer none, .slice none 0 0] tBld)) :=
  Or.inl ⟨Nat.le_refl _, .slice none 0 0, heap_alloc_new w _, World.ownsRowF_nil _ _ _ _, by simp [Value.ownBlock]⟩
theorem fstr_any (b : Nat) (l x : Bs) (w : World) (h : FB b l w) (hlen : l.length + x.length ≤ 140737488355328) (hb : b ≤ w.heap.size) :
    Calls Tryz.prog 59 #[.pointer (some ⟨b, 0, none⟩), .string (bs x)] w fun e w' => e = .returned (.tuple #[.int .i64 (bs x).size, .nilIface]) ∧ FB b (l ++ x) w' ∧ Below b w w' ∧ Lib.OthersKept tU8 (some b) w w' := by
  have hL : Lays.n166 Tryz.prog Tryz.replL_ren := { Tryz.replL with }
  refine (Any.Builder_WriteString_k hL extra b b (Lib.byteCells l) (bs x) w h (by rw [Lib.byteCells_length, bs_size]; exact hlen) hb).mono ?_
  rintro e w' ⟨rfl, h1, h2, h3⟩
  refine ⟨rfl, Or.inr ?_, h2, h3⟩
  rw [Lib.strCells_eq, ← Lib.byteCells_append] at h1
  exact h1
theorem fbyte_any (b : Nat) (l : Bs) (x : UInt8) (w : World) (h : FB b l w) (hlen : l.length + 1 ≤ 140737488355328) (hb : b ≤ w.heap.size) :
    Calls Tryz.prog 61 #[.pointer (some ⟨b, 0, none⟩), .int .u8 (x.toNat : Int)] w fun e w' => e = .returned .nilIface ∧ FB b (l ++ [x]) w' ∧ Below b w w' ∧ Lib.OthersKept tU8 (some b) w w' := by
  refine (Any.Builder_WriteByte_k wbyL extraW b b (Lib.byteCells l) (x.toNat : Int) w h (by rw [Lib.byteCells_length]; exact hlen) hb).mono ?_
  rintro e w' ⟨rfl, h1, h2, h3⟩
  refine ⟨rfl, Or.inr ?_, h2, h3⟩
  have e : Lib.byteCells l ++ [.int .u8 (x.toNat : Int)] = Lib.byteCells (l ++ [x]) := by rw [Lib.byteCells_append]; rfl
  rw [e] at h1
  exact h1
theorem fend_any (b : Nat) (l : Bs) (w : World) (h : FB b l w) (hb : b ≤ w.heap.size) :
    Calls Tryz.prog 63 #[.pointer (some ⟨b, 0, none⟩)] w fun e w' => e = .returned (.string (bs l)) ∧ Below b w w' := by
  have hL : Lays.n169 Tryz.prog Tryz.replL_ren := { Tryz.replL with }
  refine (Any.Builder_String_any_f hL extra b b l w h hb).mono ?_
  rintro e w' ⟨rfl, _, h2⟩
  exact ⟨rfl, h2⟩
/-- A boxed value above the builder stands. -/
theorem kept_val {b g : Nat} {K N : Int} {S : ByteArray} {w w' : World} (h : Lib.OthersKept tU8 (some b) w w') (hx : Bx g K N S w) (hne : g ≠ b) : Bx g K N S w' := by
  refine h g _ hx (by simpa using hne) ?_
  intro c fz e
  have e2 : (78 : TypeId) = tU8 := by
    simp only [Obj.cells.injEq] at e
    exact e.2.1
  exact absurd e2 (by decide)
theorem clone_any (s : ByteArray) (w : World) (hs : s.size ≤ 281474976710656) : Calls Tryz.prog 145 #[.string s] w fun e w' => e = .returned (.string s) ∧ Below w.heap.size w w' := by
  have C := hid (fun w => AnyPu.stringslite_Clone Tryz.cloneL s w hs)
  go_enter Tryz.func145, Tryz.ntmps145
  go_wp2_with fail
  refine (C.out _).mono ?_
  rintro e w' ⟨rfl, hb⟩
  have HB := hid hb
  clear hb
  go_wp2
  go_ret
  exact ⟨rfl, HB.out⟩
theorem cut_any (s p : ByteArray) (w : World) : Calls Tryz.prog 131 #[.string s, .string p] w fun e w' => e = .returned (.tuple #[.string (bs (Lib.trimPrefix (bl s) (bl p))), .bool ((bl p).isPrefixOf (bl s))]) ∧ w = w' :=
  (Any.strings_CutPrefix Tryz.cutL s p w).mono fun _ _ h => ⟨h.1, h.2.symm⟩
end Ro
end Go.Proofs.YtiellodbkanciaaGreatDoor
