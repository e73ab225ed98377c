/-
  Small laws on a []byte that a call makes: some bytes appended to it, a row of one byte, string(b); regions that draw their order and make memory alone.
-/
import Derived.Test.YtpabhekbkdpkiaaDoorValKey
import Derived.BigQuiet
import Derived.Lib.BufferRead
namespace Go.Proofs.YtpabhekbkdpkiaaDoor
open Go.RowKit
namespace Va
open Num (hid bcells bcells_len)
theorem bcells_append (l m : Bs) : bcells (l ++ m) = bcells l ++ bcells m := by simp [bcells]
/-- A region that draws its order and whose operations are quiet in the class C: one walk of the text's order. -/
theorem wp_quiet_in {P : Program} {id : Nat} {Q : Exit → Act → World → Prop} {a : Act} {w : World} {l : List Oper} (C : World → Prop) (hm : P.follows .mixedOrders = true) (hB : Region.lexB .any l.toArray = true) (hC : C w.drew)
    (h : wpQuiet P l.toArray C (fun a' => ∀ w', C w' → Q .normal a' w') l a) : (Code.region id l.toArray true).wp P Q a w :=
  wp_region_quiet (C := C) hm hB hC (by simpa using h)
theorem take_snoc {S : ByteArray} {k : Nat} (h : k < S.size) : (bl S).take (k + 1) = (bl S).take k ++ [S[k]] := by
  rw [List.take_succ_eq_append_getElem (by rw [bl_len]; exact h)]; rfl
/-- A row of the call's own that holds bytes. -/
abbrev OwnB (w : World) (base : Nat) (v : Value) (l : Bs) : Prop := w.ownsRow base 5 1 v l.length (bcells l)
theorem own_one (w : World) (base : Nat) (hb : base ≤ w.heap.size) (x : UInt8) : OwnB (w.alloc (.cells #[.int .u8 (x.toNat : Int)] 5)) base (.slice (some ⟨w.heap.size, 0, none⟩) 1 1) [x] :=
  ⟨by simp [bcells], .inr ⟨w.heap.size, 1, _, rfl, hb, heap_alloc_new w _, Nat.le_refl _, by decide, rfl, by simp [bcells]⟩⟩
theorem own_none (w : World) (base : Nat) : OwnB w base (.slice none 0 0) [] := ⟨by simp [bcells], .inl ⟨rfl, rfl⟩⟩
theorem own_on {w w' : World} {base : Nat} {v : Value} {l : Bs} (h : OwnB w base v l) (hb : Below w.heap.size w w') : OwnB w' base v l := by
  obtain ⟨h1, h2⟩ := h
  refine ⟨h1, ?_⟩
  rcases h2 with h2 | ⟨g, cap, cur, e1, e2, e3, e4⟩
  · exact Or.inl h2
  · exact Or.inr ⟨g, cap, cur, e1, e2, (hb.block _ (lt_of_block e3)).trans e3, e4⟩
theorem conv_b {w : World} {base : Nat} {v : Value} {l : Bs} (hpos : 1 ≤ l.length) (h : OwnB w base v l) : (convert 40 9 v).run Tryd.prog w = .ok (.string (bs l)) w :=
  Num.conv_own (P := Tryd.prog) (l := l) (n := l.length) 40 9 5 Tryd.underlying40 Tryd.underlying5 Tryd.underlying9 rfl hpos h
theorem conv_all {w : World} {base : Nat} {v : Value} {l : Bs} (h : OwnB w base v l) : (convert 40 9 v).run Tryd.prog w = .ok (.string (bs l)) w := by
  rcases h.2 with ⟨rfl, h0⟩ | ⟨g, cap, cur, rfl, _⟩
  · have e : l = [] := List.length_eq_zero_iff.1 h0
    subst e
    exact Lib.run_convert_nil_bytes w _ _ _ 0 Tryd.underlying40 Tryd.underlying5 Tryd.underlying9
  · refine run_convert_bytes_back (P := Tryd.prog) w 40 9 5 ⟨g, 0, none⟩ cap l Tryd.underlying40 Tryd.underlying5 Tryd.underlying9 fun j hj => ?_
    exact h.cells (g := g) rfl j (.int .u8 (l[j].toNat : Int)) (by simp [bcells, hj])
/-- len of such a row. -/
theorem own_ways {w : World} {base : Nat} {v : Value} {l : Bs} (h : OwnB w base v l) : (v = .slice none 0 0 ∧ l = []) ∨ ∃ g cap, v = .slice (some ⟨g, 0, none⟩) l.length cap := by
  rcases h.2 with ⟨rfl, h0⟩ | ⟨g, cap, cur, rfl, _⟩
  · exact Or.inl ⟨rfl, List.length_eq_zero_iff.1 h0⟩
  · exact Or.inr ⟨g, cap, rfl⟩
/-- 'b = append(b, x, y, ..)' on a []byte of the call's own: b owns the bytes more; the old memory stays. -/
theorem wpList_append_bytes {w w0 : World} {ops : Array Oper} {rest : List Oper} {o : Oper} {a : Act} {Q : Exit → Act → World → Prop} (hgd : o.guard = none) (s x : Operand)
    (ho : o.op = .call { callee := .builtin .append, args := #[s, x], argTypes := #[40, 40] })
    (base : Nat) (v : Value) (l : Bs) (hs : a.eval s = v) (hown : OwnB w base v l) (hbel : Below base w0 w) (hbase : base ≤ w.heap.size)
    (g : Nat) (l2 : Bs) (hx : a.eval x = .slice (some ⟨g, 0, none⟩) l2.length l2.length) (hcell : ∀ j (hj : j < l2.length), w.cell? ⟨g, j, none⟩ = some (.int .u8 (l2[j].toNat : Int))) (hlen : l.length + l2.length ≤ 140737488355327)
    (h : ∀ v' w', OwnB w' base v' (l ++ l2) → Below base w0 w' → wpList Tryd.prog ops Q rest (a.put o.dst v') w') : wpList Tryd.prog ops Q (o :: rest) a w := by
  obtain ⟨i, hi, h0, h1, h2⟩ := info_parts Num.Tryd.info5
  refine wpList_append_own w hgd s x 40 ho base 5 i (.int .u8 0) 1 1 Tryd.underlying40 hi h0 h1 h2 rfl (by decide) v l.length (bcells l) hs hown ⟨g, 0, none⟩ l2.length l2.length (bcells l2) hx (by rw [bcells_len]; omega) ?_ ?_ ?_ ?_ hbase ?_
  · intro j u hj
    have hlt : j < l2.length := by
      have := (List.getElem?_eq_some_iff.1 hj).1
      rwa [bcells_len] at this
    have hc := hcell j hlt
    have e : u = .int .u8 (l2[j].toNat : Int) := by
      have := (List.getElem?_eq_some_iff.1 hj).2
      rw [← this]
      simp [bcells]
    rw [e]
    rw [Addr.add_lit]
    simpa using hc
  · intro u hu
    simp only [bcells, List.mem_map] at hu
    obtain ⟨b, _, rfl⟩ := hu
    rfl
  · unfold maxLen; omega
  · omega
  · intro v' w' ho' hg' _
    refine h v' w' ?_ (hbel.grown hg' hbase (fun k hk => (hown.lt k hk).1))
    unfold OwnB
    rw [bcells_append, List.length_append]
    exact ho'
theorem new_one (w : World) (x : UInt8) : ∀ j (hj : j < [x].length), (w.alloc (.cells #[.int .u8 (x.toNat : Int)] 5)).cell? ⟨w.heap.size, j, none⟩ = some (.int .u8 ([x][j].toNat : Int)) := by
  intro j hj
  have h := heap_alloc_new w (.cells #[.int .u8 (x.toNat : Int)] 5)
  match j, hj with
  | 0, _ => rw [cell_at h]; rfl
theorem new_two (w : World) (x y : UInt8) : ∀ j (hj : j < [x, y].length), (w.alloc (.cells #[.int .u8 (x.toNat : Int), .int .u8 (y.toNat : Int)] 5)).cell? ⟨w.heap.size, j, none⟩ = some (.int .u8 ([x, y][j].toNat : Int)) := by
  intro j hj
  have h := heap_alloc_new w (.cells #[.int .u8 (x.toNat : Int), .int .u8 (y.toNat : Int)] 5)
  match j, hj with
  | 0, _ => rw [cell_at h]; rfl
  | 1, _ => rw [cell_at h]; rfl
theorem new_three (w : World) (x y z : UInt8) : ∀ j (hj : j < [x, y, z].length), (w.alloc (.cells #[.int .u8 (x.toNat : Int), .int .u8 (y.toNat : Int), .int .u8 (z.toNat : Int)] 5)).cell? ⟨w.heap.size, j, none⟩ = some (.int .u8 ([x, y, z][j].toNat : Int)) := by
  intro j hj
  have h := heap_alloc_new w (.cells #[.int .u8 (x.toNat : Int), .int .u8 (y.toNat : Int), .int .u8 (z.toNat : Int)] 5)
  match j, hj with
  | 0, _ => rw [cell_at h]; rfl
  | 1, _ => rw [cell_at h]; rfl
  | 2, _ => rw [cell_at h]; rfl
end Va
end Go.Proofs.YtpabhekbkdpkiaaDoor
