/-
  What CacheLast's walk carries: the cache, and the numbers gone back over.
-/
import Derived.Test.YthciofgkdfideaaCacheAwake
import Derived.Test.YthciofgkdfideaaCacheLastM
import Derived.Test.YthciofgkdfideaaCacheOpen
namespace Go.Proofs.Ythciofgkdfideaa
open Go.RowKit
namespace Ca
open Num (hid)
open Mem (Bs bs tI tS tIs LAt Chg Row ptr blk_cell blk_free blk_new blk_set blk_other blk_alloc)
theorem mod_u (a : Int) (m : Nat) (hm : 0 < m) (hm2 : m ≤ 1000) : ∃ n : Nat, n < m ∧ wrap64 ((IntKind.u64.wrap a).tmod (m : Int)) = (n : Int) := by
  have h1 : IntKind.u64.wrap a = a % 18446744073709551616 := IntKind.wrap_u64 a
  have h0 : 0 ≤ IntKind.u64.wrap a := by rw [h1]; exact Int.emod_nonneg _ (by decide)
  rw [Int.tmod_eq_emod_of_nonneg h0]
  generalize IntKind.u64.wrap a = y at *
  have h2 := Int.emod_nonneg y (show (m : Int) ≠ 0 by omega)
  have h3 := Int.emod_lt_of_pos y (show (0 : Int) < (m : Int) by omega)
  generalize y % (m : Int) = z at *
  refine ⟨z.toNat, by omega, ?_⟩
  rw [Num.wrap_i]
  omega
/-- The size that the statement takes. -/
theorem size_of (a : Int) : ∃ L : Nat, 1 ≤ L ∧ L ≤ 20 ∧ wrap64 (1 + wrap64 ((IntKind.u64.wrap a).tmod 20)) = (L : Int) := by
  obtain ⟨n, h1, h2⟩ := mod_u a 20 (by decide) (by decide)
  refine ⟨n + 1, by omega, by omega, ?_⟩
  have e : ((20 : Nat) : Int) = 20 := rfl
  rw [e] at h2
  rw [h2, Num.wrap_i]
  omega
theorem clamp_in {L : Nat} (h1 : 1 ≤ L) (h2 : L ≤ 20) : clamp (L : Int) = L := by
  unfold clamp
  rw [if_neg (by omega), if_neg (by omega)]
  omega
theorem ints_ways {w : World} {x : Value} {l : List Int} (h : LAt 1 iV w x l) : ∃ ao cap, x = .slice ao l.length cap ∧ l.length ≤ maxLen ∧ ∀ j (hj : j < l.length), ∃ b o, ao = some ⟨b, o, none⟩ ∧ b < w.heap.size ∧ w.cell? ⟨b, o + j, none⟩ = some (.int .i64 l[j]) := by
  obtain ⟨ao, cap, h1, h2, -, h4⟩ := h.ways
  refine ⟨ao, cap, h1, h2, fun j hj => ?_⟩
  obtain ⟨b, o, e1, e2, e3⟩ := h4 j hj
  have := e3 0 Nat.one_pos
  rw [Nat.mul_one] at this
  exact ⟨b, o, e1, e2, this⟩
/-! ### the way back -/
/-- The pages put, the last one first. -/
def backP (l : List Int) (i : Nat) : List Int := (l.take (i + 1)).reverse
theorem backP_len {l : List Int} {i : Nat} (h : i < l.length) : (backP l i).length = i + 1 := by unfold backP; rw [List.length_reverse, List.length_take]; omega
theorem backP_at {l : List Int} {i j : Nat} (h : i < l.length) (hj : j ≤ i) : (backP l i)[j]? = some (l[i - j]'(by omega)) := by
  unfold backP
  rw [List.getElem?_reverse (by rw [List.length_take]; omega), List.length_take, Nat.min_eq_left (by omega), List.getElem?_take_of_lt (by omega), show i + 1 - 1 - j = i - j by omega, List.getElem?_eq_getElem]
theorem backP_next {l : List Int} {i : Nat} (h : i + 1 < l.length) : backP l (i + 1) = l[i + 1] :: backP l i := by
  unfold backP
  rw [List.take_add_one, List.getElem?_eq_getElem h, List.reverse_append]
  rfl
theorem backP_zero {l : List Int} (h : 0 < l.length) : backP l 0 = [l[0]] := by
  unfold backP
  rw [List.take_add_one, List.getElem?_eq_getElem h]
  rfl
/-- The numbers gone over: the way back's beginning. -/
theorem way_next {P : List Int} {j : Nat} {x : Int} (hx : P[j]? = some x) : nd (P.take (j + 1)) = if x ∈ nd (P.take j) then nd (P.take j) else nd (P.take j) ++ [x] := by
  rw [List.take_add_one, hx]
  show nd (P.take j ++ [x]) = _
  rw [nd_snoc]
  by_cases h : x ∈ P.take j
  · rw [if_pos h, if_pos (mem_nd.2 h)]
  · rw [if_neg h, if_neg (fun e => h (mem_nd.1 e))]
theorem way_end {P : List Int} {j s : Nat} (h : (nd (P.take j)).length ≤ s) (he : P.length ≤ j ∨ s ≤ (nd (P.take j)).length) : (nd (P.take j)).length = min s (nd P).length := by
  rcases he with he | he
  · rw [List.take_of_length_le he] at h ⊢
    omega
  · obtain ⟨t, e⟩ := nd_append (P.take j) (P.drop j)
    rw [List.take_append_drop] at e
    have := congrArg List.length e
    rw [List.length_append] at this
    omega
theorem lasts_next {L : Nat} {l : Row} {ps : List Int} {i : Nat} (hi : i < ps.length) (h1 : 1 ≤ L) (k : Lasts L l (ps.take i).reverse) (d : Bs) (w : Bool) : Lasts L (putM L ps[i] d w l) (backP ps i) := by
  have := k.put h1 ps[i] d w
  unfold backP
  rw [List.take_add_one, List.getElem?_eq_getElem hi, List.reverse_append]
  exact this
/-! ### memory -/
structure SS (N : Nat) (w0 W : World) (c size : Nat) (l : Row) (sv : Value) (U : List Int) (w : World) : Prop where
  bel : Below N w0 w
  ca : CA (fun k => N ≤ k ∧ k < W.heap.size) w c size l
  row : w.ownsRow 0 tI 1 sv U.length (U.map (Value.int .i64))
  low : ∀ g, sv.ownBlock = some g → W.heap.size ≤ g
  big : N ≤ W.heap.size ∧ W.heap.size ≤ w.heap.size
variable {N : Nat} {w0 W w w' : World} {c size : Nat} {l : Row} {sv : Value} {U : List Int}
theorem SS.new (h : Mine N w0 c size l W) : SS N w0 W c size l (.slice (some ⟨W.heap.size, 0, none⟩) 0 0) [] (W.alloc (.cells #[] tI)) := by
  have b1 : Below W.heap.size W (W.alloc (.cells #[] tI)) := (Below.refl _ W).alloc (Nat.le_refl _) _
  refine ⟨h.2.1.trans (b1.mono h.2.2), (h.1.mono (fun g hg e => ⟨e, hg⟩)).on b1, ⟨rfl, Or.inr ⟨W.heap.size, 0, #[], rfl, Nat.zero_le _, blk_new W _, Nat.le_refl _, Nat.zero_le _, rfl, rfl⟩⟩, fun g hg => ?_, h.2.2, b1.size⟩
  have : W.heap.size = g := by simpa [Value.ownBlock] using hg
  omega
theorem SS.on (h : SS N w0 W c size l sv U w) (hb : Below w.heap.size w w') : SS N w0 W c size l sv U w' := by
  have := hb.size
  exact ⟨h.bel.trans (hb.mono (Nat.le_trans h.big.1 h.big.2)), h.ca.on hb, Mem.row_kept h.row (F := fun _ => False) (Chg.of_below hb) (fun _ _ h => h), h.low, h.big.1, Nat.le_trans h.big.2 hb.size⟩
theorem SS.push (h : SS N w0 W c size l sv U w) (x : Int) (hU : U.length ≤ 1000) :
    ∃ v' w', (Builtin.append_ #[tIs, tIs] tIs #[sv, .slice (some ⟨w.heap.size, 0, none⟩) 1 1]).run Try.prog (w.alloc (.cells #[.int .i64 x] tI)) = .ok v' w' ∧ SS N w0 W c size l v' (U ++ [x]) w' := by
  obtain ⟨v', w', hr, ho, hc, hk⟩ := Mem.push_int h.row x (by omega)
  have hz := hc.size
  have hg := h.big
  refine ⟨v', w', hr, ⟨h.bel.trans (hc.below (Nat.le_trans h.big.1 h.big.2) (fun k hk e => by have := h.low k e; omega)), h.ca.apart hc (fun k e hR => by have := h.low k e; omega), ?_, fun g hg => ?_, h.big.1, by omega⟩⟩
  · rw [List.map_append, List.length_append]
    exact ho
  · rcases hk g hg with e | e
    · exact h.low g e
    · omega
theorem SS.mine (h : SS N w0 W c size l sv U w) : Mine N w0 c size l w := ⟨h.ca.mono (fun _ _ e => e.1), h.bel, Nat.le_trans h.big.1 h.big.2⟩
theorem SS.cells (h : SS N w0 W c size l sv U w) : ∃ ao cap, sv = .slice ao U.length cap ∧ ∀ k (_hk : k < U.length), ∃ g, ao = some ⟨g, 0, none⟩ ∧ g < w.heap.size ∧ w.cell? ⟨g, k, none⟩ = some (.int .i64 U[k]) := by
  obtain ⟨ao, cap, rfl, h1⟩ := Mem.row_shape h.row
  refine ⟨ao, cap, rfl, fun k hk => ?_⟩
  obtain ⟨g, rfl, hg⟩ := h1 (by omega)
  refine ⟨g, rfl, hg, ?_⟩
  rw [h.row.cellAt k (by omega), List.getElem?_map, List.getElem?_eq_getElem hk]
  rfl
theorem dirty_nil (w : World) : Calls Try.prog 20 #[.pointer none] w fun e w' => e = .returned (.slice none 0 0) ∧ w = w' := by
  go_enter Try.func20, Try.ntmps20
  go_wp2
  go_ret
  exact ⟨rfl, rfl⟩
theorem Mine.on (h : Mine N w0 c size l w) (hb : Below w.heap.size w w') : Mine N w0 c size l w' := h.go (h.1.on hb) (Chg.of_below hb)
/-- string([]byte{byte(i)}). -/
theorem one_byte (w : World) (i : Int) : (convert 48 tS (.slice (some ⟨w.heap.size, 0, none⟩) 1 1)).run Try.prog (w.alloc (.cells #[.int .u8 (IntKind.u8.wrap i)] 5)).drew = .ok (.string (bs [UInt8.ofNat (IntKind.u8.wrap i).toNat])) (w.alloc (.cells #[.int .u8 (IntKind.u8.wrap i)] 5)).drew := by
  have hb := blk_new w (.cells #[.int .u8 (IntKind.u8.wrap i)] 5)
  have hw : IntKind.u8.wrap i = i % 256 := by simp [IntKind.wrap, IntKind.bits, IntKind.signed]
  refine run_convert_bytes_back _ 48 tS 5 ⟨w.heap.size, 0, none⟩ 1 [UInt8.ofNat (IntKind.u8.wrap i).toNat] Try.underlying48 Try.underlying5 Try.underlying9 (fun j hj => ?_)
  have : j = 0 := by simpa using hj
  subst this
  have h2 := blk_cell hb 0
  have h3 : (w.alloc (.cells #[.int .u8 (IntKind.u8.wrap i)] 5)).drew.cell? ((⟨w.heap.size, 0, none⟩ : Addr).add 0) = some (.int .u8 (IntKind.u8.wrap i)) := h2
  rw [h3]
  congr 2
  rw [List.getElem_cons_zero, UInt8.toNat_ofNat', hw]
  have h4 := Int.emod_nonneg i (show (256 : Int) ≠ 0 by decide)
  have h5 := Int.emod_lt_of_pos i (show (0 : Int) < 256 by decide)
  omega
end Ca
end Go.Proofs.Ythciofgkdfideaa
