/-
  The reference's Clean.
-/
import Derived.Test.YthciofgkdfideaaCacheRefGet
namespace Go.Proofs.Ythciofgkdfideaa
open Go.RowKit
namespace Ca
open Num (hid)
open Mem (Bs bs tI tS Chg Row ptr blk_cell blk_free blk_new blk_set blk_other blk_alloc row_kept row_shape row_type append_from wpList_append_run)
variable {R : Nat → Prop} {w w1 wr : World} {u size : Nat} {l L : Row} {n : Int} {v : Value} {i : Nat}
theorem flat_set {x : One} (b : Bool) : ∀ (l : Row) (i : Nat), l[i]? = some x → (l.flatMap oV).set (i * 3 + 2) (.bool b) = (l.set i { x with w := b }).flatMap oV
  | [], i, h => by simp at h
  | y :: l, 0, h => by
    have e : y = x := by simpa using h
    subst e
    rfl
  | y :: l, i + 1, h => by
    have ih := flat_set b l i (by simpa using h)
    rw [List.flatMap_cons, List.set_cons_succ, List.flatMap_cons, ← ih, List.set_append_right _ _ (by rw [oV_len]; omega), oV_len, show (i + 1) * 3 + 2 - 3 = i * 3 + 2 by omega]
/-- The row while it is gone through. -/
def part (n : Int) (l : Row) (i : Nat) : Row := cleanM n (l.take i) ++ l.drop i
theorem part_len (n : Int) (l : Row) (i : Nat) : (part n l i).length = l.length := by
  unfold part cleanM
  simp
  omega
theorem part_zero (n : Int) (l : Row) : part n l 0 = l := rfl
theorem part_all (n : Int) (l : Row) : part n l l.length = cleanM n l := by
  unfold part
  simp
theorem part_at (h : i < l.length) : (part n l i)[i]? = some l[i] := by
  unfold part cleanM
  rw [List.getElem?_append_right (by simp; omega), List.length_map, List.length_take, Nat.min_eq_left (by omega), Nat.sub_self, List.getElem?_drop, Nat.add_zero, List.getElem?_eq_getElem h]
theorem part_next (h : i < l.length) : part n l (i + 1) = cleanM n (l.take i) ++ (if l[i].n = n then { l[i] with w := false } else l[i]) :: l.drop (i + 1) := by
  unfold part
  rw [take_succ_at h]
  unfold cleanM
  rw [List.map_append, List.map_cons, List.map_nil, List.append_assoc]
  rfl
theorem part_no (h : i < l.length) (e : l[i].n ≠ n) : part n l (i + 1) = part n l i := by
  rw [part_next h, if_neg e]
  unfold part
  rw [List.drop_eq_getElem_cons h]
theorem part_yes (h : i < l.length) (e : l[i].n = n) : part n l (i + 1) = (part n l i).set i { l[i] with w := false } := by
  rw [part_next h, if_pos e]
  unfold part
  have hl : (cleanM n (l.take i)).length = i := by unfold cleanM; simp; omega
  rw [List.set_append_right _ _ (by omega), hl, Nat.sub_self, List.drop_eq_getElem_cons h, List.set_cons_zero]
/-- append([]One{}, l...). -/
theorem copy_o (h : LR R w v l) (hl : l.length ≤ 1000) :
    ∃ v' w', (Builtin.append_ #[tOs, tOs] tOs #[.slice (some ⟨w.heap.size, 0, none⟩) 0 0, v]).run Try.prog (w.alloc (.cells #[] tO)) = .ok v' w' ∧ OR (fun g => w.heap.size ≤ g) w' v' l ∧ Below w.heap.size w w' := by
  obtain ⟨i, hi, h0, h1, h2⟩ := oneInfo
  have ba : Below w.heap.size w (w.alloc (.cells #[] tO)) := (Below.refl _ w).alloc (Nat.le_refl _) _
  have hown : (w.alloc (.cells #[] tO)).ownsRow 0 tO 3 (.slice (some ⟨w.heap.size, 0, none⟩) 0 0) 0 [] := ⟨rfl, Or.inr ⟨w.heap.size, 0, #[], rfl, Nat.zero_le _, blk_new w _, Nat.le_refl _, Nat.zero_le _, rfl, rfl⟩⟩
  have key : ∀ b o c, v = .slice (some ⟨b, o, none⟩) l.length c → (∀ j (hj : j < (l.flatMap oV).length), (w.alloc (.cells #[] tO)).cell? ⟨b, o + j, none⟩ = some (l.flatMap oV)[j]) →
      ∃ v' w', (Builtin.append_ #[tOs, tOs] tOs #[.slice (some ⟨w.heap.size, 0, none⟩) 0 0, v]).run Try.prog (w.alloc (.cells #[] tO)) = .ok v' w' ∧ OR (fun g => w.heap.size ≤ g) w' v' l ∧ Below w.heap.size w w' := by
    rintro b o c rfl hj
    obtain ⟨v', w', hr, ho, hc, hk⟩ := append_from tOs tO i _ 3 32 Try.underlying36 hi h0 h1 h2 rfl (by decide) (by decide) hown (b := b) (o := o) (m := l.length) (c := c) (ys := l.flatMap oV) (Mem.flat_len oV_len l) hj (flat_one oV_one l) (by omega)
    refine ⟨v', w', hr, ⟨?_, fun g hg => ?_⟩, ba.trans (hc.below ba.size (fun k hk e => ?_))⟩
    · simpa using ho
    · rcases hk g hg with h3 | h3
      · have e : w.heap.size = g := by simpa [Value.ownBlock] using h3
        show w.heap.size ≤ g
        omega
      · exact Nat.le_trans ba.size h3
    · have e : w.heap.size = k := by simpa [Value.ownBlock] using e
      omega
  rcases h with ⟨rfl, rfl⟩ | ⟨b, o, cap, cur, rfl, h3, h4, h5, h6⟩
  · exact ⟨_, _, run_append_owned_none (P := Try.prog) (w := w.alloc (.cells #[] tO)) 0 tOs tOs tO i 3 Try.underlying36 hi _ 0 [] hown, ⟨hown, fun g hg => by
      have e : w.heap.size = g := by simpa [Value.ownBlock] using hg
      show w.heap.size ≤ g
      omega⟩, ba⟩
  · refine key b o cap rfl (fun j hj => ?_)
    rw [Mem.flat_len oV_len] at hj
    have e1 : j / 3 < l.length := by omega
    have e2 : o + j / 3 * 3 + j % 3 = o + j := by omega
    have h7 := h6 (j / 3) e1 (j % 3) (by omega)
    rw [e2, ← Mem.flat_at oV_len l (j / 3) e1 (j % 3) (by omega), show j / 3 * 3 + j % 3 = j by omega] at h7
    rw [ba.cell (p := ⟨b, o + j, none⟩) (lt_of_block h5), h7, List.getElem?_eq_getElem]
/-- What the loop carries. -/
structure CS (w : World) (n : Int) (l : Row) (i : Nat) (v : Value) (wr : World) : Prop where
  bel : Below w.heap.size w wr
  row : OR (fun g => w.heap.size ≤ g) wr v (part n l i)
theorem CS.cells (k : CS w n l i v wr) (h : i < l.length) : ∃ g cap, v = .slice (some ⟨g, 0, none⟩) l.length cap ∧ g < wr.heap.size ∧ wr.cell? ⟨g, i * 3, none⟩ = some (.int .i64 l[i].n) ∧ wr.cell? ⟨g, i * 3 + 2, none⟩ = some (.bool l[i].w) ∧ wr.frozen? ⟨g, i * 3 + 2, none⟩ = false := by
  obtain ⟨ao, cap, hv, hao⟩ := row_shape k.row.1
  rw [part_len] at hv hao
  obtain ⟨g, rfl, hg⟩ := hao (by omega)
  subst hv
  obtain ⟨cur, hh⟩ := row_type k.row.1 (g := g) rfl
  have hp := part_at (n := n) h
  have hlp : i < (part n l i).length := by rw [part_len]; exact h
  have he : (part n l i)[i] = l[i] := by rw [List.getElem?_eq_getElem hlp] at hp; exact Option.some.inj hp
  have hf := fun j (hj : j < 3) => Mem.flat_at oV_len (part n l i) i hlp j hj
  have hk1 := k.row.1
  rw [part_len] at hk1
  have hc := fun j (hj : j < 3) => hk1.cellAt (i * 3 + j) (by omega)
  refine ⟨g, cap, rfl, hg, ?_, ?_, blk_free hh _⟩
  · have := hc 0 (by decide)
    rw [hf 0 (by decide), he] at this
    exact this
  · have := hc 2 (by decide)
    rw [hf 2 (by decide), he] at this
    exact this
theorem CS.hit {g cap : Nat} (k : CS w n l i (.slice (some ⟨g, 0, none⟩) l.length cap) wr) (h : i < l.length) (e : l[i].n = n) : CS w n l (i + 1) (.slice (some ⟨g, 0, none⟩) l.length cap) (wr.setCell ⟨g, i * 3 + 2, none⟩ (.bool false)) := by
  have hg := k.row.2 g rfl
  have hs : Chg (· = g) wr (wr.setCell ⟨g, i * 3 + 2, none⟩ (.bool false)) := (Chg.refl _ wr).root _ _
  refine ⟨k.bel.trans (hs.below k.bel.size (fun j hj e => by have : w.heap.size ≤ g := hg; omega)), ?_, k.row.2⟩
  have h1 := k.row.1
  rw [part_len] at h1
  have h2 := (h1.stored (i * 3 + 2) (.bool false)).1
  rw [flat_set false _ i (part_at h), ← part_yes h e] at h2
  rw [part_len]
  exact h2
theorem CS.skip (k : CS w n l i v wr) (h : i < l.length) (e : l[i].n ≠ n) : CS w n l (i + 1) v wr := ⟨k.bel, by rw [part_no h e]; exact k.row⟩
set_option maxRecDepth 100000 in
set_option maxHeartbeats 2000000 in
theorem rclean_any (h : RU R w u size l) (hl : l.length ≤ 1000) (hR : ∀ k, w.heap.size ≤ k → R k) (n : Int) :
    Calls Try.prog 15 #[ptr u, .int .i64 n] w fun e w' => e = .returned (.tuple #[]) ∧ RU R w' u size (cleanM n l) ∧ Chg (· = u) w w' := by
  have HU := hid h
  have HR := hid hR
  obtain ⟨v, q1, q2⟩ := h.box
  obtain ⟨v', w1, hr, ho, hb⟩ := copy_o q2 hl
  have S0 : Hid (CS w n l 0 v' w1) := hid ⟨hb, ho⟩
  have HR1 := hid hr
  have ba : Below w.heap.size w (w.alloc (.cells #[] tO)) := (Below.refl _ w).alloc (Nat.le_refl _) _
  have c1 := blk_cell (blk_alloc q1 (.cells #[] tO)) 1
  simp only [List.getElem?_toArray, List.getElem?_cons_succ, List.getElem?_cons_zero] at c1
  have hlt := lt_of_block (blk_alloc q1 (.cells #[] tO))
  obtain ⟨nl, hnl⟩ : ∃ x, l.length = x := ⟨_, rfl⟩
  have HNL := hid hnl
  obtain ⟨ao, cap, hv, -⟩ := row_shape ho.1
  rw [hnl] at hv
  subst hv
  rw [hnl] at hl
  clear h hR q1 q2 hr ho hb ba hnl
  go_enter Try.func15, Try.ntmps15
  go_wp2_with (at_builtin; refine wpList_append_run rfl (.tmp 6) (.tmp 10) tOs tOs rfl _ _ (by simp [Act.eval]) (by simp [Act.eval]) HR1.out ?_)
  clear c1 hlt
  go_loopw [5] (fun iv wr => ∃ i : Nat, i ≤ nl ∧ iv = .int .i64 (i : Int) ∧ Hid (CS w n l i (.slice ao nl cap) wr)) (fun iv _ => nl - (intOf iv).toNat)
  case atStart => exact ⟨0, Nat.zero_le _, rfl, S0⟩
  case round =>
    obtain ⟨i, hi, rfl, HS⟩ := hrel
    clear S0
    by_cases hlt : i < nl
    · have hil : i < l.length := by rw [HNL.out]; exact hlt
      have hlt1 : (i : Int) < (nl : Int) := by omega
      obtain ⟨g, cap', hv, hg, x0, x2, x3⟩ := HS.out.cells hil
      cases hv
      by_cases e : l[i].n = n
      · have he : (l[i].n == n) = true := by simpa using e
        have hh := HS.out
        rw [← HNL.out] at hh
        have h2 := hh.hit hil e
        rw [HNL.out] at h2
        have HH := hid h2
        clear hh h2
        generalize l[i].n = z0 at *
        generalize l[i].w = z2 at *
        go_wp2
        go_roundw
        case rel => exact ⟨i + 1, by omega, by go_num, HH⟩
        case measure => simp [intOf]; omega
      · have he : (l[i].n == n) = false := by simpa using e
        have HH := hid (HS.out.skip hil e)
        generalize l[i].n = z0 at *
        go_wp2
        go_roundw
        case rel => exact ⟨i + 1, by omega, by go_num, HH⟩
        case measure => simp [intOf]; omega
    · have hlt1 : ¬ (i : Int) < (nl : Int) := by omega
      have hie : i = nl := by omega
      have hs := HS.out
      rw [hie, ← HNL.out] at hs
      have hrow := hs.row
      rw [part_all, HNL.out] at hrow
      have hu := HU.out.on hs.bel
      obtain ⟨v0, c0, c1, c2, c3⟩ := hu.cells
      have ht := hu.turn (hrow.all HR.out).read
      have HT := hid (And.intro ht.1 ((Chg.of_below hs.bel).trans ht.2))
      clear hs hrow hu ht
      go_wp2
      go_end0
      exact ⟨rfl, HT.out⟩
end Ca
end Go.Proofs.Ythciofgkdfideaa
