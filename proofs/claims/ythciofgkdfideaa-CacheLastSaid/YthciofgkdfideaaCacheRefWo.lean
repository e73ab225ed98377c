/-
  The reference's without: the pages but one; that one, if it is there.
-/
import Derived.Test.YthciofgkdfideaaCacheMem
namespace Go.Proofs.Ythciofgkdfideaa
open Go.RowKit
namespace Ca
open Num (hid)
open Mem (Bs bs tI tS Chg Row ptr blk_cell blk_free blk_new blk_set blk_other blk_alloc row_kept row_shape row_type append_from wpList_append_run)
def zeroO : One := ⟨0, [], false⟩
def foundM (n : Int) (l : Row) : One × Bool := match get? n l with | some y => (y, true) | none => (zeroO, false)
theorem take_succ_at {α : Type} {l : List α} {i : Nat} (h : i < l.length) : l.take (i + 1) = l.take i ++ [l[i]] := by
  rw [List.take_add_one, List.getElem?_eq_getElem h]
  rfl
theorem wo_yes {n : Int} {l : Row} {i : Nat} (h : i < l.length) (e : l[i].n = n) : wo n (l.take (i + 1)) = wo n (l.take i) := by
  rw [take_succ_at h]
  unfold wo
  rw [List.filter_append, List.filter_cons_of_neg (by simp [e])]
  simp
theorem wo_no {n : Int} {l : Row} {i : Nat} (h : i < l.length) (e : l[i].n ≠ n) : wo n (l.take (i + 1)) = wo n (l.take i) ++ [l[i]] := by
  rw [take_succ_at h]
  unfold wo
  rw [List.filter_append, List.filter_cons_of_pos (by simp [e])]
  simp
theorem found_no {n : Int} {l : Row} {i : Nat} (h : i < l.length) (e : l[i].n ≠ n) : foundM n (l.take (i + 1)) = foundM n (l.take i) := by
  have e1 : get? n (l.take (i + 1)) = get? n (l.take i) := by
    rw [take_succ_at h]
    unfold get?
    rw [List.find?_append, List.find?_cons_of_neg (by simpa using e)]
    simp
  unfold foundM
  rw [e1]
theorem found_yes {n : Int} {l : Row} (hn : (nos l).Nodup) {i : Nat} (h : i < l.length) (e : l[i].n = n) : foundM n (l.take (i + 1)) = (l[i], true) := by
  have h2 : (nos (l.take (i + 1))).Nodup := hn.sublist (List.Sublist.map One.n (List.take_sublist _ _))
  have hm : l[i] ∈ l.take (i + 1) := by rw [take_succ_at h]; exact List.mem_append_right _ List.mem_cons_self
  have e1 := get_some (n := n) h2 hm e
  unfold foundM
  rw [e1]
def oObj (x : One) : Obj := .cells #[.int .i64 x.n, .string (bs x.d), .bool x.w] tO
structure WS (w : World) (n : Int) (l : Row) (i : Nat) (vo : Value) (is : Bool) (wr : World) : Prop where
  bel : Below w.heap.size w wr
  cel : wr.heap[w.heap.size]? = some (oObj zeroO)
  box : wr.heap[w.heap.size + 2]? = some (oObj (foundM n (l.take i)).1)
  yes : is = (foundM n (l.take i)).2
  out : OR (fun g => w.heap.size < g ∧ g ≠ w.heap.size + 2) wr vo (wo n (l.take i))
variable {R : Nat → Prop} {w wr : World} {u size : Nat} {l : Row} {i : Nat} {n : Int} {vo : Value} {is : Bool}
theorem obj_cells {b : Nat} {x : One} (k : w.heap[b]? = some (oObj x)) : w.cell? ⟨b, 0, none⟩ = some (.int .i64 x.n) ∧ w.cell? ⟨b, 1, none⟩ = some (.string (bs x.d)) ∧ w.cell? ⟨b, 2, none⟩ = some (.bool x.w) ∧ b < w.heap.size ∧
    w.frozen? ⟨b, 0, none⟩ = false ∧ w.frozen? ⟨b, 1, none⟩ = false ∧ w.frozen? ⟨b, 2, none⟩ = false :=
  ⟨blk_cell k 0, blk_cell k 1, blk_cell k 2, lt_of_block k, blk_free k 0, blk_free k 1, blk_free k 2⟩
abbrev put3 (w : World) (b : Nat) (x : One) : World := ((w.setCell ⟨b, 0, none⟩ (.int .i64 x.n)).setCell ⟨b, 1, none⟩ (.string (bs x.d))).setCell ⟨b, 2, none⟩ (.bool x.w)
theorem put3_box {b : Nat} {y : One} (k : w.heap[b]? = some (oObj y)) (x : One) : (put3 w b x).heap[b]? = some (oObj x) := blk_set (blk_set (blk_set k 0 _) 1 _) 2 _
theorem put3_chg (w : World) (b : Nat) (x : One) : Chg (· = b) w (put3 w b x) := (((Chg.refl _ w).root 0 _).root 1 _).root 2 _
theorem WS.start (w : World) (n : Int) (l : Row) : WS w n l 0 (.slice (some ⟨w.heap.size + 1, 0, none⟩) 0 0) false (((w.alloc (oObj zeroO)).alloc (.cells #[] tO)).alloc (oObj zeroO)) := by
  have s1 : (w.alloc (oObj zeroO)).heap.size = w.heap.size + 1 := by simp
  have s2 : ((w.alloc (oObj zeroO)).alloc (.cells #[] tO)).heap.size = w.heap.size + 2 := by simp
  refine ⟨(((Below.refl _ w).alloc (Nat.le_refl _) _).alloc (by omega) _).alloc (by omega) _, blk_alloc (blk_alloc (blk_new w _) _) _, ?_, rfl, ⟨rfl, Or.inr ⟨w.heap.size + 1, 0, #[], rfl, Nat.zero_le _, ?_, Nat.le_refl _, Nat.zero_le _, rfl, rfl⟩⟩, fun g hg => ?_⟩
  · have := blk_new ((w.alloc (oObj zeroO)).alloc (.cells #[] tO)) (oObj zeroO)
    rw [s2] at this
    exact this
  · have := blk_new (w.alloc (oObj zeroO)) (.cells #[] tO)
    rw [s1] at this
    exact blk_alloc this _
  · have : w.heap.size + 1 = g := by simpa [Value.ownBlock] using hg
    omega
theorem WS.hit (k : WS w n l i vo is wr) (hn : (nos l).Nodup) (h : i < l.length) (e : l[i].n = n) : WS w n l (i + 1) vo true (put3 wr (w.heap.size + 2) l[i]) := by
  have hc := put3_chg wr (w.heap.size + 2) l[i]
  refine ⟨k.bel.trans (hc.below k.bel.size (fun j hj e => by omega)), hc.at k.cel (by omega), ?_, ?_, ?_⟩
  · rw [found_yes hn h e]
    exact put3_box k.box _
  · rw [found_yes hn h e]
  · rw [wo_yes h e]
    exact k.out.kept hc (fun g hg e => (k.out.2 g hg).2 e)
theorem WS.miss (k : WS w n l i vo is wr) (h : i < l.length) (e : l[i].n ≠ n) (hl : l.length ≤ 1000) :
    ∃ v' w', (Builtin.append_ #[tOs, tOs] tOs #[vo, .slice (some ⟨wr.heap.size, 0, none⟩) 1 1]).run Try.prog (wr.alloc (.cells #[.int .i64 l[i].n, .string (bs l[i].d), .bool l[i].w] tO)) = .ok v' w' ∧ WS w n l (i + 1) v' is w' := by
  have h3 := lt_of_block k.box
  have hw := wo_len n (l.take i)
  rw [List.length_take] at hw
  obtain ⟨v', w', hr, ho, hc, hk⟩ := push_o k.out (fun g hg => ⟨by omega, by omega⟩) l[i] (by omega)
  refine ⟨v', w', hr, k.bel.trans (hc.below k.bel.size (fun j hj e => by have := (k.out.2 j e).1; omega)), hc.at k.cel (fun e => by have := (k.out.2 _ e).1; omega), ?_, ?_, ?_⟩
  · rw [found_no h e]
    exact hc.at k.box (fun e => (k.out.2 _ e).2 rfl)
  · rw [found_no h e]
    exact k.yes
  · rw [wo_no h e]
    exact ho
set_option maxRecDepth 100000 in
set_option maxHeartbeats 2000000 in
theorem rwo_any (h : RU R w u size l) (hn : (nos l).Nodup) (hl : l.length ≤ 1000) (n : Int) :
    Calls Try.prog 27 #[ptr u, .int .i64 n] w fun e w' => ∃ v, e = .returned (.tuple #[v, .agg #[.int .i64 (foundM n l).1.n, .string (bs (foundM n l).1.d), .bool (foundM n l).1.w], .bool (foundM n l).2]) ∧ OR (fun g => w.heap.size ≤ g) w' v (wo n l) ∧ Below w.heap.size w w' := by
  obtain ⟨v, h1, h2⟩ := h.box
  obtain ⟨ao, cap, rfl, hcap, hx⟩ := h2.ways
  have HX := hid hx
  have HB := hid h1
  have HN := hid hn
  have HL := hid hl
  have W0 := hid (WS.start w n l)
  clear hx h1 h2 h hn
  obtain ⟨nl, hnl⟩ : ∃ x, l.length = x := ⟨_, rfl⟩
  rw [hnl] at hl hcap HB
  have HNL := hid hnl
  clear hnl
  obtain ⟨⟨⟨y0, y1, y2⟩, y3⟩, hF⟩ : ∃ x, foundM n l = x := ⟨_, rfl⟩
  rw [hF]
  have HF := hid hF
  clear hF
  dsimp only
  go_enter Try.func27, Try.ntmps27
  go_wp2_with fail
  go_loopw [7, 9, 10] (fun vo is iv wr => ∃ (i : Nat) (b : Bool), i ≤ nl ∧ iv = .int .i64 (i : Int) ∧ is = .bool b ∧ Hid (WS w n l i vo b wr)) (fun _ _ iv _ => nl - (intOf iv).toNat)
  case atStart => exact ⟨0, false, Nat.zero_le _, rfl, rfl, W0⟩
  case round =>
    obtain ⟨i, b, hi, rfl, rfl, HS⟩ := hrel
    clear W0
    have c1 := blk_cell (HS.out.bel.block _ (lt_of_block HB.out) |>.trans HB.out) 1
    simp only [List.getElem?_toArray, List.getElem?_cons_succ, List.getElem?_cons_zero] at c1
    by_cases hlt : i < nl
    · have hil : i < l.length := by rw [HNL.out]; exact hlt
      have hlt1 : (i : Int) < (nl : Int) := by omega
      obtain ⟨g, o, rfl, hg, x0, x1, x2⟩ := HX.out i hil
      rw [← HS.out.bel.cell (p := ⟨g, o + i * 3, none⟩) hg] at x0
      rw [← HS.out.bel.cell (p := ⟨g, o + i * 3 + 1, none⟩) hg] at x1
      rw [← HS.out.bel.cell (p := ⟨g, o + i * 3 + 2, none⟩) hg] at x2
      have hg2 : g < wr.heap.size := Nat.lt_of_lt_of_le hg HS.out.bel.size
      by_cases e : l[i].n = n
      · have he : (l[i].n == n) = true := by simpa using e
        have hh := HS.out.hit HN.out hil e
        rw [show l[i] = ⟨n, l[i].d, l[i].w⟩ by rw [← e]] at hh
        have HH := hid hh
        clear hh
        obtain ⟨b0, b1, b2, b3, b4, b5, b6⟩ := obj_cells HS.out.box
        generalize l[i].n = z0 at *
        generalize l[i].d = z1 at *
        generalize l[i].w = z2 at *
        go_wp2
        go_roundw
        case rel => exact ⟨i + 1, true, by omega, by go_num, rfl, HH⟩
        case measure => simp [intOf]; omega
      · have he : (l[i].n == n) = false := by simpa using e
        obtain ⟨v2, w2, hr, hs⟩ := HS.out.miss hil e HL.out
        have HR := hid hr
        have HH := hid hs
        clear hr hs
        generalize l[i].n = z0 at *
        generalize l[i].d = z1 at *
        generalize l[i].w = z2 at *
        go_wp2_with (at_builtin; refine wpList_append_run rfl (.tmp 39) (.tmp 47) tOs tOs rfl _ _ (by simp [Act.eval]) (by simp [Act.eval]) HR.out ?_)
        go_roundw
        case rel => exact ⟨i + 1, b, by omega, by go_num, rfl, HH⟩
        case measure => simp [intOf]; omega
    · have hlt1 : ¬ (i : Int) < (nl : Int) := by omega
      have hie : i = nl := by omega
      have hs := HS.out
      rw [hie, ← HNL.out] at hs
      have hbox := hs.box
      have hyes := hs.yes
      have hout := hs.out
      rw [List.take_length] at hbox hyes hout
      rw [HF.out] at hbox hyes
      have HO := hid hout
      have HBL := hid hs.bel
      have HC := hid hs.cel
      obtain ⟨b0, b1, b2, b3, b4, b5, b6⟩ := obj_cells hbox
      obtain ⟨d0, d1, d2, d3, d4, d5, d6⟩ := obj_cells HC.out
      subst hyes
      clear hs hbox hout HS
      have PC := put3_chg wr w.heap.size ⟨y0, y1, y2⟩
      obtain ⟨f0, f1, f2, f3, -, -, -⟩ := obj_cells (put3_box HC.out ⟨y0, y1, y2⟩)
      have HOUT : Hid (OR (fun g => w.heap.size ≤ g) (put3 wr w.heap.size ⟨y0, y1, y2⟩).drew u7 (wo n l) ∧ Below w.heap.size w (put3 wr w.heap.size ⟨y0, y1, y2⟩).drew) :=
        hid ⟨⟨((HO.out.kept PC (fun g hg e => by have := (HO.out.2 g hg).1; omega)).1).drew, fun g hg => Nat.le_of_lt (HO.out.2 g hg).1⟩, (HBL.out.trans (PC.below HBL.out.size (fun j hj e => by omega))).drew⟩
      clear PC
      dsimp only [put3] at HOUT f0 f1 f2 f3 b0 b1 b2
      go_wp2
      go_region
      generalize hz : ((wr.setCell ⟨w.heap.size, 0, none⟩ (.int .i64 y0)).setCell ⟨w.heap.size, 1, none⟩ (.string (bs y1))).setCell ⟨w.heap.size, 2, none⟩ (.bool y2) = wz at *
      go_wp2
      refine bodyPost_ret (v := .tuple #[u7, .agg #[.int .i64 y0, .string (bs y1), .bool y2], .bool b]) ?_ rfl ⟨u7, rfl, HOUT.out⟩
      simp [results, go_sem, f0, f1, f2]
end Ca
end Go.Proofs.Ythciofgkdfideaa
