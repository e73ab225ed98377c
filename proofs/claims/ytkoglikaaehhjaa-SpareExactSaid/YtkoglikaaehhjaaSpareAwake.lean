/-
  Contract of the statements' awake: answers that the document fixes by number.
-/
import Derived.Test.YtkoglikaaehhjaaSpareSeen
namespace Go.Proofs.Ytkoglikaaehhjaa
open Go.RowKit
namespace Sp
open Num (hid)
open Mem (Bs bs IAt tI tS tIs tSs Chg Row ptr blk_cell blk_free blk_new blk_set blk_other blk_alloc row_kept row_shape row_type)
theorem small_takeM {c : Nat} {S : St} (h : Small c S) (hd : Hd) : Small (c + 2) (takeM hd S).2 := by
  unfold takeM
  split
  · exact h.more (by omega)
  · have h1 := small_tat h hd.trunk
    unfold takeOf
    split
    · exact h1.more (by omega)
    · split
      · exact h1.more (by omega)
      · split
        · exact h1.more (by omega)
        · split
          · exact small_ptr h1 _ _
          · exact small_ptr h1 _ _
theorem small_giveM {c : Nat} {S : St} (h : Small c S) (hd : Hd) (n : Int) : Small (c + 2) (giveM hd S n).2 := by
  unfold giveM
  split
  · exact h.more (by omega)
  · split
    · exact h.more (by omega)
    · have h1 := (tf_len hd S n).2 c h
      unfold giveOf
      split
      · exact h1.more (by omega)
      · split
        · exact small_ptr h1 _ _
        · exact small_ptr h1 _ _
theorem small_0 : Small 1 St0 := by unfold Small St0; simp
def h5 : Hd := ⟨1, 5, 0, 0, 0, 0⟩
def h6 : Hd := ⟨1, 6, 0, 0, 0, 0⟩
def h7 : Hd := ⟨1, 6, 3, 1, 0, 0⟩
def h8 : Hd := ⟨1, 6, 3, 2, 0, 0⟩
def S1 : St := (takeM h5 St0).2
def S2 : St := (giveM h6 S1 3).2
def S3 : St := (giveM h7 S2 4).2
def S4 : St := (takeM h8 S3).2
def S5 : St := (takeM h7 S4).2
theorem a1 : (takeM h5 St0).1 = (5, h6, 0) := by decide +kernel
theorem a2 : (giveM h6 S1 3).1 = (h7, 0) := by decide +kernel
theorem a3 : (giveM h7 S2 4).1 = (h8, 0) := by decide +kernel
theorem a4 : (takeM h8 S3).1 = (4, h7, 0) := by decide +kernel
theorem a5 : (takeM h7 S4).1 = (3, h6, 0) := by decide +kernel
theorem f5 : Fit h5 := by decide
theorem f6 : Fit h6 := by decide
theorem f7 : Fit h7 := by decide
theorem f8 : Fit h8 := by decide
theorem sm1 : Small 3 S1 := small_takeM small_0 h5
theorem sm2 : Small 5 S2 := small_giveM sm1 h6 3
theorem sm3 : Small 7 S3 := small_giveM sm2 h7 4
theorem sm4 : Small 9 S4 := small_takeM sm3 h8
section
variable {O : Nat → Prop} {d b : Nat} {w : World}
theorem c1 (h : Seen O d b St0 w) : Calls Try.prog 17 #[.agg #[.int .i64 1, .int .i64 5, .int .i64 0, .int .i64 0, .int .i64 0, .int .u64 0], dkV d] w fun e w' => e = .returned (.tuple #[.int .i64 5, .agg #[.int .i64 1, .int .i64 6, .int .i64 0, .int .i64 0, .int .i64 0, .int .u64 0], .int .i64 0]) ∧ Seen O d b S1 w' ∧ Stays O w w' := by
  have H := take_seen h small_0 (by decide) h5 f5
  rw [a1] at H
  exact H
theorem c2 (h : Seen O d b S1 w) : Calls Try.prog 19 #[.agg #[.int .i64 1, .int .i64 6, .int .i64 0, .int .i64 0, .int .i64 0, .int .u64 0], dkV d, .int .i64 3] w fun e w' => e = .returned (.tuple #[.agg #[.int .i64 1, .int .i64 6, .int .i64 3, .int .i64 1, .int .i64 0, .int .u64 0], .int .i64 0]) ∧ Seen O d b S2 w' ∧ Stays O w w' := by
  have H := give_seen h sm1 (by decide) h6 f6 3
  rw [a2] at H
  exact H
theorem c3 (h : Seen O d b S2 w) : Calls Try.prog 19 #[.agg #[.int .i64 1, .int .i64 6, .int .i64 3, .int .i64 1, .int .i64 0, .int .u64 0], dkV d, .int .i64 4] w fun e w' => e = .returned (.tuple #[.agg #[.int .i64 1, .int .i64 6, .int .i64 3, .int .i64 2, .int .i64 0, .int .u64 0], .int .i64 0]) ∧ Seen O d b S3 w' ∧ Stays O w w' := by
  have H := give_seen h sm2 (by decide) h7 f7 4
  rw [a3] at H
  exact H
theorem c4 (h : Seen O d b S3 w) : Calls Try.prog 17 #[.agg #[.int .i64 1, .int .i64 6, .int .i64 3, .int .i64 2, .int .i64 0, .int .u64 0], dkV d] w fun e w' => e = .returned (.tuple #[.int .i64 4, .agg #[.int .i64 1, .int .i64 6, .int .i64 3, .int .i64 1, .int .i64 0, .int .u64 0], .int .i64 0]) ∧ Seen O d b S4 w' ∧ Stays O w w' := by
  have H := take_seen h sm3 (by decide) h8 f8
  rw [a4] at H
  exact H
theorem c5 (h : Seen O d b S4 w) : Calls Try.prog 17 #[.agg #[.int .i64 1, .int .i64 6, .int .i64 3, .int .i64 1, .int .i64 0, .int .u64 0], dkV d] w fun e w' => e = .returned (.tuple #[.int .i64 3, .agg #[.int .i64 1, .int .i64 6, .int .i64 0, .int .i64 0, .int .i64 0, .int .u64 0], .int .i64 0]) ∧ Seen O d b S5 w' ∧ Stays O w w' := by
  have H := take_seen h sm4 (by decide) h7 f7
  rw [a5] at H
  exact H
end
def t79 : Tr := ⟨7, [9]⟩
theorem ok79 : okT t79 = true := by decide
def P79 : ByteArray := bs (pageT t79)
theorem e79 (b : Nat) (w : World) (h : w.cell? ⟨b, 0, none⟩ = some (.int .i64 9)) : Calls Try.prog 9 #[.agg #[.int .i64 7, .slice (some ⟨b, 0, none⟩) 1 1]] w fun e w' => e = .returned (.tuple #[.string P79, .int .i64 0]) ∧ Below w.heap.size w w' := by
  have hlt : b < w.heap.size := by
    rcases Nat.lt_or_ge b w.heap.size with h' | h'
    · exact h'
    · simp [World.cell?, Array.getElem?_eq_none h'] at h
  have hI : IAt w (.slice (some ⟨b, 0, none⟩) 1 1) [9] := by
    refine ⟨Or.inr ⟨b, 0, 1, rfl, Nat.le_refl _, hlt, fun j hj i hi => ?_⟩, by decide⟩
    have hj0 : j = 0 := by simpa using hj
    have hi0 : i = 0 := by omega
    subst hj0 hi0
    exact h
  have H := encode_any t79 _ w hI
  rw [enc_good ok79] at H
  exact H
theorem d79 (w : World) : Calls Try.prog 11 #[.string P79] w fun e w' => (∃ ao cap, e = .returned (.tuple #[.agg #[.int .i64 7, .slice ao 1 cap], .int .i64 0])) ∧ Below w.heap.size w w' := by
  refine (decode_any (pageT t79) w).mono ?_
  rintro e w' ⟨⟨lv, rfl, hr⟩, hb⟩
  rw [dec_page ok79] at hr ⊢
  obtain ⟨ao, cap, rfl⟩ := hr.shape
  exact ⟨⟨ao, cap, rfl⟩, hb⟩
theorem s79 : P79.size = 232 := by unfold P79; rw [bs_size, page_len ok79]
theorem x79 : P79.extract 0 10 = ⟨#[4, 0, 0, 0, 7, 1, 0, 0, 0, 9]⟩ := by
  unfold P79
  rw [ex_take]
  have e : (pageT t79).take 10 = [4, 0, 0, 0, 7, 1, 0, 0, 0, 9] := by decide +kernel
  rw [e]
  rfl
/-- A head is stored in its box. -/
abbrev lit6 (w : World) (B : Nat) (a p t s r : Int) : World := (((((w.setCell ⟨B, 0, none⟩ (.int .i64 a)).setCell ⟨B, 1, none⟩ (.int .i64 p)).setCell ⟨B, 2, none⟩ (.int .i64 t)).setCell ⟨B, 3, none⟩ (.int .i64 s)).setCell ⟨B, 4, none⟩ (.int .i64 r)).setCell ⟨B, 5, none⟩ (.int .u64 0)
theorem st6 {O : Nat → Prop} {d b B N : Nat} {S' : St} {w0 w w' : World} {g : Hd} (hH : Hb B g w) (hS : Seen O d b S' w') (hst : Stays O w w') (hO : O B) (hb : Below N w0 w) (hN : ∀ k, k < N → O k) (hNB : N ≤ B) (hz : N ≤ w.heap.size) :
    Hb B g w' ∧ ∀ (a p t s r : Int), Hb B ⟨a, p, t, s, r, 0⟩ (lit6 w' B a p t s r) ∧ Seen O d b S' (lit6 w' B a p t s r) ∧ Below N w0 (lit6 w' B a p t s r) := by
  have h1 := hst.hb hH hO
  refine ⟨h1, fun a p t s r => ⟨h1.put ⟨a, p, t, s, r, 0⟩, (((((hS.set hO _).set hO _).set hO _).set hO _).set hO _).set hO _, ?_⟩⟩
  have hb2 := hb.trans (hst.below hz hN)
  exact bel_put6 hb2 hNB ⟨a, p, t, s, r, 0⟩
set_option maxRecDepth 100000 in
set_option maxHeartbeats 2000000 in
theorem awake_any (w : World) : Calls Try.prog 8 #[] w fun e w' => e = .returned (.bool true) ∧ Below w.heap.size w w' := by
  have hs79 := s79
  have hx79 := x79
  go_enter Try.func8, Try.ntmps8
  go_wp2_with fail
  refine (fresh_any w).mono ?_
  rintro e w1 ⟨rfl, hs1, hb1, hz1⟩
  have hH1 : Hb w1.heap.size h5 (w1.alloc (.cells #[.int .i64 1, .int .i64 5, .int .i64 0, .int .i64 0, .int .i64 0, .int .u64 0] tH)) := Hb.new h5 w1
  have hb2 : Below w1.heap.size w1 (w1.alloc (.cells #[.int .i64 1, .int .i64 5, .int .i64 0, .int .i64 0, .int .i64 0, .int .u64 0] tH)) := (Below.refl _ _).alloc (Nat.le_refl _) _
  have G1 := hid (hs1.more hb2)
  have HB := hid ((hb1.trans (hb2.mono hb1.size)))
  have HH := hid hH1
  have HZ := hid (show w.heap.size ≤ w1.heap.size by omega)
  generalize hd : w.heap.size + 1 = d at *
  clear hs1 hb1 hz1 hH1 hb2 hd
  go_upto_region 3 with fail
  generalize w1.alloc (.cells #[.int .i64 1, .int .i64 5, .int .i64 0, .int .i64 0, .int .i64 0, .int .u64 0] tH) = w2 at *
  have HO : Hid ((fun k => k < w.heap.size ∨ (w1.heap.size ≤ k ∧ k < w2.heap.size)) w1.heap.size) := hid (Or.inr ⟨Nat.le_refl _, HH.out.lt⟩)
  have HN : Hid (∀ k, k < w.heap.size → (fun k => k < w.heap.size ∨ (w1.heap.size ≤ k ∧ k < w2.heap.size)) k) := hid (fun k hk => Or.inl hk)
  have HZ2 := hid HB.out.size
  generalize (fun k => k < w.heap.size ∨ (w1.heap.size ≤ k ∧ k < w2.heap.size)) = O at *
  generalize hBB : w1.heap.size = B at *
  clear hBB
  obtain ⟨p0, p1, p2, p3, p4, p5⟩ := HH.out.cells
  have pl := HH.out.lt
  unfold h5 at p0 p1 p2 p3 p4 p5
  simp only at p0 p1 p2 p3 p4 p5
  go_wp2_with fail
  refine (c1 G1.out).mono ?_
  rintro e w3 ⟨rfl, hs, hst⟩
  have F1 := hid (st6 HH.out hs hst HO.out HB.out HN.out HZ.out HZ2.out)
  clear hs hst p0 p1 p2 p3 p4 p5 pl
  obtain ⟨f0, f1, f2, f3, f4, f5⟩ := F1.out.1.free
  have pl := F1.out.1.lt
  obtain ⟨r0, r1, r2, r3, r4, r5⟩ := F1.out.1.cells
  have HH1 : Hid (Hb B h6 ((((((w3.setCell ⟨B, 0, none⟩ (.int .i64 1)).setCell ⟨B, 1, none⟩ (.int .i64 6)).setCell ⟨B, 2, none⟩ (.int .i64 0)).setCell ⟨B, 3, none⟩ (.int .i64 0)).setCell ⟨B, 4, none⟩ (.int .i64 0)).setCell ⟨B, 5, none⟩ (.int .u64 0))) := hid (F1.out.2 1 6 0 0 0).1
  have G1s : Hid (Seen O d w.heap.size S1 ((((((w3.setCell ⟨B, 0, none⟩ (.int .i64 1)).setCell ⟨B, 1, none⟩ (.int .i64 6)).setCell ⟨B, 2, none⟩ (.int .i64 0)).setCell ⟨B, 3, none⟩ (.int .i64 0)).setCell ⟨B, 4, none⟩ (.int .i64 0)).setCell ⟨B, 5, none⟩ (.int .u64 0))) := hid (F1.out.2 1 6 0 0 0).2.1
  have HB1 : Hid (Below w.heap.size w ((((((w3.setCell ⟨B, 0, none⟩ (.int .i64 1)).setCell ⟨B, 1, none⟩ (.int .i64 6)).setCell ⟨B, 2, none⟩ (.int .i64 0)).setCell ⟨B, 3, none⟩ (.int .i64 0)).setCell ⟨B, 4, none⟩ (.int .i64 0)).setCell ⟨B, 5, none⟩ (.int .u64 0))) := hid (F1.out.2 1 6 0 0 0).2.2
  go_upto_region 4 with fail
  clear f0 f1 f2 f3 f4 f5 pl r0 r1 r2 r3 r4 r5 F1
  generalize ((((((w3.setCell ⟨B, 0, none⟩ (.int .i64 1)).setCell ⟨B, 1, none⟩ (.int .i64 6)).setCell ⟨B, 2, none⟩ (.int .i64 0)).setCell ⟨B, 3, none⟩ (.int .i64 0)).setCell ⟨B, 4, none⟩ (.int .i64 0)).setCell ⟨B, 5, none⟩ (.int .u64 0)) = w4 at *
  have HZ1 := hid HB1.out.size
  obtain ⟨p0, p1, p2, p3, p4, p5⟩ := HH1.out.cells
  have pl := HH1.out.lt
  unfold h6 at p0 p1 p2 p3 p4 p5
  simp only at p0 p1 p2 p3 p4 p5
  go_wp2_with fail
  refine (c2 G1s.out).mono ?_
  rintro e w5 ⟨rfl, hs, hst⟩
  have F2 := hid (st6 HH1.out hs hst HO.out HB1.out HN.out HZ.out HZ1.out)
  clear hs hst p0 p1 p2 p3 p4 p5 pl
  obtain ⟨f0, f1, f2, f3, f4, f5⟩ := F2.out.1.free
  have pl := F2.out.1.lt
  obtain ⟨r0, r1, r2, r3, r4, r5⟩ := F2.out.1.cells
  have HH2 : Hid (Hb B h7 ((((((w5.setCell ⟨B, 0, none⟩ (.int .i64 1)).setCell ⟨B, 1, none⟩ (.int .i64 6)).setCell ⟨B, 2, none⟩ (.int .i64 3)).setCell ⟨B, 3, none⟩ (.int .i64 1)).setCell ⟨B, 4, none⟩ (.int .i64 0)).setCell ⟨B, 5, none⟩ (.int .u64 0))) := hid (F2.out.2 1 6 3 1 0).1
  have G2s : Hid (Seen O d w.heap.size S2 ((((((w5.setCell ⟨B, 0, none⟩ (.int .i64 1)).setCell ⟨B, 1, none⟩ (.int .i64 6)).setCell ⟨B, 2, none⟩ (.int .i64 3)).setCell ⟨B, 3, none⟩ (.int .i64 1)).setCell ⟨B, 4, none⟩ (.int .i64 0)).setCell ⟨B, 5, none⟩ (.int .u64 0))) := hid (F2.out.2 1 6 3 1 0).2.1
  have HB2 : Hid (Below w.heap.size w ((((((w5.setCell ⟨B, 0, none⟩ (.int .i64 1)).setCell ⟨B, 1, none⟩ (.int .i64 6)).setCell ⟨B, 2, none⟩ (.int .i64 3)).setCell ⟨B, 3, none⟩ (.int .i64 1)).setCell ⟨B, 4, none⟩ (.int .i64 0)).setCell ⟨B, 5, none⟩ (.int .u64 0))) := hid (F2.out.2 1 6 3 1 0).2.2
  go_upto_region 5 with fail
  clear f0 f1 f2 f3 f4 f5 pl r0 r1 r2 r3 r4 r5 F2
  generalize ((((((w5.setCell ⟨B, 0, none⟩ (.int .i64 1)).setCell ⟨B, 1, none⟩ (.int .i64 6)).setCell ⟨B, 2, none⟩ (.int .i64 3)).setCell ⟨B, 3, none⟩ (.int .i64 1)).setCell ⟨B, 4, none⟩ (.int .i64 0)).setCell ⟨B, 5, none⟩ (.int .u64 0)) = w6 at *
  have HZ2 := hid HB2.out.size
  obtain ⟨p0, p1, p2, p3, p4, p5⟩ := HH2.out.cells
  have pl := HH2.out.lt
  unfold h7 at p0 p1 p2 p3 p4 p5
  simp only at p0 p1 p2 p3 p4 p5
  go_wp2_with fail
  refine (c3 G2s.out).mono ?_
  rintro e w7 ⟨rfl, hs, hst⟩
  have F3 := hid (st6 HH2.out hs hst HO.out HB2.out HN.out HZ.out HZ2.out)
  clear hs hst p0 p1 p2 p3 p4 p5 pl
  obtain ⟨f0, f1, f2, f3, f4, f5⟩ := F3.out.1.free
  have pl := F3.out.1.lt
  obtain ⟨r0, r1, r2, r3, r4, r5⟩ := F3.out.1.cells
  have HH3 : Hid (Hb B h8 ((((((w7.setCell ⟨B, 0, none⟩ (.int .i64 1)).setCell ⟨B, 1, none⟩ (.int .i64 6)).setCell ⟨B, 2, none⟩ (.int .i64 3)).setCell ⟨B, 3, none⟩ (.int .i64 2)).setCell ⟨B, 4, none⟩ (.int .i64 0)).setCell ⟨B, 5, none⟩ (.int .u64 0))) := hid (F3.out.2 1 6 3 2 0).1
  have G3s : Hid (Seen O d w.heap.size S3 ((((((w7.setCell ⟨B, 0, none⟩ (.int .i64 1)).setCell ⟨B, 1, none⟩ (.int .i64 6)).setCell ⟨B, 2, none⟩ (.int .i64 3)).setCell ⟨B, 3, none⟩ (.int .i64 2)).setCell ⟨B, 4, none⟩ (.int .i64 0)).setCell ⟨B, 5, none⟩ (.int .u64 0))) := hid (F3.out.2 1 6 3 2 0).2.1
  have HB3 : Hid (Below w.heap.size w ((((((w7.setCell ⟨B, 0, none⟩ (.int .i64 1)).setCell ⟨B, 1, none⟩ (.int .i64 6)).setCell ⟨B, 2, none⟩ (.int .i64 3)).setCell ⟨B, 3, none⟩ (.int .i64 2)).setCell ⟨B, 4, none⟩ (.int .i64 0)).setCell ⟨B, 5, none⟩ (.int .u64 0))) := hid (F3.out.2 1 6 3 2 0).2.2
  go_upto_region 6 with fail
  clear f0 f1 f2 f3 f4 f5 pl r0 r1 r2 r3 r4 r5 F3
  generalize ((((((w7.setCell ⟨B, 0, none⟩ (.int .i64 1)).setCell ⟨B, 1, none⟩ (.int .i64 6)).setCell ⟨B, 2, none⟩ (.int .i64 3)).setCell ⟨B, 3, none⟩ (.int .i64 2)).setCell ⟨B, 4, none⟩ (.int .i64 0)).setCell ⟨B, 5, none⟩ (.int .u64 0)) = w8 at *
  have HZ3 := hid HB3.out.size
  obtain ⟨p0, p1, p2, p3, p4, p5⟩ := HH3.out.cells
  have pl := HH3.out.lt
  unfold h8 at p0 p1 p2 p3 p4 p5
  simp only at p0 p1 p2 p3 p4 p5
  go_wp2_with fail
  refine (c4 G3s.out).mono ?_
  rintro e w9 ⟨rfl, hs, hst⟩
  have F4 := hid (st6 HH3.out hs hst HO.out HB3.out HN.out HZ.out HZ3.out)
  clear hs hst p0 p1 p2 p3 p4 p5 pl
  obtain ⟨f0, f1, f2, f3, f4, f5⟩ := F4.out.1.free
  have pl := F4.out.1.lt
  obtain ⟨r0, r1, r2, r3, r4, r5⟩ := F4.out.1.cells
  have HH4 : Hid (Hb B h7 ((((((w9.setCell ⟨B, 0, none⟩ (.int .i64 1)).setCell ⟨B, 1, none⟩ (.int .i64 6)).setCell ⟨B, 2, none⟩ (.int .i64 3)).setCell ⟨B, 3, none⟩ (.int .i64 1)).setCell ⟨B, 4, none⟩ (.int .i64 0)).setCell ⟨B, 5, none⟩ (.int .u64 0))) := hid (F4.out.2 1 6 3 1 0).1
  have G4s : Hid (Seen O d w.heap.size S4 ((((((w9.setCell ⟨B, 0, none⟩ (.int .i64 1)).setCell ⟨B, 1, none⟩ (.int .i64 6)).setCell ⟨B, 2, none⟩ (.int .i64 3)).setCell ⟨B, 3, none⟩ (.int .i64 1)).setCell ⟨B, 4, none⟩ (.int .i64 0)).setCell ⟨B, 5, none⟩ (.int .u64 0))) := hid (F4.out.2 1 6 3 1 0).2.1
  have HB4 : Hid (Below w.heap.size w ((((((w9.setCell ⟨B, 0, none⟩ (.int .i64 1)).setCell ⟨B, 1, none⟩ (.int .i64 6)).setCell ⟨B, 2, none⟩ (.int .i64 3)).setCell ⟨B, 3, none⟩ (.int .i64 1)).setCell ⟨B, 4, none⟩ (.int .i64 0)).setCell ⟨B, 5, none⟩ (.int .u64 0))) := hid (F4.out.2 1 6 3 1 0).2.2
  go_upto_region 7 with fail
  clear f0 f1 f2 f3 f4 f5 pl r0 r1 r2 r3 r4 r5 F4
  generalize ((((((w9.setCell ⟨B, 0, none⟩ (.int .i64 1)).setCell ⟨B, 1, none⟩ (.int .i64 6)).setCell ⟨B, 2, none⟩ (.int .i64 3)).setCell ⟨B, 3, none⟩ (.int .i64 1)).setCell ⟨B, 4, none⟩ (.int .i64 0)).setCell ⟨B, 5, none⟩ (.int .u64 0)) = w10 at *
  have HZ4 := hid HB4.out.size
  obtain ⟨p0, p1, p2, p3, p4, p5⟩ := HH4.out.cells
  have pl := HH4.out.lt
  unfold h7 at p0 p1 p2 p3 p4 p5
  simp only at p0 p1 p2 p3 p4 p5
  go_wp2_with fail
  refine (c5 G4s.out).mono ?_
  rintro e w11 ⟨rfl, hs, hst⟩
  have F5 := hid (st6 HH4.out hs hst HO.out HB4.out HN.out HZ.out HZ4.out)
  clear hs hst p0 p1 p2 p3 p4 p5 pl
  obtain ⟨f0, f1, f2, f3, f4, f5⟩ := F5.out.1.free
  have pl := F5.out.1.lt
  obtain ⟨r0, r1, r2, r3, r4, r5⟩ := F5.out.1.cells
  have HH5 : Hid (Hb B h6 ((((((w11.setCell ⟨B, 0, none⟩ (.int .i64 1)).setCell ⟨B, 1, none⟩ (.int .i64 6)).setCell ⟨B, 2, none⟩ (.int .i64 0)).setCell ⟨B, 3, none⟩ (.int .i64 0)).setCell ⟨B, 4, none⟩ (.int .i64 0)).setCell ⟨B, 5, none⟩ (.int .u64 0))) := hid (F5.out.2 1 6 0 0 0).1
  have G5s : Hid (Seen O d w.heap.size S5 ((((((w11.setCell ⟨B, 0, none⟩ (.int .i64 1)).setCell ⟨B, 1, none⟩ (.int .i64 6)).setCell ⟨B, 2, none⟩ (.int .i64 0)).setCell ⟨B, 3, none⟩ (.int .i64 0)).setCell ⟨B, 4, none⟩ (.int .i64 0)).setCell ⟨B, 5, none⟩ (.int .u64 0))) := hid (F5.out.2 1 6 0 0 0).2.1
  have HB5 : Hid (Below w.heap.size w ((((((w11.setCell ⟨B, 0, none⟩ (.int .i64 1)).setCell ⟨B, 1, none⟩ (.int .i64 6)).setCell ⟨B, 2, none⟩ (.int .i64 0)).setCell ⟨B, 3, none⟩ (.int .i64 0)).setCell ⟨B, 4, none⟩ (.int .i64 0)).setCell ⟨B, 5, none⟩ (.int .u64 0))) := hid (F5.out.2 1 6 0 0 0).2.2
  go_upto_region 8 with fail
  clear f0 f1 f2 f3 f4 f5 pl r0 r1 r2 r3 r4 r5 F5
  generalize ((((((w11.setCell ⟨B, 0, none⟩ (.int .i64 1)).setCell ⟨B, 1, none⟩ (.int .i64 6)).setCell ⟨B, 2, none⟩ (.int .i64 0)).setCell ⟨B, 3, none⟩ (.int .i64 0)).setCell ⟨B, 4, none⟩ (.int .i64 0)).setCell ⟨B, 5, none⟩ (.int .u64 0)) = w12 at *
  have HZ5 := hid HB5.out.size
  have HE := hid (e79 w12.heap.size (w12.alloc (.cells #[.int .i64 9] tI)) (blk_cell (blk_new w12 _) 0))
  have HB6 := hid (HB5.out.alloc HZ5.out (.cells #[.int .i64 9] tI))
  have HH6 := hid (HH5.out.on ((Below.refl w12.heap.size w12).alloc (Nat.le_refl _) (.cells #[.int .i64 9] tI)))
  go_wp2_with fail
  refine HE.out.mono ?_
  rintro e w13 ⟨rfl, hb13⟩
  have HB7 := hid (HB6.out.trans (hb13.mono HB6.out.size))
  have HH7 := hid (HH6.out.on hb13)
  clear hb13
  go_wp2_with fail
  refine (d79 w13).mono ?_
  rintro e w14 ⟨⟨ao, cap, rfl⟩, hb14⟩
  have HB8 := hid (HB7.out.trans (hb14.mono HB7.out.size))
  have HH8 := hid (HH7.out.on hb14)
  clear hb14
  obtain ⟨p0, p1, p2, p3, p4, p5⟩ := HH8.out.cells
  have pl := HH8.out.lt
  unfold h6 at p0 p1 p2 p3 p4 p5
  simp only at p0 p1 p2 p3 p4 p5
  have HB9 := hid (HB8.out.alloc HB8.out.size (.cells #[.int .i64 7, .slice ao 1 cap] tT))
  go_wp2
  go_ret
  exact ⟨rfl, HB9.out⟩
end Sp
end Go.Proofs.Ytkoglikaaehhjaa
