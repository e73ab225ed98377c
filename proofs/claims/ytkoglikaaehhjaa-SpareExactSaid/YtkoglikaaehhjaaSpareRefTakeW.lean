/-
  Contract of the reference's Take: the walk.
-/
import Derived.Test.YtkoglikaaehhjaaSpareRefTake
import Derived.Test.YtkoglikaaehhjaaSpareRefEnc
namespace Go.Proofs.Ytkoglikaaehhjaa
open Go.RowKit
namespace Sp
open Num (hid)
open Mem (Bs bs IAt tI tS tIs tSs Chg Row ptr blk_cell blk_free blk_new blk_set blk_other blk_alloc row_kept row_shape row_type)
/-- What the reference's calls carry: the head's box, the answer's, the book below both. -/
structure RT (Q : Nat → Prop) (w : World) (bk : Nat) (B : Book) (g z : Hd) (wr : World) : Prop where
  a : Hb w.heap.size g wr
  r : Hb (w.heap.size + 1) z wr
  book : BookR Q wr bk B
  low : ∀ k, Q k → k < w.heap.size
  be : Below w.heap.size w wr
variable {Q R : Nat → Prop} {w wr w' : World} {bk : Nat} {B : Book} {g z : Hd}
theorem RT.on (k : RT Q w bk B g z wr) (hb : Below wr.heap.size wr w') : RT Q w bk B g z w' := ⟨k.a.on hb, k.r.on hb, k.book.on hb, k.low, k.be.trans (hb.mono k.be.size)⟩
theorem rt_new (h : BookR R w bk B) (hd : Hd) : RT (fun k => R k ∧ k < w.heap.size) w bk B hd hd0 ((w.alloc (hObj hd)).alloc zObj) := by
  have e1 : (w.alloc (hObj hd)).heap.size = w.heap.size + 1 := by simp
  have hb1 : Below (w.alloc (hObj hd)).heap.size (w.alloc (hObj hd)) ((w.alloc (hObj hd)).alloc zObj) := (Below.refl _ _).alloc (Nat.le_refl _) _
  have hb0 : Below w.heap.size w (w.alloc (hObj hd)) := (Below.refl _ _).alloc (Nat.le_refl _) _
  have H2 : Hb (w.alloc (hObj hd)).heap.size hd0 ((w.alloc (hObj hd)).alloc zObj) := blk_new _ _
  rw [e1] at H2
  exact ⟨(Hb.new hd w).on hb1, H2, ((h.mono (fun q hq e => ⟨e, hq⟩)).on hb0).on hb1, fun k hk => hk.2, hb0.trans (hb1.mono (by rw [e1]; omega))⟩
/-- The head's box is turned. -/
theorem RT.setA (k : RT Q w bk B g z wr) {i : Nat} {u : Value} {g2 : Hd} (h : Hb w.heap.size g2 (wr.setCell ⟨w.heap.size, i, none⟩ u)) : RT Q w bk B g2 z (wr.setCell ⟨w.heap.size, i, none⟩ u) :=
  ⟨h, k.r.other (by omega) u, k.book.apart ((Chg.refl _ wr).root i u) (fun q hq e => by have := k.low q e; omega), k.low, bput k.be (Nat.le_refl _) i u⟩
theorem RT.pages (k : RT Q w bk B g z wr) (x : Int) : RT Q w bk B { g with pages := x } z (wr.setCell ⟨w.heap.size, 1, none⟩ (.int .i64 x)) := k.setA (k.a.pages x)
theorem RT.trunk (k : RT Q w bk B g z wr) (x : Int) : RT Q w bk B { g with trunk := x } z (wr.setCell ⟨w.heap.size, 2, none⟩ (.int .i64 x)) := k.setA (k.a.trunk x)
theorem RT.spare (k : RT Q w bk B g z wr) (x : Int) : RT Q w bk B { g with spare := x } z (wr.setCell ⟨w.heap.size, 3, none⟩ (.int .i64 x)) := k.setA (k.a.spare x)
/-- The answer's box is put. -/
theorem RT.put (k : RT Q w bk B g z wr) (x : Hd) : RT Q w bk B g x (put6 wr (w.heap.size + 1) x) := by
  have hc : Chg (· = w.heap.size + 1) wr (put6 wr (w.heap.size + 1) x) := ((((((Chg.refl _ wr).root _ _).root _ _).root _ _).root _ _).root _ _).root _ _
  exact ⟨k.a.at hc (by omega), k.r.put x, k.book.apart hc (fun q hq e => by have := k.low q e; omega), k.low, bel_put6 k.be (Nat.le_succ _) x⟩
/-- The answer. -/
theorem RT.out (k : RT (fun k => R k ∧ k < w.heap.size) w bk B g z wr) : BookR R wr bk B ∧ Chg R w wr := ⟨k.book.mono (fun _ _ e => e.1), Chg.of_below k.be⟩
/-- A page is put: the book's blocks and new ones. -/
structure RP (R : Nat → Prop) (w : World) (bk : Nat) (B : Book) (g z : Hd) (wr : World) : Prop where
  a : Hb w.heap.size g wr
  r : Hb (w.heap.size + 1) z wr
  book : ∃ Q, BookR Q wr bk B ∧ (∀ k, Q k → R k) ∧ (∀ k, Q k → k ≠ w.heap.size ∧ k ≠ w.heap.size + 1)
  ch : Chg R w wr
theorem RP.setA (k : RP R w bk B g z wr) {i : Nat} {u : Value} {g2 : Hd} (h : Hb w.heap.size g2 (wr.setCell ⟨w.heap.size, i, none⟩ u)) : RP R w bk B g2 z (wr.setCell ⟨w.heap.size, i, none⟩ u) := by
  obtain ⟨Q, h1, h2, h3⟩ := k.book
  exact ⟨h, k.r.other (by omega) u, ⟨Q, h1.apart ((Chg.refl _ wr).root i u) (fun q hq e => (h3 q e).1 hq), h2, h3⟩, k.ch.setCell (Or.inl (Nat.le_refl _)) u⟩
theorem RP.trunk (k : RP R w bk B g z wr) (x : Int) : RP R w bk B { g with trunk := x } z (wr.setCell ⟨w.heap.size, 2, none⟩ (.int .i64 x)) := k.setA (k.a.trunk x)
theorem RP.spare (k : RP R w bk B g z wr) (x : Int) : RP R w bk B { g with spare := x } z (wr.setCell ⟨w.heap.size, 3, none⟩ (.int .i64 x)) := k.setA (k.a.spare x)
theorem RP.put (k : RP R w bk B g z wr) (x : Hd) : RP R w bk B g x (put6 wr (w.heap.size + 1) x) := by
  obtain ⟨Q, h1, h2, h3⟩ := k.book
  have hc : Chg (· = w.heap.size + 1) wr (put6 wr (w.heap.size + 1) x) := ((((((Chg.refl _ wr).root _ _).root _ _).root _ _).root _ _).root _ _).root _ _
  exact ⟨k.a.at hc (by omega), k.r.put x, ⟨Q, h1.apart hc (fun q hq e => (h3 q e).2 hq), h2, h3⟩, chg_put6 k.ch (Or.inl (Nat.le_succ _)) x⟩
theorem RP.on (k : RP R w bk B g z wr) (hb : Below wr.heap.size wr w') : RP R w bk B g z w' := by
  obtain ⟨Q, h1, h2, h3⟩ := k.book
  exact ⟨k.a.on hb, k.r.on hb, ⟨Q, h1.on hb, h2, h3⟩, k.ch.trans (Chg.of_below hb)⟩
theorem RP.out (k : RP R w bk B g z wr) : BookR R wr bk B ∧ Chg R w wr := by
  obtain ⟨Q, h1, h2, h3⟩ := k.book
  exact ⟨h1.mono (fun q _ e => h2 q e), k.ch⟩
/-- Put, behind which the boxes stand as they did. -/
theorem rt_bput (k : RT (fun k => R k ∧ k < w.heap.size) w bk B g z wr) (hR : ∀ k, w.heap.size ≤ k → R k) (key : Int) (d : Bs) (hB : B.length ≤ 100000) :
    Calls Try.prog 16 #[ptr bk, .int .i64 key, .string (bs d)] wr fun e w' => e = .returned (.tuple #[]) ∧ RP R w bk (putB B key d) g z w' := by
  have h1 := k.r.lt
  refine (bput_any (R := Since (fun k => R k ∧ k < w.heap.size) wr wr) (k.book.mono (fun q hq e => Or.inl ⟨e, hq⟩)) Since.new key d hB).mono ?_
  rintro e w' ⟨rfl, hb, hc⟩
  have hA : ¬ Since (fun k => R k ∧ k < w.heap.size) wr wr w.heap.size := by
    rintro (e | e)
    · have := e.1.2; omega
    · omega
  have hZ : ¬ Since (fun k => R k ∧ k < w.heap.size) wr wr (w.heap.size + 1) := by
    rintro (e | e)
    · have := e.1.2; omega
    · omega
  have hS : ∀ q, Since (fun k => R k ∧ k < w.heap.size) wr wr q → R q := by
    rintro q (e | e)
    · exact e.1.1
    · exact hR q (Nat.le_trans k.be.size e)
  refine ⟨rfl, k.a.at hc hA, k.r.at hc hZ, ⟨_, hb, hS, fun q hq => ⟨fun e => hA (e ▸ hq), fun e => hZ (e ▸ hq)⟩⟩, (Chg.of_below k.be).trans (hc.mono (fun q _ e => hS q e))⟩
theorem rk_new {h : Hd} (k : h.spare = 0) : rTake h B = (takeNew h, B) := if_pos k
theorem rk_bad {h : Hd} (k : ¬ h.spare = 0) (k2 : (decT (getB B h.trunk)).2 ≠ 0 ∨ badT h (decT (getB B h.trunk)).1 = true) : rTake h B = ((0, hd0, 30), B) := by unfold rTake; rw [if_neg k, if_pos k2]
theorem rk_of {h : Hd} (k : ¬ h.spare = 0) {T : Tr} {e : Int} (k2 : decT (getB B h.trunk) = (T, e)) : rTake h B = if e ≠ 0 ∨ badT h T = true then ((0, hd0, 30), B) else if T.list.length = 0 then (takeTrunk h T.next, B) else ((T.list.getLastD 0, { h with spare := h.spare - 1 }, 0), putB B h.trunk (pageT ⟨T.next, T.list.dropLast⟩)) := by
  unfold rTake
  rw [if_neg k, k2]
theorem wrap_last {len m : Nat} (h : len = m + 1) (h2 : len ≤ 50) : IntKind.i64.wrap ((len : Int) - 1) = (m : Int) := by
  rw [IntKind.wrap_i64]
  omega
theorem take_eq {s n : Int} (h : decide (s - 1 = 0) = decide (n = 0)) : ((n == 0) == (s == 1)) = true := by
  have e : decide (s - 1 = 0) = (s == 1) := by
    rw [Bool.eq_iff_iff, decide_eq_true_eq, beq_iff_eq]
    omega
  have e2 : (n == 0) = decide (n = 0) := by rw [Bool.eq_iff_iff, decide_eq_true_eq, beq_iff_eq]
  rw [← e, h, e2]
  simp
theorem take_ne {s n : Int} (h : ¬ decide (s - 1 = 0) = decide (n = 0)) : ((n == 0) == (s == 1)) = false := by
  have e : decide (s - 1 = 0) = (s == 1) := by
    rw [Bool.eq_iff_iff, decide_eq_true_eq, beq_iff_eq]
    omega
  rw [e] at h
  have e2 : (n == 0) = decide (n = 0) := by rw [Bool.eq_iff_iff, decide_eq_true_eq, beq_iff_eq]
  rw [e2]
  revert h
  cases (s == 1) <;> cases decide (n = 0) <;> simp
set_option maxRecDepth 100000 in
set_option maxHeartbeats 8000000 in
theorem rtake_any (h : BookR R w bk B) (hR : ∀ k, w.heap.size ≤ k → R k) (hB : B.length ≤ 20000) (hd : Hd) (hf : Fit hd) :
    Calls Try.prog 18 #[hV hd, ptr bk] w fun e w' => e = .returned (takeV (rTake hd B).1) ∧ BookR R w' bk (rTake hd B).2 ∧ Chg R w w' := by
  obtain ⟨z1, hz1⟩ : ∃ z1, z1 = (w.alloc (.cells #[.int .i64 hd.mode, .int .i64 hd.pages, .int .i64 hd.trunk, .int .i64 hd.spare, .int .i64 hd.root, .int .u64 (hd.change : Nat)] tH)).alloc zObj := ⟨_, rfl⟩
  have K1 : Hid (RT (fun k => R k ∧ k < w.heap.size) w bk B hd hd0 z1) := hid (by rw [hz1]; exact rt_new h hd)
  have HZ := hid hz1
  have HR := hid hR
  obtain ⟨a0, a1, a2, a3, a4, a5⟩ := K1.out.a.cells
  obtain ⟨b0, b1, b2, b3, b4, b5⟩ := K1.out.a.free
  obtain ⟨r0, r1, r2, r3, r4, r5⟩ := K1.out.r.cells
  obtain ⟨s0, s1, s2, s3, s4, s5⟩ := K1.out.r.free
  have hl1 := K1.out.a.lt
  have hl2 := K1.out.r.lt
  have hf2 := hf
  unfold Fit at hf2
  have hsp : wrap64 (hd.spare - 1) = hd.spare - 1 := by rw [Num.wrap_i]; omega
  clear h hR hz1 hf
  by_cases h0 : hd.spare = 0
  · rw [rk_new h0]
    have h0' : (hd.spare == 0) = true := by simpa using h0
    clear h0 hsp
    by_cases hp : 4096 ≤ hd.pages
    · rw [tn_full hp]
      have KF : Hid (RT (fun k => R k ∧ k < w.heap.size) w bk B hd hd0 (put6z z1 (w.heap.size + 1))) := hid (K1.out.put hd0)
      clear hf2
      unfold hV
      go_enter Try.func18, Try.ntmps18
      go_upto_region 1 with fail
      rw [← HZ.out]
      go_wp2
      obtain ⟨x0, x1, x2, x3, x4, x5⟩ := KF.out.r.zeros
      refine @bodyPost_ret Try.prog Try.f18 (fun e w' => e = .returned (takeV (0, hd0, 22)) ∧ BookR R w' bk B ∧ Chg R w w') _ _ (takeV (0, hd0, 22)) ?_ ?_ ?_
      · simp [results, takeV, hV, hd0, go_sem, x0, x1, x2, x3, x4, x5]
      · rfl
      · exact ⟨rfl, KF.out.out⟩
    · rw [tn_more hp]
      have hw : wrap64 (hd.pages + 1) = hd.pages + 1 := by rw [Num.wrap_i]; omega
      have hw2 : wrap64 hd.pages = hd.pages := by rw [Num.wrap_i]; omega
      have K2 := hid (K1.out.pages (hd.pages + 1))
      clear hf2
      unfold hV
      go_enter Try.func18, Try.ntmps18
      go_upto_region 1 with fail
      rw [← HZ.out]
      go_upto_region 5 with fail
      clear a0 a1 a2 a3 a4 a5 b0 b1 b2 b3 b4 b5 r0 r1 r2 r3 r4 r5 s0 s1 s2 s3 s4 s5 hl1 hl2
      generalize z1.setCell ⟨w.heap.size, 1, none⟩ (.int .i64 (hd.pages + 1)) = z2 at *
      have KF := hid (K2.out.put { hd with pages := hd.pages + 1 })
      obtain ⟨a0, a1, a2, a3, a4, a5⟩ := K2.out.a.cells
      obtain ⟨r0, r1, r2, r3, r4, r5⟩ := K2.out.r.cells
      obtain ⟨s0, s1, s2, s3, s4, s5⟩ := K2.out.r.free
      have hl1 := K2.out.a.lt
      have hl2 := K2.out.r.lt
      go_region
      go_wp2
      obtain ⟨x0, x1, x2, x3, x4, x5⟩ := KF.out.r.cells
      have KO := hid (And.intro (KF.out.out.1.on (Below.refl _ _).drew) KF.out.out.2.drew)
      refine @bodyPost_ret Try.prog Try.f18 (fun e w' => e = .returned (takeV (hd.pages, { hd with pages := hd.pages + 1 }, 0)) ∧ BookR R w' bk B ∧ Chg R w w') _ _ (takeV (hd.pages, { hd with pages := hd.pages + 1 }, 0)) ?_ ?_ ?_
      · simp [results, takeV, hV, go_sem, x0, x1, x2, x3, x4, x5]
      · rfl
      · exact ⟨rfl, KO.out⟩
  · have h0' : (hd.spare == 0) = false := by simpa using h0
    have HG := hid (bget_any K1.out.book hd.trunk (by omega))
    obtain ⟨T, e1, hX⟩ : ∃ T e1, decT (getB B hd.trunk) = (T, e1) := ⟨_, _, rfl⟩
    have HK := hid (rk_of h0 hX)
    have HD := hid (fun w => rdecode_any (getB B hd.trunk) w)
    rw [hX] at HD
    unfold DecGives trV at HD
    simp only at HD
    have HOK : Hid (e1 = 0 → okT T = true) := hid (fun e => by
      have := dec_ok (s := getB B hd.trunk) (by rw [hX]; exact e)
      rw [hX] at this
      exact this.1)
    generalize rTake hd B = Y at *
    clear hX h0
    unfold hV
    go_enter Try.func18, Try.ntmps18
    go_upto_region 1 with fail
    rw [← HZ.out]
    go_wp2_with fail
    refine HG.out.mono ?_
    rintro e w3 ⟨rfl, hb3⟩
    have K3 := hid (K1.out.on hb3)
    clear hb3 HG
    go_wp2_with fail
    refine (HD.out _).mono ?_
    rintro e w4 ⟨⟨lv, rfl, hrow⟩, hb4⟩
    obtain ⟨len, hlen⟩ : ∃ x, T.list.length = x := ⟨_, rfl⟩
    obtain ⟨ao, cap, elv, -⟩ := Mem.row_shape hrow.row
    rw [hlen] at elv
    subst elv
    have k4 := K3.out.on hb4
    have hba : Below w4.heap.size w4 (w4.alloc (.cells #[.int .i64 T.next, .slice ao len cap] tT)) := (Below.refl w4.heap.size w4).alloc (Nat.le_refl _) _
    have K5 := hid (k4.on hba)
    have L5 := hid (hrow.on hba)
    have T5 := hid (Tb.new T.next (.slice ao len cap) w4)
    have HTA : Hid (w.heap.size + 2 ≤ w4.heap.size) := hid k4.r.lt
    clear hb4 hba k4 hrow HD K3 a0 a1 a2 a3 a4 a5 b0 b1 b2 b3 b4 b5 r0 r1 r2 r3 r4 r5 s0 s1 s2 s3 s4 s5 hl1 hl2
    go_upto_region 7 with fail
    generalize w4.alloc (.cells #[.int .i64 T.next, .slice ao len cap] tT) = w5 at *
    generalize w4.heap.size = tb at *
    obtain ⟨a0, a1, a2, a3, a4, a5⟩ := K5.out.a.cells
    obtain ⟨t0, t1⟩ := T5.out.cells
    have hl1 := K5.out.a.lt
    have hl3 := T5.out.lt
    by_cases h1 : e1 = 0
    · subst h1
      have hok := HOK.out rfl
      have hle := ((okT_iff T).1 hok).2.1
      rw [hlen] at hle
      by_cases hb1 : hd.pages ≤ T.next
      · have hy := HK.out
        rw [if_pos (Or.inr (bad_next hb1))] at hy
        subst hy
        clear HK
        go_wp2_with fail
        go_quiet (fail)
        rename_i nq
        have hbq := below_drewN (Below.refl w5.heap.size w5) nq
        have K6 := hid (K5.out.on hbq)
        have T6 := hid (T5.out.on hbq)
        have L6 := hid (L5.out.on hbq)
        clear hbq a0 a1 a2 a3 a4 a5 t0 t1 hl1 hl3 K5 T5 L5
        generalize w5.drewN nq = w6 at *
        obtain ⟨a0, a1, a2, a3, a4, a5⟩ := K6.out.a.cells
        obtain ⟨b0, b1, b2, b3, b4, b5⟩ := K6.out.a.free
        obtain ⟨t0, t1⟩ := T6.out.cells
        obtain ⟨r0, r1, r2, r3, r4, r5⟩ := K6.out.r.cells
        obtain ⟨s0, s1, s2, s3, s4, s5⟩ := K6.out.r.free
        have hl1 := K6.out.a.lt
        have hl2 := K6.out.r.lt
        have hl3 := T6.out.lt

        have KF : Hid (RT (fun k => R k ∧ k < w.heap.size) w bk B hd hd0 (put6z w6 (w.heap.size + 1))) := hid (K6.out.put hd0)
        go_wp2
        obtain ⟨x0, x1, x2, x3, x4, x5⟩ := KF.out.r.zeros
        refine @bodyPost_ret Try.prog Try.f18 (fun e w' => e = .returned (takeV (0, hd0, 30)) ∧ BookR R w' bk B ∧ Chg R w w') _ _ (takeV (0, hd0, 30)) ?_ ?_ ?_
        · simp [results, takeV, hV, hd0, go_sem, x0, x1, x2, x3, x4, x5]
        · rfl
        · exact ⟨rfl, KF.out.out⟩
      · have hg1 : decide (hd.pages ≤ T.next) = false := decide_eq_false hb1
        by_cases hn : len = 0
        · subst hn
          have hy := HK.out
          rw [if_neg (by rw [bad_none hb1 hlen]; simp), if_pos hlen] at hy
          clear HK hle hok
          generalize hnx : T.next = nx at *
          go_wp2_with fail
          go_quiet (fail)
          rename_i nq
          have hbq := below_drewN (Below.refl w5.heap.size w5) nq
          have K6 := hid (K5.out.on hbq)
          have T6 := hid (T5.out.on hbq)
          have L6 := hid (L5.out.on hbq)
          clear hbq a0 a1 a2 a3 a4 a5 t0 t1 hl1 hl3 K5 T5 L5
          generalize w5.drewN nq = w6 at *
          obtain ⟨a0, a1, a2, a3, a4, a5⟩ := K6.out.a.cells
          obtain ⟨b0, b1, b2, b3, b4, b5⟩ := K6.out.a.free
          obtain ⟨t0, t1⟩ := T6.out.cells
          obtain ⟨r0, r1, r2, r3, r4, r5⟩ := K6.out.r.cells
          obtain ⟨s0, s1, s2, s3, s4, s5⟩ := K6.out.r.free
          have hl1 := K6.out.a.lt
          have hl2 := K6.out.r.lt
          have hl3 := T6.out.lt
          by_cases hp : decide (hd.spare - 1 = 0) = decide (nx = 0)
          · rw [tt_ok hp] at hy
            subst hy
            have hq : ((nx == 0) == (hd.spare == 1)) = true := take_eq hp
            have K7 := hid ((K6.out.trunk nx).spare (hd.spare - 1))
            clear hp
            go_upto_region 18 with fail
            clear a0 a1 a2 a3 a4 a5 b0 b1 b2 b3 b4 b5 t0 t1 r0 r1 r2 r3 r4 r5 s0 s1 s2 s3 s4 s5 hl1 hl2 hl3
            generalize (w6.setCell ⟨w.heap.size, 2, none⟩ (.int .i64 nx)).setCell ⟨w.heap.size, 3, none⟩ (.int .i64 (hd.spare - 1)) = w8 at *
            have KF := hid (K7.out.put { hd with trunk := nx, spare := hd.spare - 1 })
            obtain ⟨a0, a1, a2, a3, a4, a5⟩ := K7.out.a.cells
            obtain ⟨r0, r1, r2, r3, r4, r5⟩ := K7.out.r.cells
            obtain ⟨s0, s1, s2, s3, s4, s5⟩ := K7.out.r.free
            have hl1 := K7.out.a.lt
            have hl2 := K7.out.r.lt
            go_region
            go_wp2
            obtain ⟨x0, x1, x2, x3, x4, x5⟩ := KF.out.r.cells
            have KO := hid (And.intro (KF.out.out.1.on (Below.refl _ _).drew) KF.out.out.2.drew)
            refine @bodyPost_ret Try.prog Try.f18 (fun e w' => e = .returned (takeV (hd.trunk, { hd with trunk := nx, spare := hd.spare - 1 }, 0)) ∧ BookR R w' bk B ∧ Chg R w w') _ _ (takeV (hd.trunk, { hd with trunk := nx, spare := hd.spare - 1 }, 0)) ?_ ?_ ?_
            · simp [results, takeV, hV, go_sem, x0, x1, x2, x3, x4, x5]
            · rfl
            · exact ⟨rfl, KO.out⟩
          · rw [tt_bad hp] at hy
            subst hy
            have hq : ((nx == 0) == (hd.spare == 1)) = false := take_ne hp
            have KF : Hid (RT (fun k => R k ∧ k < w.heap.size) w bk B { hd with trunk := nx } hd0 (put6z (w6.setCell ⟨w.heap.size, 2, none⟩ (.int .i64 nx)) (w.heap.size + 1))) := hid ((K6.out.trunk nx).put hd0)
            clear hp
            go_wp2
            obtain ⟨x0, x1, x2, x3, x4, x5⟩ := KF.out.r.zeros
            refine @bodyPost_ret Try.prog Try.f18 (fun e w' => e = .returned (takeV (0, hd0, 30)) ∧ BookR R w' bk B ∧ Chg R w w') _ _ (takeV (0, hd0, 30)) ?_ ?_ ?_
            · simp [results, takeV, hV, hd0, go_sem, x0, x1, x2, x3, x4, x5]
            · rfl
            · exact ⟨rfl, KF.out.out⟩
        · obtain ⟨m, hm⟩ : ∃ m, len = m + 1 := ⟨len - 1, by omega⟩
          have hlen2 : T.list.length = m + 1 := hlen.trans hm
          have hpos : (0 : Int) < (len : Int) := by omega
          have hgp : decide (0 < len) = true := decide_eq_true (by omega)
          have hwm : wrap64 ((len : Int) - 1) = (m : Int) := by rw [Num.wrap_i]; omega
          have hml : (m : Int) < (len : Int) := by omega
          have hml2 : m ≤ len := by omega
          have hm0 : (0 : Int) ≤ (m : Int) := by omega
          have hI5 := L5.out.at (by omega)
          rw [← hlen] at hI5
          obtain ⟨_, _, ev, -, hcap, hat⟩ := Mem.IAt.ways1 hI5
          cases ev
          obtain ⟨bq0, o0, rfl, hb0, x0⟩ := hat m (by omega)
          by_cases hb2 : hd.pages ≤ T.list[m]'(by omega)
          · have hy := HK.out
            rw [if_pos (Or.inr (by rw [bad_last hb1 hlen2, decide_eq_true hb2]))] at hy
            subst hy
            generalize T.list[m] = x at *
            clear HK hlen hlen2 hm hn hle hok hat hI5
            go_wp2_with fail
            go_quiet (fail)
            rename_i nq
            have hbq := below_drewN (Below.refl w5.heap.size w5) nq
            have K6 := hid (K5.out.on hbq)
            have T6 := hid (T5.out.on hbq)
            have L6 := hid (L5.out.on hbq)
            clear hbq a0 a1 a2 a3 a4 a5 t0 t1 hl1 hl3 K5 T5 L5
            generalize w5.drewN nq = w6 at *
            obtain ⟨a0, a1, a2, a3, a4, a5⟩ := K6.out.a.cells
            obtain ⟨b0, b1, b2, b3, b4, b5⟩ := K6.out.a.free
            obtain ⟨t0, t1⟩ := T6.out.cells
            obtain ⟨r0, r1, r2, r3, r4, r5⟩ := K6.out.r.cells
            obtain ⟨s0, s1, s2, s3, s4, s5⟩ := K6.out.r.free
            have hl1 := K6.out.a.lt
            have hl2 := K6.out.r.lt
            have hl3 := T6.out.lt

            have KF : Hid (RT (fun k => R k ∧ k < w.heap.size) w bk B hd hd0 (put6z w6 (w.heap.size + 1))) := hid (K6.out.put hd0)
            go_wp2
            obtain ⟨x0, x1, x2, x3, x4, x5⟩ := KF.out.r.zeros
            refine @bodyPost_ret Try.prog Try.f18 (fun e w' => e = .returned (takeV (0, hd0, 30)) ∧ BookR R w' bk B ∧ Chg R w w') _ _ (takeV (0, hd0, 30)) ?_ ?_ ?_
            · simp [results, takeV, hV, hd0, go_sem, x0, x1, x2, x3, x4, x5]
            · rfl
            · exact ⟨rfl, KF.out.out⟩
          · have hg2 : decide (hd.pages ≤ T.list[m]'(by omega)) = false := decide_eq_false hb2
            have hy := HK.out
            have hok2 : okT ⟨T.next, T.list.take m⟩ = true := by
              have := okT_last hok
              rw [last_take hlen2] at this
              exact this
            rw [if_neg (by rw [bad_last hb1 hlen2, decide_eq_false hb2]; simp), if_neg (by omega), last_at hlen2, last_take hlen2] at hy
            have HOK2 := hid hok2
            have HLE := hid (show T.list.length ≤ 1000000 by omega)
            have hlm : (T.list.take m).length = m := by rw [List.length_take]; omega
            have HWM := hid (wrap_last hm hle)
            generalize T.list[m] = x at *
            subst hy
            clear HK hlen2 hn hle hok hok2 hat hI5 hb2
            have HLN := hid hlen
            have HLM := hid hlm
            have hmc : m ≤ cap := by omega
            clear hlen hm hlm
            go_wp2_with fail
            go_quiet (fail)
            rename_i nq
            have hbq := below_drewN (Below.refl w5.heap.size w5) nq
            have K6 := hid (K5.out.on hbq)
            have T6 := hid (T5.out.on hbq)
            have L6 := hid (L5.out.on hbq)
            clear hbq a0 a1 a2 a3 a4 a5 t0 t1 hl1 hl3 K5 T5 L5
            have x6 : (w5.drewN nq).cell? ⟨bq0, o0 + m, none⟩ = some (.int .i64 x) := x0
            have hb6 : bq0 < (w5.drewN nq).heap.size := hb0
            clear x0 hb0
            generalize w5.drewN nq = w6 at *
            obtain ⟨a0, a1, a2, a3, a4, a5⟩ := K6.out.a.cells
            obtain ⟨b0, b1, b2, b3, b4, b5⟩ := K6.out.a.free
            obtain ⟨t0, t1⟩ := T6.out.cells
            obtain ⟨r0, r1, r2, r3, r4, r5⟩ := K6.out.r.cells
            obtain ⟨s0, s1, s2, s3, s4, s5⟩ := K6.out.r.free
            have hl1 := K6.out.a.lt
            have hl2 := K6.out.r.lt
            have hl3 := T6.out.lt
            go_upto_region 12 with fail
            have HE := hid (rencode_any ⟨T.next, T.list.take m⟩ (.slice (some ⟨bq0, o0, none⟩) m cap) w6.drew (by
              have h1 := (L6.out.on (Below.refl w6.heap.size w6).drew).at HLE.out
              exact Mem.LAt.take h1 hml2))
            have hen : encT ⟨T.next, T.list.take m⟩ = (pageT ⟨T.next, T.list.take m⟩, 0) := if_pos HOK2.out
            rw [hen] at HE
            unfold sV2 trV at HE
            simp only at HE
            have K6d := hid (K6.out.on (Below.refl w6.heap.size w6).drew)
            have T6d := hid (T6.out.on (Below.refl w6.heap.size w6).drew)
            have J0 := hid T6d.out.cells
            clear hen
            have hwm2 := HWM.out
            go_region_held3 (fun W => W.cell? ⟨tb, 0, none⟩ = some (.int .i64 T.next) ∧ W.cell? ⟨tb, 1, none⟩ = some (.slice (some ⟨bq0, o0, none⟩) len cap))
              (first | with_reducible exact J0.out | with_reducible exact J1.out)
              (first
                | go_at_call 10; refine HE.out.mono ?_; rintro e w7 ⟨rfl, hb7⟩; have K7 := hid (K6d.out.on hb7); have J1 := hid (T6d.out.on hb7).cells; clear hb7)
            have hRR := HR.out
            have HP := hid (rt_bput K7.out hRR hd.trunk (pageT ⟨T.next, T.list.take m⟩) (by omega))
            clear hRR a0 a1 a2 a3 a4 a5 b1 b2 b3 b4 b5 t0 t1 r0 r1 r2 r3 r4 r5 s0 s1 s2 s3 s4 s5 hl1 hl2 hl3
            obtain ⟨a0, a1, a2, a3, a4, a5⟩ := K7.out.a.cells
            have hl1 := K7.out.a.lt
            go_wp2_with fail
            refine HP.out.mono ?_
            rintro e w8 ⟨rfl, hp8⟩
            have K8 := hid hp8
            have K9 := hid (hp8.spare (hd.spare - 1))
            clear hp8 a0 a1 a2 a3 a4 a5 hl1
            obtain ⟨a0, a1, a2, a3, a4, a5⟩ := K8.out.a.cells
            obtain ⟨f0, f1, f2, f3, f4, f5⟩ := K8.out.a.free
            have hl1 := K8.out.a.lt
            go_upto_region 18 with fail
            clear a0 a1 a2 a3 a4 a5 f0 f1 f2 f3 f4 f5 hl1
            generalize w8.setCell ⟨w.heap.size, 3, none⟩ (.int .i64 (hd.spare - 1)) = w9 at *
            have KF := hid (K9.out.put { hd with spare := hd.spare - 1 })
            obtain ⟨a0, a1, a2, a3, a4, a5⟩ := K9.out.a.cells
            obtain ⟨r0, r1, r2, r3, r4, r5⟩ := K9.out.r.cells
            obtain ⟨s0, s1, s2, s3, s4, s5⟩ := K9.out.r.free
            have hl1 := K9.out.a.lt
            have hl2 := K9.out.r.lt
            go_region
            go_wp2
            obtain ⟨x0, x1, x2, x3, x4, x5⟩ := KF.out.r.cells
            have KO := hid (And.intro (KF.out.out.1.on (Below.refl _ _).drew) KF.out.out.2.drew)
            refine @bodyPost_ret Try.prog Try.f18 (fun e w' => e = .returned (takeV (x, { hd with spare := hd.spare - 1 }, 0)) ∧ BookR R w' bk (putB B hd.trunk (pageT ⟨T.next, T.list.take m⟩)) ∧ Chg R w w') _ _ (takeV (x, { hd with spare := hd.spare - 1 }, 0)) ?_ ?_ ?_
            · simp [results, takeV, hV, go_sem, x0, x1, x2, x3, x4, x5]
            · rfl
            · exact ⟨rfl, KO.out⟩
    · have h1' : (e1 != 0) = true := by simpa using h1
      have hy := HK.out
      rw [if_pos (Or.inl h1)] at hy
      subst hy
      clear HK h1
      go_wp2_with fail
      go_quiet (fail)
      rename_i nq
      have hbq := below_drewN (Below.refl w5.heap.size w5) nq
      have K6 := hid (K5.out.on hbq)
      have T6 := hid (T5.out.on hbq)
      have L6 := hid (L5.out.on hbq)
      clear hbq a0 a1 a2 a3 a4 a5 t0 t1 hl1 hl3 K5 T5 L5
      generalize w5.drewN nq = w6 at *
      obtain ⟨a0, a1, a2, a3, a4, a5⟩ := K6.out.a.cells
      obtain ⟨b0, b1, b2, b3, b4, b5⟩ := K6.out.a.free
      obtain ⟨t0, t1⟩ := T6.out.cells
      obtain ⟨r0, r1, r2, r3, r4, r5⟩ := K6.out.r.cells
      obtain ⟨s0, s1, s2, s3, s4, s5⟩ := K6.out.r.free
      have hl1 := K6.out.a.lt
      have hl2 := K6.out.r.lt
      have hl3 := T6.out.lt

      have KF : Hid (RT (fun k => R k ∧ k < w.heap.size) w bk B hd hd0 (put6z w6 (w.heap.size + 1))) := hid (K6.out.put hd0)
      go_wp2
      obtain ⟨x0, x1, x2, x3, x4, x5⟩ := KF.out.r.zeros
      refine @bodyPost_ret Try.prog Try.f18 (fun e w' => e = .returned (takeV (0, hd0, 30)) ∧ BookR R w' bk B ∧ Chg R w w') _ _ (takeV (0, hd0, 30)) ?_ ?_ ?_
      · simp [results, takeV, hV, hd0, go_sem, x0, x1, x2, x3, x4, x5]
      · rfl
      · exact ⟨rfl, KF.out.out⟩
end Sp
end Go.Proofs.Ytkoglikaaehhjaa
