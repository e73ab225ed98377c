/-
  Contracts of the reference's Same and of the statements' own great.
-/
import Derived.Test.YtiellodbkanciaaGreatDoorNodeOk
import Derived.Test.YtiellodbkanciaaGreatDoorNodeFrame
import Derived.Test.YtiellodbkanciaaGreatDoorNodeGst
namespace Go.Proofs.YtiellodbkanciaaGreatDoor
open Go.RowKit
namespace No
open Num (hid)
/-- Two boxed nodes. -/
structure Tb (w : World) (f1 f2 : Bool) (k1 c1 p1 k2 c2 p2 : Value) (n m : N) (wr : World) : Prop where
  b1 : Nb w.heap.size f1 k1 c1 p1 wr
  b2 : Nb (w.heap.size + 1) f2 k2 c2 p2 wr
  be : Below w.heap.size w wr
  n1 : NAt wr k1 c1 p1 n
  n2 : NAt wr k2 c2 p2 m
abbrev bxO (f : Bool) (k c p : Value) : Obj := .cells #[.bool f, k, c, p] tN
theorem Tb.new {w : World} {f1 f2 : Bool} {k1 c1 p1 k2 c2 p2 : Value} {n m : N} (h1 : NAt w k1 c1 p1 n) (h2 : NAt w k2 c2 p2 m) : Tb w f1 f2 k1 c1 p1 k2 c2 p2 n m ((w.alloc (bxO f1 k1 c1 p1)).alloc (bxO f2 k2 c2 p2)) := by
  have b : Below w.heap.size w ((w.alloc (bxO f1 k1 c1 p1)).alloc (bxO f2 k2 c2 p2)) := ((Below.refl w.heap.size w).alloc (Nat.le_refl _) _).alloc (by simp) _
  have e : (w.alloc (bxO f1 k1 c1 p1)).heap.size = w.heap.size + 1 := by simp
  have b2 := Nb.new f2 k2 c2 p2 (w.alloc (bxO f1 k1 c1 p1))
  rw [e] at b2
  exact ⟨(Nb.new f1 k1 c1 p1 w).on ((Below.refl _ _).alloc (Nat.le_refl _) _), b2, b, h1.on b, h2.on b⟩
theorem Tb.on {w wr w' : World} {f1 f2 : Bool} {k1 c1 p1 k2 c2 p2 : Value} {n m : N} (h : Tb w f1 f2 k1 c1 p1 k2 c2 p2 n m wr) (b : Below wr.heap.size wr w') : Tb w f1 f2 k1 c1 p1 k2 c2 p2 n m w' := ⟨h.b1.on b, h.b2.on b, h.be.trans (b.mono h.be.size), h.n1.on b, h.n2.on b⟩
set_option maxRecDepth 100000 in
set_option maxHeartbeats 8000000 in
/-- Same of a node and the same node: it answers true. -/
theorem same_yes (k1 c1 p1 k2 c2 p2 : Value) (n : N) (l1 : n.ks.length ≤ 1000000) (l2 : n.cs.length ≤ 1000000) (l3 : n.ps.length ≤ 1000000) (w : World) (h1 : NAt w k1 c1 p1 n) (h2 : NAt w k2 c2 p2 n) :
    Calls Tryz.prog 22 #[nV n.f k1 c1 p1, nV n.f k2 c2 p2] w fun e w' => e = .returned (.bool true) ∧ Below w.heap.size w w' := by
  obtain ⟨ao1, cap1, rfl, -, -, -⟩ := SAt.ways1 h1.k
  obtain ⟨ao2, cap2, rfl, -, -, -⟩ := CAt.ways3 h1.c
  obtain ⟨ao3, cap3, rfl, -, -, -⟩ := IAt.ways1 h1.p
  obtain ⟨ao4, cap4, rfl, -, -, -⟩ := SAt.ways1 h2.k
  obtain ⟨ao5, cap5, rfl, -, -, -⟩ := CAt.ways3 h2.c
  obtain ⟨ao6, cap6, rfl, -, -, -⟩ := IAt.ways1 h2.p
  have T0 := hid (Tb.new (f1 := n.f) (f2 := n.f) h1 h2)
  clear h1 h2
  unfold nV
  obtain ⟨c0, c1, c2, c3⟩ := T0.out.b1.cells
  obtain ⟨d0, d1, d2, d3⟩ := T0.out.b2.cells
  go_enter Tryz.func22, Tryz.ntmps22
  go_wp2
  go_loopw [5] (fun i wr => ∃ k : Nat, k ≤ n.ks.length ∧ i = .int .i64 k ∧ Hid (Tb w n.f n.f (.slice ao1 n.ks.length cap1) (.slice ao2 n.cs.length cap2) (.slice ao3 n.ps.length cap3) (.slice ao4 n.ks.length cap4) (.slice ao5 n.cs.length cap5) (.slice ao6 n.ps.length cap6) n n wr)) (fun i _ => n.ks.length - (intOf i).toNat)
  case atStart => exact ⟨0, Nat.zero_le _, rfl, T0⟩
  case round =>
    obtain ⟨k, hk, rfl, T1⟩ := hrel
    clear c0 c1 c2 c3 d0 d1 d2 d3
    obtain ⟨c0, c1, c2, c3⟩ := T1.out.b1.cells
    obtain ⟨d0, d1, d2, d3⟩ := T1.out.b2.cells
    have lb1 := T1.out.b1.lt
    have lb2 := T1.out.b2.lt
    obtain ⟨_, _, e0, -, -, hat⟩ := SAt.ways1 T1.out.n1.k
    cases e0
    obtain ⟨_, _, e0, -, -, hat'⟩ := SAt.ways1 T1.out.n2.k
    cases e0
    by_cases hlt : k < n.ks.length
    · have hlt' : (k : Int) < n.ks.length := by omega
      obtain ⟨b, o, rfl, hbl, x0⟩ := hat k hlt
      obtain ⟨b', o', rfl, hbl', u0⟩ := hat' k hlt
      have y0 : ∀ wx, Below wr.heap.size wr wx → wx.cell? ⟨b, o + k, none⟩ = some (.string (bs n.ks[k])) := fun wx hx => (hx.cell (p := ⟨b, o + k, none⟩) hbl).trans x0
      have z0 : ∀ wx, Below wr.heap.size wr wx → wx.cell? ⟨b', o' + k, none⟩ = some (.string (bs n.ks[k])) := fun wx hx => (hx.cell (p := ⟨b', o' + k, none⟩) hbl').trans u0
      have hC := fun wx (hx : Below wr.heap.size wr wx) => (hx.cell (p := ⟨w.heap.size, 1, none⟩) lb1).trans c1
      have hD := fun wx (hx : Below wr.heap.size wr wx) => (hx.cell (p := ⟨w.heap.size + 1, 1, none⟩) lb2).trans d1
      clear x0 u0 hat hat'
      generalize n.ks[k] = p at *
      go_wp2_with fail
      refine wp_quiet_in (fun wx => Below wr.heap.size wr wx) (by kernel_rfl) (by kernel_rfl) (Below.refl _ _).drew ?_
      go_big_quiet_want
      go_big_quiet_op
      refine ⟨.pointer (some ⟨w.heap.size, 1, none⟩), fun wx hx => ?_, ?_⟩
      · simp [go_sem]
      go_big_quiet_on
      go_big_quiet_want
      go_big_quiet_op
      refine ⟨.slice (some ⟨b, o, none⟩) n.ks.length cap1, fun wx hx => ?_, ?_⟩
      · simp [go_sem, hC wx hx]
      go_big_quiet_on
      go_big_quiet_want
      go_big_quiet_op
      go_big_quiet_on
      go_big_quiet_want
      go_big_quiet_op
      refine ⟨.pointer (some ⟨b, o + k, none⟩), fun wx hx => ?_, ?_⟩
      · simp [go_sem] <;> omega
      go_big_quiet_on
      go_big_quiet_want
      go_big_quiet_op
      refine ⟨.string (bs p), fun wx hx => ?_, ?_⟩
      · simp [go_sem, y0 wx hx]
      go_big_quiet_on
      go_big_quiet_want
      go_big_quiet_op
      refine ⟨.pointer (some ⟨w.heap.size + 1, 1, none⟩), fun wx hx => ?_, ?_⟩
      · simp [go_sem]
      go_big_quiet_on
      go_big_quiet_want
      go_big_quiet_op
      refine ⟨.slice (some ⟨b', o', none⟩) n.ks.length cap4, fun wx hx => ?_, ?_⟩
      · simp [go_sem, hD wx hx]
      go_big_quiet_on
      go_big_quiet_want
      go_big_quiet_op
      go_big_quiet_on
      go_big_quiet_want
      go_big_quiet_op
      refine ⟨.pointer (some ⟨b', o' + k, none⟩), fun wx hx => ?_, ?_⟩
      · simp [go_sem] <;> omega
      go_big_quiet_on
      go_big_quiet_want
      go_big_quiet_op
      refine ⟨.string (bs p), fun wx hx => ?_, ?_⟩
      · simp [go_sem, z0 wx hx]
      go_big_quiet_on
      go_big_quiet_want
      go_big_quiet_op
      refine ⟨.bool false, fun wx hx => ?_, ?_⟩
      · simp [go_sem]
      go_big_quiet_on
      refine wpQuiet_nil ?_
      intro w5 hb5
      have TX := hid (T1.out.on hb5)
      clear hb5 hC hD y0 z0
      go_wp2
      go_roundw
      case rel => exact ⟨k + 1, by omega, by go_num, TX⟩
      case measure => simp [intOf]; omega
    · have hlt' : ¬ (k : Int) < n.ks.length := by omega
      clear hat hat' hlt
      obtain ⟨w5, hw5⟩ : ∃ x, x = wr := ⟨_, rfl⟩
      subst hw5
      go_wp2
      go_loopw [6] (fun i wr => ∃ k : Nat, k ≤ n.cs.length ∧ i = .int .i64 k ∧ Hid (Tb w n.f n.f (.slice ao1 n.ks.length cap1) (.slice ao2 n.cs.length cap2) (.slice ao3 n.ps.length cap3) (.slice ao4 n.ks.length cap4) (.slice ao5 n.cs.length cap5) (.slice ao6 n.ps.length cap6) n n wr)) (fun i _ => n.cs.length - (intOf i).toNat)
      case atStart => exact ⟨0, Nat.zero_le _, rfl, T1⟩
      case round =>
        obtain ⟨k, hk, rfl, T2⟩ := hrel
        clear c0 c1 c2 c3 d0 d1 d2 d3
        obtain ⟨c0, c1, c2, c3⟩ := T2.out.b1.cells
        obtain ⟨d0, d1, d2, d3⟩ := T2.out.b2.cells
        have lb1 := T2.out.b1.lt
        have lb2 := T2.out.b2.lt
        obtain ⟨_, _, e0, -, -, hat⟩ := CAt.ways3 T2.out.n1.c
        cases e0
        obtain ⟨_, _, e0, -, -, hat'⟩ := CAt.ways3 T2.out.n2.c
        cases e0
        by_cases hlt : k < n.cs.length
        · have hlt' : (k : Int) < n.cs.length := by omega
          obtain ⟨b, o, rfl, hbl, x0, x1, x2⟩ := hat k hlt
          obtain ⟨b', o', rfl, hbl', u0, u1, u2⟩ := hat' k hlt
          have y0 : ∀ wx, Below wr.heap.size wr wx → wx.cell? ⟨b, o + k * 3, none⟩ = some (.int .i64 n.cs[k].z) := fun wx hx => (hx.cell (p := ⟨b, o + k * 3, none⟩) hbl).trans x0
          have y1 : ∀ wx, Below wr.heap.size wr wx → wx.cell? ⟨b, o + k * 3 + 1, none⟩ = some (.string (bs n.cs[k].d)) := fun wx hx => (hx.cell (p := ⟨b, o + k * 3 + 1, none⟩) hbl).trans x1
          have y2 : ∀ wx, Below wr.heap.size wr wx → wx.cell? ⟨b, o + k * 3 + 2, none⟩ = some (.int .i64 n.cs[k].p) := fun wx hx => (hx.cell (p := ⟨b, o + k * 3 + 2, none⟩) hbl).trans x2
          have z0 : ∀ wx, Below wr.heap.size wr wx → wx.cell? ⟨b', o' + k * 3, none⟩ = some (.int .i64 n.cs[k].z) := fun wx hx => (hx.cell (p := ⟨b', o' + k * 3, none⟩) hbl').trans u0
          have z1 : ∀ wx, Below wr.heap.size wr wx → wx.cell? ⟨b', o' + k * 3 + 1, none⟩ = some (.string (bs n.cs[k].d)) := fun wx hx => (hx.cell (p := ⟨b', o' + k * 3 + 1, none⟩) hbl').trans u1
          have z2 : ∀ wx, Below wr.heap.size wr wx → wx.cell? ⟨b', o' + k * 3 + 2, none⟩ = some (.int .i64 n.cs[k].p) := fun wx hx => (hx.cell (p := ⟨b', o' + k * 3 + 2, none⟩) hbl').trans u2
          have hC := fun wx (hx : Below wr.heap.size wr wx) => (hx.cell (p := ⟨w.heap.size, 2, none⟩) lb1).trans c2
          have hD := fun wx (hx : Below wr.heap.size wr wx) => (hx.cell (p := ⟨w.heap.size + 1, 2, none⟩) lb2).trans d2
          clear x0 u0 x1 u1 x2 u2 hat hat'
          generalize n.cs[k] = p at *
          go_wp2_with fail
          refine wp_quiet_in (fun wx => Below wr.heap.size wr wx) (by kernel_rfl) (by kernel_rfl) (Below.refl _ _).drew ?_
          go_big_quiet_want
          go_big_quiet_op
          refine ⟨.pointer (some ⟨w.heap.size, 2, none⟩), fun wx hx => ?_, ?_⟩
          · simp [go_sem]
          go_big_quiet_on
          go_big_quiet_want
          go_big_quiet_op
          refine ⟨.slice (some ⟨b, o, none⟩) n.cs.length cap2, fun wx hx => ?_, ?_⟩
          · simp [go_sem, hC wx hx]
          go_big_quiet_on
          go_big_quiet_want
          go_big_quiet_op
          go_big_quiet_on
          go_big_quiet_want
          go_big_quiet_op
          refine ⟨.pointer (some ⟨b, o + k * 3, none⟩), fun wx hx => ?_, ?_⟩
          · simp [go_sem] <;> omega
          go_big_quiet_on
          go_big_quiet_want
          go_big_quiet_op
          refine ⟨.agg #[.int .i64 p.z, .string (bs p.d), .int .i64 p.p], fun wx hx => ?_, ?_⟩
          · simp [go_sem, y0 wx hx, y1 wx hx, y2 wx hx]
          go_big_quiet_on
          go_big_quiet_want
          go_big_quiet_op
          refine ⟨.pointer (some ⟨w.heap.size + 1, 2, none⟩), fun wx hx => ?_, ?_⟩
          · simp [go_sem]
          go_big_quiet_on
          go_big_quiet_want
          go_big_quiet_op
          refine ⟨.slice (some ⟨b', o', none⟩) n.cs.length cap5, fun wx hx => ?_, ?_⟩
          · simp [go_sem, hD wx hx]
          go_big_quiet_on
          go_big_quiet_want
          go_big_quiet_op
          go_big_quiet_on
          go_big_quiet_want
          go_big_quiet_op
          refine ⟨.pointer (some ⟨b', o' + k * 3, none⟩), fun wx hx => ?_, ?_⟩
          · simp [go_sem] <;> omega
          go_big_quiet_on
          go_big_quiet_want
          go_big_quiet_op
          refine ⟨.agg #[.int .i64 p.z, .string (bs p.d), .int .i64 p.p], fun wx hx => ?_, ?_⟩
          · simp [go_sem, z0 wx hx, z1 wx hx, z2 wx hx]
          go_big_quiet_on
          go_big_quiet_want
          go_big_quiet_op
          refine ⟨.bool false, fun wx hx => ?_, ?_⟩
          · simp [go_sem]
          go_big_quiet_on
          refine wpQuiet_nil ?_
          intro w5 hb5
          have TX := hid (T2.out.on hb5)
          clear hb5 hC hD y0 z0 y1 z1 y2 z2
          go_wp2
          go_roundw
          case rel => exact ⟨k + 1, by omega, by go_num, TX⟩
          case measure => simp [intOf]; omega
        · have hlt' : ¬ (k : Int) < n.cs.length := by omega
          clear hat hat' hlt
          obtain ⟨w6, hw6⟩ : ∃ x, x = wr := ⟨_, rfl⟩
          subst hw6
          go_wp2
          go_loopw [7] (fun i wr => ∃ k : Nat, k ≤ n.ps.length ∧ i = .int .i64 k ∧ Hid (Tb w n.f n.f (.slice ao1 n.ks.length cap1) (.slice ao2 n.cs.length cap2) (.slice ao3 n.ps.length cap3) (.slice ao4 n.ks.length cap4) (.slice ao5 n.cs.length cap5) (.slice ao6 n.ps.length cap6) n n wr)) (fun i _ => n.ps.length - (intOf i).toNat)
          case atStart => exact ⟨0, Nat.zero_le _, rfl, T2⟩
          case round =>
            obtain ⟨k, hk, rfl, T3⟩ := hrel
            clear c0 c1 c2 c3 d0 d1 d2 d3
            obtain ⟨c0, c1, c2, c3⟩ := T3.out.b1.cells
            obtain ⟨d0, d1, d2, d3⟩ := T3.out.b2.cells
            have lb1 := T3.out.b1.lt
            have lb2 := T3.out.b2.lt
            obtain ⟨_, _, e0, -, -, hat⟩ := IAt.ways1 T3.out.n1.p
            cases e0
            obtain ⟨_, _, e0, -, -, hat'⟩ := IAt.ways1 T3.out.n2.p
            cases e0
            by_cases hlt : k < n.ps.length
            · have hlt' : (k : Int) < n.ps.length := by omega
              obtain ⟨b, o, rfl, hbl, x0⟩ := hat k hlt
              obtain ⟨b', o', rfl, hbl', u0⟩ := hat' k hlt
              have y0 : ∀ wx, Below wr.heap.size wr wx → wx.cell? ⟨b, o + k, none⟩ = some (.int .i64 n.ps[k]) := fun wx hx => (hx.cell (p := ⟨b, o + k, none⟩) hbl).trans x0
              have z0 : ∀ wx, Below wr.heap.size wr wx → wx.cell? ⟨b', o' + k, none⟩ = some (.int .i64 n.ps[k]) := fun wx hx => (hx.cell (p := ⟨b', o' + k, none⟩) hbl').trans u0
              have hC := fun wx (hx : Below wr.heap.size wr wx) => (hx.cell (p := ⟨w.heap.size, 3, none⟩) lb1).trans c3
              have hD := fun wx (hx : Below wr.heap.size wr wx) => (hx.cell (p := ⟨w.heap.size + 1, 3, none⟩) lb2).trans d3
              clear x0 u0 hat hat'
              generalize n.ps[k] = p at *
              go_wp2_with fail
              refine wp_quiet_in (fun wx => Below wr.heap.size wr wx) (by kernel_rfl) (by kernel_rfl) (Below.refl _ _).drew ?_
              go_big_quiet_want
              go_big_quiet_op
              refine ⟨.pointer (some ⟨w.heap.size, 3, none⟩), fun wx hx => ?_, ?_⟩
              · simp [go_sem]
              go_big_quiet_on
              go_big_quiet_want
              go_big_quiet_op
              refine ⟨.slice (some ⟨b, o, none⟩) n.ps.length cap3, fun wx hx => ?_, ?_⟩
              · simp [go_sem, hC wx hx]
              go_big_quiet_on
              go_big_quiet_want
              go_big_quiet_op
              go_big_quiet_on
              go_big_quiet_want
              go_big_quiet_op
              refine ⟨.pointer (some ⟨b, o + k, none⟩), fun wx hx => ?_, ?_⟩
              · simp [go_sem] <;> omega
              go_big_quiet_on
              go_big_quiet_want
              go_big_quiet_op
              refine ⟨.int .i64 p, fun wx hx => ?_, ?_⟩
              · simp [go_sem, y0 wx hx]
              go_big_quiet_on
              go_big_quiet_want
              go_big_quiet_op
              refine ⟨.pointer (some ⟨w.heap.size + 1, 3, none⟩), fun wx hx => ?_, ?_⟩
              · simp [go_sem]
              go_big_quiet_on
              go_big_quiet_want
              go_big_quiet_op
              refine ⟨.slice (some ⟨b', o', none⟩) n.ps.length cap6, fun wx hx => ?_, ?_⟩
              · simp [go_sem, hD wx hx]
              go_big_quiet_on
              go_big_quiet_want
              go_big_quiet_op
              go_big_quiet_on
              go_big_quiet_want
              go_big_quiet_op
              refine ⟨.pointer (some ⟨b', o' + k, none⟩), fun wx hx => ?_, ?_⟩
              · simp [go_sem] <;> omega
              go_big_quiet_on
              go_big_quiet_want
              go_big_quiet_op
              refine ⟨.int .i64 p, fun wx hx => ?_, ?_⟩
              · simp [go_sem, z0 wx hx]
              go_big_quiet_on
              go_big_quiet_want
              go_big_quiet_op
              refine ⟨.bool false, fun wx hx => ?_, ?_⟩
              · simp [go_sem]
              go_big_quiet_on
              refine wpQuiet_nil ?_
              intro w5 hb5
              have TX := hid (T3.out.on hb5)
              clear hb5 hC hD y0 z0
              go_wp2
              go_roundw
              case rel => exact ⟨k + 1, by omega, by go_num, TX⟩
              case measure => simp [intOf]; omega
            · have hlt' : ¬ (k : Int) < n.ps.length := by omega
              clear hat hat' hlt
              go_wp2
              go_ret
              exact ⟨rfl, T3.out.be⟩
/-! ### great -/
def GreatGives (n : N) (w w' : World) (e : Ending) : Prop := (∃ x : Bool, e = .returned (.bool x) ∧ (x = false → n.ks.length ≤ 300 ∧ n.cs.length ≤ 300 ∧ n.ps.length ≤ 300)) ∧ Below w.heap.size w w'
theorem great_is {n : N} {w w' : World} (x : Bool) (h : x = false → n.ks.length ≤ 300 ∧ n.cs.length ≤ 300 ∧ n.ps.length ≤ 300) (hb : Below w.heap.size w w') : GreatGives n w w' (.returned (.bool x)) := ⟨⟨x, rfl, h⟩, hb⟩
set_option maxRecDepth 100000 in
set_option maxHeartbeats 4000000 in
theorem great_any (kv cv pv : Value) (n : N) (hw : Wide n) (w : World) (h : NAt w kv cv pv n) :
    Calls Tryz.prog 11 #[nV n.f kv cv pv] w fun e w' => GreatGives n w w' e := by
  have HW := hid hw
  have hA := h.k
  have hB := h.c
  have hC := h.p
  obtain ⟨ao, cap, rfl, -, -, -⟩ := SAt.ways1 hA
  obtain ⟨ao2, cap2, rfl, -, -, -⟩ := CAt.ways3 hB
  obtain ⟨ao3, cap3, rfl, -, -, -⟩ := IAt.ways1 hC
  have G0 := hid (Gst.new (f := n.f) h)
  have B1 := hid G0.out.be
  obtain ⟨c0, c1, c2, c3⟩ := G0.out.bx.cells
  clear h hA hB hC hw
  unfold nV
  by_cases g1 : n.ks.length ≤ 300
  · have g1' : ¬ (300 : Int) < n.ks.length := by omega
    by_cases g2 : n.cs.length ≤ 300
    · have g2' : ¬ (300 : Int) < n.cs.length := by omega
      by_cases g3 : n.ps.length ≤ 300
      · have g3' : ¬ (300 : Int) < n.ps.length := by omega
        go_enter Tryz.func11, Tryz.ntmps11
        go_wp2
        go_loopw [3, 4] (fun s i wr => ∃ k m : Nat, k ≤ n.ks.length ∧ i = .int .i64 k ∧ s = .int .i64 m ∧ Hid (m ≤ k * 281474976710656) ∧ Hid (Gst w n.f (.slice ao n.ks.length cap) (.slice ao2 n.cs.length cap2) (.slice ao3 n.ps.length cap3) n wr)) (fun _ i _ => n.ks.length - (intOf i).toNat)
        case atStart => exact ⟨0, 0, Nat.zero_le _, rfl, rfl, hid (by omega), G0⟩
        case round =>
          obtain ⟨k, m, hk, rfl, rfl, hm, HG⟩ := hrel
          clear c0 c1 c2 c3
          obtain ⟨c0, c1, c2, c3⟩ := HG.out.bx.cells
          by_cases hlk : k < n.ks.length
          · have hlk' : (k : Int) < n.ks.length := by omega
            obtain ⟨_, _, e0, -, -, hat⟩ := SAt.ways1 HG.out.na.k
            cases e0
            obtain ⟨b, o, rfl, hbl, y0⟩ := hat k hlk
            clear hat
            have hs := HW.out.k n.ks[k] (List.getElem_mem hlk)
            have hz := bs_size n.ks[k]
            generalize n.ks[k] = key at *
            have hov : m ≤ 84442493013196800 := by have := hm.out; omega
            go_wp2
            go_roundw
            case rel => exact ⟨k + 1, m + (bs key).size, by omega, by go_num, by go_num, hid (by have := hm.out; omega), HG⟩
            case measure => simp [intOf]; omega
          · have hlk' : ¬ (k : Int) < n.ks.length := by omega
            go_wp2
            go_loopw [3, 5] (fun s i wr => ∃ k m : Nat, k ≤ n.cs.length ∧ i = .int .i64 k ∧ s = .int .i64 m ∧ Hid (m ≤ (300 + k) * 281474976710656) ∧ Hid (Gst w n.f (.slice ao n.ks.length cap) (.slice ao2 n.cs.length cap2) (.slice ao3 n.ps.length cap3) n wr)) (fun _ i _ => n.cs.length - (intOf i).toNat)
            case atStart => exact ⟨0, m, Nat.zero_le _, rfl, rfl, hid (Nat.le_trans hm.out (Nat.mul_le_mul_right _ (by omega))), HG⟩
            case round =>
              clear HG c0 c1 c2 c3
              obtain ⟨q, t, hq, rfl, rfl, ht, HG⟩ := hrel
              obtain ⟨c0, c1, c2, c3⟩ := HG.out.bx.cells
              by_cases hlq : q < n.cs.length
              · have hlq' : (q : Int) < n.cs.length := by omega
                obtain ⟨_, _, e0, -, -, hat⟩ := CAt.ways3 HG.out.na.c
                cases e0
                obtain ⟨b, o, rfl, hbl, y0, y1, y2⟩ := hat q hlq
                clear hat
                have hs := HW.out.c n.cs[q] (List.getElem_mem hlq)
                have hz := bs_size n.cs[q].d
                generalize n.cs[q] = cell at *
                have hov : t ≤ 168884986026393600 := by have := ht.out; omega
                go_wp2
                go_roundw
                case rel => exact ⟨q + 1, t + (bs cell.d).size, by omega, by go_num, by go_num, hid (by have := ht.out; omega), HG⟩
                case measure => simp [intOf]; omega
              · have hlq' : ¬ (q : Int) < n.cs.length := by omega
                go_wp2
                all_goals
                  go_ret
                  exact great_is _ (fun _ => ⟨g1, g2, g3⟩) HG.out.be
      · have g3' : (300 : Int) < n.ps.length := by omega
        go_enter Tryz.func11, Tryz.ntmps11
        go_wp2
        all_goals
          go_ret
          exact great_is true (fun e => by cases e) B1.out
    · have g2' : (300 : Int) < n.cs.length := by omega
      go_enter Tryz.func11, Tryz.ntmps11
      go_wp2
      all_goals
        go_ret
        exact great_is true (fun e => by cases e) B1.out
  · have g1' : (300 : Int) < n.ks.length := by omega
    go_enter Tryz.func11, Tryz.ntmps11
    go_wp2
    all_goals
      go_ret
      exact great_is true (fun e => by cases e) B1.out
end No
end Go.Proofs.YtiellodbkanciaaGreatDoor
