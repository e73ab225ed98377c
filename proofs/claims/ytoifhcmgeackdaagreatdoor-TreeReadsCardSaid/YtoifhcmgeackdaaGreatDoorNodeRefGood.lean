/-
  Contracts of the reference's Good and of what it calls.
-/
import Derived.Test.YtoifhcmgeackdaaGreatDoorGrpTrNoB
import Derived.Test.YtoifhcmgeackdaaGreatDoorGrpTrNoE
namespace Go.Proofs.YtoifhcmgeackdaaGreatDoor
open Go.RowKit
namespace No
open Num (hid)
theorem rpage_any (p : Int) (w : World) : Calls Tryz.prog 126 #[.int .i64 p] w fun e w' => e = .returned (.bool (okP p)) ∧ Below w.heap.size w w' := by
  have e : okP p = (decide (1 ≤ p) && decide (p < 4096)) := rfl
  rw [e]
  by_cases h1 : 1 ≤ p
  · rw [decide_eq_true h1]
    by_cases h2 : p ≤ 4095
    · rw [decide_eq_true (by omega : p < 4096)]
      clear e
      go_enter Tryz.func126, Tryz.ntmps126
      go_wp2
      go_ret
      exact ⟨rfl, Below.refl _ _⟩
    · rw [decide_eq_false (by omega : ¬ p < 4096)]
      clear e
      go_enter Tryz.func126, Tryz.ntmps126
      go_wp2
      go_ret
      exact ⟨rfl, Below.refl _ _⟩
  · rw [decide_eq_false h1]
    clear e
    go_enter Tryz.func126, Tryz.ntmps126
    go_wp2
    go_ret
    exact ⟨rfl, Below.refl _ _⟩
set_option maxRecDepth 100000 in
set_option maxHeartbeats 1000000 in
theorem rcell_any (c : C) (w : World) : Calls Tryz.prog 125 #[.agg #[.int .i64 c.z, .string (bs c.d), .int .i64 c.p]] w fun e w' => e = .returned (.bool (okC c)) ∧ Below w.heap.size w w' := by
  obtain ⟨z, d, p⟩ := c
  have hz := bs_size d
  have B1 := hid ((Below.refl w.heap.size w).alloc (Nat.le_refl _) (.cells #[.int .i64 z, .string (bs d), .int .i64 p] tC))
  have HP := hid (rpage_any p)
  unfold okC
  simp only
  by_cases h0 : z < 0
  · have h0' : ¬ 0 ≤ z := by omega
    rw [decide_eq_false h0']
    clear h0' hz
    go_enter Tryz.func125, Tryz.ntmps125
    go_wp2
    go_ret
    exact ⟨rfl, B1.out⟩
  · have h0' : 0 ≤ z := by omega
    rw [decide_eq_true h0']
    by_cases h5 : 5000 < z
    · rw [decide_eq_false (by omega : ¬ z ≤ 5000)]
      clear h0' hz
      go_enter Tryz.func125, Tryz.ntmps125
      go_wp2
      go_ret
      exact ⟨rfl, B1.out⟩
    · rw [decide_eq_true (by omega : z ≤ 5000)]
      by_cases h4 : z ≤ 40
      · rw [if_pos h4]
        by_cases hd : (d.length : Int) = z
        · rw [decide_eq_true hd]
          have hd' : (((bs d).size : Int) == z) = true := by rw [hz]; simpa using hd
          by_cases hp : p = 0
          · rw [decide_eq_true hp]
            have hp' : (p == 0) = true := by rw [hp]; rfl
            clear h0' hz hd hp
            go_enter Tryz.func125, Tryz.ntmps125
            go_wp2
            go_ret
            exact ⟨rfl, B1.out⟩
          · rw [decide_eq_false hp]
            have hp' : (p == 0) = false := by simpa using hp
            clear h0' hz hd hp
            go_enter Tryz.func125, Tryz.ntmps125
            go_wp2
            go_ret
            exact ⟨rfl, B1.out⟩
        · rw [decide_eq_false hd]
          have hd' : (((bs d).size : Int) == z) = false := by rw [hz]; simpa using hd
          clear h0' hz hd
          go_enter Tryz.func125, Tryz.ntmps125
          go_wp2
          go_ret
          exact ⟨rfl, B1.out⟩
      · rw [if_neg h4]
        have HX := bs_nil_iff d
        cases hq : decide (d = []) with
        | true =>
          rw [hq] at HX
          clear h0' hz hq
          go_enter Tryz.func125, Tryz.ntmps125
          go_wp2_with fail
          refine (HP.out _).mono ?_
          rintro e w3 ⟨rfl, hb⟩
          have B3 := hid (B1.out.trans (hb.mono B1.out.size))
          clear hb
          go_wp2
          go_ret
          exact ⟨rfl, B3.out⟩
        | false =>
          rw [hq] at HX
          clear h0' hz hq
          go_enter Tryz.func125, Tryz.ntmps125
          go_wp2
          go_ret
          exact ⟨rfl, B1.out⟩

/-! ### Good -/
theorem wrap_back (m : Nat) (h : m ≤ 1000000) : IntKind.i64.wrap (m : Int) = (m : Int) := by rw [IntKind.wrap_i64]; omega
theorem okN_rise' {n : N} (h2 : rise n.ks = false) : okN n = false := by unfold okN; rw [h2]; simp
theorem unlike_full {l : List Int} (h : ∀ i (hi : i < l.length) j (hj : j < i), l[j]'(by omega) ≠ l[i]) : unlike l = true := by
  rw [unlike_nodup]
  refine List.pairwise_iff_getElem.2 fun i j hi hj hij => h j hj i hij
theorem unlike_no {l : List Int} {i j : Nat} (hi : i < l.length) (hj : j < i) (h : l[j]'(by omega) = l[i]) : unlike l = false := by
  cases e : unlike l with
  | false => rfl
  | true =>
    rw [unlike_nodup] at e
    exact absurd h (List.pairwise_iff_getElem.1 e j i (by omega) hi hj)

set_option maxRecDepth 100000 in
set_option maxHeartbeats 8000000 in
theorem rgood_leaf (kv cv pv : Value) (n : N) (hf : n.f = true) (hk : n.ks.length ≤ 1000000) (hc : n.cs.length ≤ 1000000) (_hp : n.ps.length ≤ 1000000) (w : World) (h : NAt w kv cv pv n) :
    Calls Tryz.prog 89 #[nV true kv cv pv] w fun e w' => e = .returned (.bool (okN n)) ∧ Below w.heap.size w w' := by
  have hA := h.k
  have hB := h.c
  have hC := h.p
  obtain ⟨ao, cap, rfl, -, -, -⟩ := SAt.ways1 hA
  obtain ⟨ao2, cap2, rfl, -, -, -⟩ := CAt.ways3 hB
  obtain ⟨ao3, cap3, rfl, -, -, -⟩ := IAt.ways1 hC
  have S0 := hid (Gst.new (f := true) h)
  clear h hA hB hC
  unfold nV
  go_enter Tryz.func89, Tryz.ntmps89
  go_wp2
  go_loopw [3] (fun i wr => ∃ k : Nat, i = .int .i64 k ∧ k ≤ n.ks.length ∧ Hid (∀ j (hj : j < k) (hl : j < n.ks.length), short n.ks[j] = true) ∧ Hid (∀ j (hj : j + 1 < k) (hl : j + 1 < n.ks.length), less (n.ks[j]'(by omega)) n.ks[j + 1] = true) ∧ Hid (Gst w true (.slice ao n.ks.length cap) (.slice ao2 n.cs.length cap2) (.slice ao3 n.ps.length cap3) n wr)) (fun i _ => n.ks.length - (intOf i).toNat)
  case atStart => exact ⟨0, rfl, Nat.zero_le _, hid (fun j hj => absurd hj (Nat.not_lt_zero _)), hid (fun j hj => absurd hj (Nat.not_lt_zero _)), S0⟩
  case round =>
    obtain ⟨k, rfl, hkl, HS, HR, HG⟩ := hrel
    obtain ⟨c0, c1, c2, c3⟩ := HG.out.bx.cells
    obtain ⟨_, _, e0, -, -, hat⟩ := SAt.ways1 HG.out.na.k
    cases e0
    have hlb := HG.out.bx.lt
    by_cases hlt : k < n.ks.length
    · have hlt' : (k : Int) < n.ks.length := by omega
      obtain ⟨b, o, rfl, hbl, x1⟩ := hat k hlt
      have hC1 := fun wx (hx : Below wr.heap.size wr wx) => (hx.cell (p := ⟨w.heap.size, 1, none⟩) hlb).trans c1
      have hz := bs_size n.ks[k]
      by_cases h64 : n.ks[k].length ≤ 64
      · have h64' : ¬ (64 : Int) < ((bs n.ks[k]).size : Int) := by omega
        have HSh : Hid (short n.ks[k] = true) := hid (by unfold short; exact decide_eq_true h64)
        by_cases hk0 : 0 < k
        · obtain ⟨m, rfl⟩ : ∃ m, k = m + 1 := ⟨k - 1, by omega⟩
          obtain ⟨b', o', e', -, x0⟩ := hat m (by omega)
          cases e'
          clear hat
          have hY0 : ∀ wx, Below wr.heap.size wr wx → wx.cell? ⟨b, o + m, none⟩ = some (.string (bs (n.ks[m]'(by omega)))) := fun wx hx => (hx.cell (p := ⟨b, o + m, none⟩) hbl).trans x0
          have hY1 : ∀ wx, Below wr.heap.size wr wx → wx.cell? ⟨b, o + (m + 1), none⟩ = some (.string (bs n.ks[m + 1])) := fun wx hx => (hx.cell (p := ⟨b, o + (m + 1), none⟩) hbl).trans x1
          have hm2 : m ≤ 1000000 := by omega
          have hk0' : (0 : Int) < (((m + 1 : Nat)) : Int) := by omega
          have hm1 : (((m + 1 : Nat)) : Int) - 1 = (m : Int) := by omega
          cases hg : less n.ks[m] n.ks[m + 1] with
          | false =>
            have HS' := hid (okN_rise' (n := n) (rise_no hlt hg))
            have hx1 : Op.bytesLess (bs n.ks[m]).toList (bs n.ks[m + 1]).toList = false := by rw [bs_list, bs_list]; exact hg
            clear hg
            go_wp2_with fail
            refine wp_quiet_in (fun wx => Below wr.heap.size wr wx) (by kernel_rfl) (by kernel_rfl) (Below.refl _ _).drew ?_
            go_big_quiet_want
            go_big_quiet_op
            refine ⟨.pointer (some ⟨w.heap.size, 1, none⟩), fun wx hx => ?_, ?_⟩
            · simp [go_sem]
            go_big_quiet_on
            go_big_quiet_want
            go_big_quiet_op
            refine ⟨.slice (some ⟨b, o, none⟩) n.ks.length cap, fun wx hx => ?_, ?_⟩
            · simp [go_sem, hC1 wx hx]
            go_big_quiet_on
            go_big_quiet_want
            go_big_quiet_op
            go_big_quiet_on
            go_big_quiet_want
            go_big_quiet_op
            refine ⟨.pointer (some ⟨b, o + (m + 1), none⟩), fun wx hx => ?_, ?_⟩
            · simp [go_sem] <;> omega
            go_big_quiet_on
            go_big_quiet_want
            go_big_quiet_op
            refine ⟨.string (bs (n.ks[(m + 1)]'hlt)), fun wx hx => ?_, ?_⟩
            · simp [go_sem, hY1 wx hx]
            go_big_quiet_on
            go_big_quiet_want
            go_big_quiet_op
            refine ⟨.int .i64 (n.ks[(m + 1)]'hlt).length, fun wx hx => ?_, ?_⟩
            · simp [go_sem]
            go_big_quiet_on
            go_big_quiet_want
            go_big_quiet_op
            refine ⟨.bool false, fun wx hx => ?_, ?_⟩
            · simp [go_sem] <;> omega
            go_big_quiet_on
            go_big_quiet_want
            go_big_quiet_op
            go_big_quiet_on
            go_big_quiet_want
            go_big_quiet_op
            go_big_quiet_on
            go_big_quiet_want
            go_big_quiet_op
            refine ⟨.bool true, fun wx hx => ?_, ?_⟩
            · simp [go_sem] <;> omega
            go_big_quiet_on
            go_big_quiet_want
            go_big_quiet_op
            go_big_quiet_on
            go_big_quiet_want
            go_big_quiet_op
            refine ⟨.pointer (some ⟨w.heap.size, 1, none⟩), fun wx hx => ?_, ?_⟩
            · simp [go_sem]
            go_big_quiet_on
            go_big_quiet_want
            go_big_quiet_op
            refine ⟨.slice (some ⟨b, o, none⟩) n.ks.length cap, fun wx hx => ?_, ?_⟩
            · simp [go_sem, hC1 wx hx]
            go_big_quiet_on
            go_big_quiet_want
            go_big_quiet_op
            go_big_quiet_on
            go_big_quiet_want
            go_big_quiet_op
            refine ⟨.int .i64 (m : Int), fun wx hx => ?_, ?_⟩
            · simp [go_sem]
            go_big_quiet_on
            go_big_quiet_want
            go_big_quiet_op
            refine ⟨.pointer (some ⟨b, o + m, none⟩), fun wx hx => ?_, ?_⟩
            · simp [go_sem] <;> omega
            go_big_quiet_on
            go_big_quiet_want
            go_big_quiet_op
            refine ⟨.string (bs (n.ks[m]'(by omega))), fun wx hx => ?_, ?_⟩
            · simp [go_sem, hY0 wx hx]
            go_big_quiet_on
            go_big_quiet_want
            go_big_quiet_op
            refine ⟨.pointer (some ⟨w.heap.size, 1, none⟩), fun wx hx => ?_, ?_⟩
            · simp [go_sem]
            go_big_quiet_on
            go_big_quiet_want
            go_big_quiet_op
            refine ⟨.slice (some ⟨b, o, none⟩) n.ks.length cap, fun wx hx => ?_, ?_⟩
            · simp [go_sem, hC1 wx hx]
            go_big_quiet_on
            go_big_quiet_want
            go_big_quiet_op
            go_big_quiet_on
            go_big_quiet_want
            go_big_quiet_op
            refine ⟨.pointer (some ⟨b, o + (m + 1), none⟩), fun wx hx => ?_, ?_⟩
            · simp [go_sem] <;> omega
            go_big_quiet_on
            go_big_quiet_want
            go_big_quiet_op
            refine ⟨.string (bs (n.ks[(m + 1)]'hlt)), fun wx hx => ?_, ?_⟩
            · simp [go_sem, hY1 wx hx]
            go_big_quiet_on
            go_big_quiet_want
            go_big_quiet_op
            refine ⟨.bool true, fun wx hx => ?_, ?_⟩
            · simp [go_sem]
            go_big_quiet_on
            go_big_quiet_want
            go_big_quiet_op
            refine ⟨.bool true, fun wx hx => ?_, ?_⟩
            · simp [go_sem]
            go_big_quiet_on
            go_big_quiet_want
            go_big_quiet_op
            refine ⟨.bool true, fun wx hx => ?_, ?_⟩
            · simp [go_sem]
            go_big_quiet_on
            refine wpQuiet_nil ?_
            intro w5 hb5
            have HG5 := hid (HG.out.on hb5)
            clear hb5 hC1 hY1 hY0
            go_wp2
            go_ret
            exact ⟨by rw [HS'.out]; rfl, HG5.out.be⟩
          | true =>
            have HL1 := hid hg
            have hx1 : Op.bytesLess (bs n.ks[m]).toList (bs n.ks[m + 1]).toList = true := by rw [bs_list, bs_list]; exact hg
            clear hg
            go_wp2_with fail
            refine wp_quiet_in (fun wx => Below wr.heap.size wr wx) (by kernel_rfl) (by kernel_rfl) (Below.refl _ _).drew ?_
            go_big_quiet_want
            go_big_quiet_op
            refine ⟨.pointer (some ⟨w.heap.size, 1, none⟩), fun wx hx => ?_, ?_⟩
            · simp [go_sem]
            go_big_quiet_on
            go_big_quiet_want
            go_big_quiet_op
            refine ⟨.slice (some ⟨b, o, none⟩) n.ks.length cap, fun wx hx => ?_, ?_⟩
            · simp [go_sem, hC1 wx hx]
            go_big_quiet_on
            go_big_quiet_want
            go_big_quiet_op
            go_big_quiet_on
            go_big_quiet_want
            go_big_quiet_op
            refine ⟨.pointer (some ⟨b, o + (m + 1), none⟩), fun wx hx => ?_, ?_⟩
            · simp [go_sem] <;> omega
            go_big_quiet_on
            go_big_quiet_want
            go_big_quiet_op
            refine ⟨.string (bs (n.ks[(m + 1)]'hlt)), fun wx hx => ?_, ?_⟩
            · simp [go_sem, hY1 wx hx]
            go_big_quiet_on
            go_big_quiet_want
            go_big_quiet_op
            refine ⟨.int .i64 (n.ks[(m + 1)]'hlt).length, fun wx hx => ?_, ?_⟩
            · simp [go_sem]
            go_big_quiet_on
            go_big_quiet_want
            go_big_quiet_op
            refine ⟨.bool false, fun wx hx => ?_, ?_⟩
            · simp [go_sem] <;> omega
            go_big_quiet_on
            go_big_quiet_want
            go_big_quiet_op
            go_big_quiet_on
            go_big_quiet_want
            go_big_quiet_op
            go_big_quiet_on
            go_big_quiet_want
            go_big_quiet_op
            refine ⟨.bool true, fun wx hx => ?_, ?_⟩
            · simp [go_sem] <;> omega
            go_big_quiet_on
            go_big_quiet_want
            go_big_quiet_op
            go_big_quiet_on
            go_big_quiet_want
            go_big_quiet_op
            refine ⟨.pointer (some ⟨w.heap.size, 1, none⟩), fun wx hx => ?_, ?_⟩
            · simp [go_sem]
            go_big_quiet_on
            go_big_quiet_want
            go_big_quiet_op
            refine ⟨.slice (some ⟨b, o, none⟩) n.ks.length cap, fun wx hx => ?_, ?_⟩
            · simp [go_sem, hC1 wx hx]
            go_big_quiet_on
            go_big_quiet_want
            go_big_quiet_op
            go_big_quiet_on
            go_big_quiet_want
            go_big_quiet_op
            refine ⟨.int .i64 (m : Int), fun wx hx => ?_, ?_⟩
            · simp [go_sem]
            go_big_quiet_on
            go_big_quiet_want
            go_big_quiet_op
            refine ⟨.pointer (some ⟨b, o + m, none⟩), fun wx hx => ?_, ?_⟩
            · simp [go_sem] <;> omega
            go_big_quiet_on
            go_big_quiet_want
            go_big_quiet_op
            refine ⟨.string (bs (n.ks[m]'(by omega))), fun wx hx => ?_, ?_⟩
            · simp [go_sem, hY0 wx hx]
            go_big_quiet_on
            go_big_quiet_want
            go_big_quiet_op
            refine ⟨.pointer (some ⟨w.heap.size, 1, none⟩), fun wx hx => ?_, ?_⟩
            · simp [go_sem]
            go_big_quiet_on
            go_big_quiet_want
            go_big_quiet_op
            refine ⟨.slice (some ⟨b, o, none⟩) n.ks.length cap, fun wx hx => ?_, ?_⟩
            · simp [go_sem, hC1 wx hx]
            go_big_quiet_on
            go_big_quiet_want
            go_big_quiet_op
            go_big_quiet_on
            go_big_quiet_want
            go_big_quiet_op
            refine ⟨.pointer (some ⟨b, o + (m + 1), none⟩), fun wx hx => ?_, ?_⟩
            · simp [go_sem] <;> omega
            go_big_quiet_on
            go_big_quiet_want
            go_big_quiet_op
            refine ⟨.string (bs (n.ks[(m + 1)]'hlt)), fun wx hx => ?_, ?_⟩
            · simp [go_sem, hY1 wx hx]
            go_big_quiet_on
            go_big_quiet_want
            go_big_quiet_op
            refine ⟨.bool false, fun wx hx => ?_, ?_⟩
            · simp [go_sem]
            go_big_quiet_on
            go_big_quiet_want
            go_big_quiet_op
            refine ⟨.bool false, fun wx hx => ?_, ?_⟩
            · simp [go_sem]
            go_big_quiet_on
            go_big_quiet_want
            go_big_quiet_op
            refine ⟨.bool false, fun wx hx => ?_, ?_⟩
            · simp [go_sem]
            go_big_quiet_on
            refine wpQuiet_nil ?_
            intro w5 hb5
            have HG5 := hid (HG.out.on hb5)
            clear hb5 hC1 hY1 hY0
            go_wp2
            go_roundw
            case rel =>
              refine ⟨m + 1 + 1, by go_num, by omega, hid fun j hj hl => ?_, hid fun j hj hl => ?_, HG5⟩
              · by_cases hjk : j < m + 1
                · exact HS.out j hjk hl
                · obtain rfl : j = m + 1 := by omega
                  exact HSh.out
              · by_cases hjk : j + 1 < m + 1
                · exact HR.out j hjk hl
                · obtain rfl : j = m := by omega
                  exact HL1.out
            case measure => simp [intOf]; omega
        · obtain rfl : k = 0 := by omega
          clear hat
          have hY1 : ∀ wx, Below wr.heap.size wr wx → wx.cell? ⟨b, o, none⟩ = some (.string (bs n.ks[0])) := fun wx hx => (hx.cell (p := ⟨b, o, none⟩) hbl).trans x1
          go_wp2_with fail
          refine wp_quiet_in (fun wx => Below wr.heap.size wr wx) (by kernel_rfl) (by kernel_rfl) (Below.refl _ _).drew ?_
          go_big_quiet_want
          go_big_quiet_op
          refine ⟨.pointer (some ⟨w.heap.size, 1, none⟩), fun wx hx => ?_, ?_⟩
          · simp [go_sem]
          go_big_quiet_on
          go_big_quiet_want
          go_big_quiet_op
          refine ⟨.slice (some ⟨b, o, none⟩) n.ks.length cap, fun wx hx => ?_, ?_⟩
          · simp [go_sem, hC1 wx hx]
          go_big_quiet_on
          go_big_quiet_want
          go_big_quiet_op
          go_big_quiet_on
          go_big_quiet_want
          go_big_quiet_op
          refine ⟨.pointer (some ⟨b, o, none⟩), fun wx hx => ?_, ?_⟩
          · simp [go_sem] <;> omega
          go_big_quiet_on
          go_big_quiet_want
          go_big_quiet_op
          refine ⟨.string (bs (n.ks[0]'hlt)), fun wx hx => ?_, ?_⟩
          · simp [go_sem, hY1 wx hx]
          go_big_quiet_on
          go_big_quiet_want
          go_big_quiet_op
          refine ⟨.int .i64 (n.ks[0]'hlt).length, fun wx hx => ?_, ?_⟩
          · simp [go_sem]
          go_big_quiet_on
          go_big_quiet_want
          go_big_quiet_op
          refine ⟨.bool false, fun wx hx => ?_, ?_⟩
          · simp [go_sem] <;> omega
          go_big_quiet_on
          go_big_quiet_want
          go_big_quiet_op
          go_big_quiet_on
          go_big_quiet_want
          go_big_quiet_op
          go_big_quiet_on
          go_big_quiet_want
          go_big_quiet_op
          refine ⟨.bool false, fun wx hx => ?_, ?_⟩
          · simp [go_sem] <;> omega
          go_big_quiet_on
          go_big_quiet_want
          go_big_quiet_op
          go_big_quiet_on
          go_big_quiet_skip
          go_big_quiet_skip
          go_big_quiet_skip
          go_big_quiet_skip
          go_big_quiet_skip
          go_big_quiet_skip
          go_big_quiet_skip
          go_big_quiet_skip
          go_big_quiet_skip
          go_big_quiet_skip
          go_big_quiet_skip
          go_big_quiet_skip
          go_big_quiet_want
          go_big_quiet_op
          refine ⟨.bool false, fun wx hx => ?_, ?_⟩
          · simp [go_sem]
          go_big_quiet_on
          go_big_quiet_want
          go_big_quiet_op
          refine ⟨.bool false, fun wx hx => ?_, ?_⟩
          · simp [go_sem]
          go_big_quiet_on
          refine wpQuiet_nil ?_
          intro w5 hb5
          have HG5 := hid (HG.out.on hb5)
          clear hb5 hC1 hY1
          go_wp2
          go_roundw
          case rel =>
            refine ⟨0 + 1, by go_num, by omega, hid fun j hj hl => ?_, hid fun j hj hl => absurd hj (by omega), HG5⟩
            obtain rfl : j = 0 := by omega
            exact HSh.out
          case measure => simp [intOf]; omega
      · have h64' : (64 : Int) < ((bs n.ks[k]).size : Int) := by omega
        have HS' := hid (okN_long (n := n) (all_split hlt (by unfold short; exact decide_eq_false h64)))
        clear hat
        have hY1 : ∀ wx, Below wr.heap.size wr wx → wx.cell? ⟨b, o + k, none⟩ = some (.string (bs n.ks[k])) := fun wx hx => (hx.cell (p := ⟨b, o + k, none⟩) hbl).trans x1
        go_wp2_with fail
        refine wp_quiet_in (fun wx => Below wr.heap.size wr wx) (by kernel_rfl) (by kernel_rfl) (Below.refl _ _).drew ?_
        go_big_quiet_want
        go_big_quiet_op
        refine ⟨.pointer (some ⟨w.heap.size, 1, none⟩), fun wx hx => ?_, ?_⟩
        · simp [go_sem]
        go_big_quiet_on
        go_big_quiet_want
        go_big_quiet_op
        refine ⟨.slice (some ⟨b, o, none⟩) n.ks.length cap, fun wx hx => ?_, ?_⟩
        · simp [go_sem, hC1 wx hx]
        go_big_quiet_on
        go_big_quiet_want
        go_big_quiet_op
        go_big_quiet_on
        go_big_quiet_want
        go_big_quiet_op
        refine ⟨.pointer (some ⟨b, o + k, none⟩), fun wx hx => ?_, ?_⟩
        · simp [go_sem] <;> omega
        go_big_quiet_on
        go_big_quiet_want
        go_big_quiet_op
        refine ⟨.string (bs (n.ks[k]'hlt)), fun wx hx => ?_, ?_⟩
        · simp [go_sem, hY1 wx hx]
        go_big_quiet_on
        go_big_quiet_want
        go_big_quiet_op
        refine ⟨.int .i64 (n.ks[k]'hlt).length, fun wx hx => ?_, ?_⟩
        · simp [go_sem]
        go_big_quiet_on
        go_big_quiet_want
        go_big_quiet_op
        refine ⟨.bool true, fun wx hx => ?_, ?_⟩
        · simp [go_sem] <;> omega
        go_big_quiet_on
        go_big_quiet_want
        go_big_quiet_op
        go_big_quiet_on
        go_big_quiet_skip
        go_big_quiet_skip
        go_big_quiet_skip
        go_big_quiet_skip
        go_big_quiet_skip
        go_big_quiet_skip
        go_big_quiet_skip
        go_big_quiet_skip
        go_big_quiet_skip
        go_big_quiet_skip
        go_big_quiet_skip
        go_big_quiet_skip
        go_big_quiet_skip
        go_big_quiet_skip
        go_big_quiet_skip
        go_big_quiet_skip
        go_big_quiet_want
        go_big_quiet_op
        refine ⟨.bool true, fun wx hx => ?_, ?_⟩
        · simp [go_sem]
        go_big_quiet_on
        refine wpQuiet_nil ?_
        intro w5 hb5
        have HG5 := hid (HG.out.on hb5)
        clear hb5 hC1 hY1
        go_wp2
        go_ret
        exact ⟨by rw [HS'.out]; rfl, HG5.out.be⟩
    · have hlt' : ¬ (k : Int) < n.ks.length := by omega
      have hs : n.ks.all short = true := all_full (fun j hj => HS.out j (by omega) hj)
      have hr : rise n.ks = true := rise_full (fun j hj => HR.out j (by omega) hj)
      clear hat HS HR
      have HO := hid (okN_leaf hs hr hf)
      clear hs hr
      have HL : Hid (okL n = (decide (n.cs.length = n.ks.length) && (decide (n.ps.length = 0) && n.cs.all okC))) := hid rfl
      cases h1 : decide (n.cs.length = n.ks.length) with
      | false =>
        have q1 := nateq h1
        have HE : Hid (okN n = false) := hid (by rw [HO.out, HL.out, h1]; rfl)
        clear h1
        have q1' : ((n.cs.length : Int) != (n.ks.length : Int)) = true := by simp only [bne, q1]; rfl
        clear q1
        go_wp2
        all_goals
          go_ret
          exact ⟨by rw [HE.out]; rfl, HG.out.be⟩
      | true =>
        cases h2 : decide (n.ps.length = 0) with
        | false =>
          have q1 := nateq h1
          have q2 := nateq0 h2
          have HE : Hid (okN n = false) := hid (by rw [HO.out, HL.out, h1, h2]; rfl)
          have q1' : ((n.cs.length : Int) != (n.ks.length : Int)) = false := by simp only [bne, q1]; rfl
          have q2' : ((n.ps.length : Int) != 0) = true := by simp only [bne, q2]; rfl
          clear h1 h2 q1 q2
          go_wp2
          all_goals
            go_ret
            exact ⟨by rw [HE.out]; rfl, HG.out.be⟩
        | true =>
          have q1 := nateq h1
          have q2 := nateq0 h2
          have HE : Hid (okN n = n.cs.all okC) := hid (by rw [HO.out, HL.out, h1, h2]; rfl)
          have q1' : ((n.cs.length : Int) != (n.ks.length : Int)) = false := by simp only [bne, q1]; rfl
          have q2' : ((n.ps.length : Int) != 0) = false := by simp only [bne, q2]; rfl
          obtain ⟨w5, hw5⟩ : ∃ x, x = wr := ⟨_, rfl⟩
          subst hw5
          clear h1 h2 q1 q2 hlt' hkl
          go_wp2
          go_loopw [4] (fun i wr => ∃ k : Nat, i = .int .i64 k ∧ k ≤ n.cs.length ∧ Hid (∀ j (hj : j < k) (hl : j < n.cs.length), okC n.cs[j] = true) ∧ Hid (Gst w true (.slice ao n.ks.length cap) (.slice ao2 n.cs.length cap2) (.slice ao3 n.ps.length cap3) n wr)) (fun i _ => n.cs.length - (intOf i).toNat)
          case atStart => exact ⟨0, rfl, Nat.zero_le _, hid (fun j hj => absurd hj (Nat.not_lt_zero _)), HG⟩
          case round =>
            obtain ⟨m, rfl, hml, HS, HG⟩ := hrel
            clear c0 c1 c2 c3
            obtain ⟨c0, c1, c2, c3⟩ := HG.out.bx.cells
            obtain ⟨_, _, e0, -, -, hat⟩ := CAt.ways3 HG.out.na.c
            cases e0
            by_cases hlt : m < n.cs.length
            · have hlt' : (m : Int) < n.cs.length := by omega
              obtain ⟨b, o, rfl, hbl, x0, x1, x2⟩ := hat m hlt
              clear hat
              have HC := hid (rcell_any n.cs[m])
              cases hg : okC n.cs[m] with
              | false =>
                rw [hg] at HC
                have HN : Hid (okN n = false) := hid (by rw [HE.out]; exact all_split hlt hg)
                clear hg
                go_wp2_with fail
                refine (HC.out _).mono ?_
                rintro e w7 ⟨rfl, hb⟩
                have G7 := hid (HG.out.on hb)
                clear hb
                go_wp2
                go_ret
                exact ⟨by rw [HN.out]; rfl, G7.out.be⟩
              | true =>
                rw [hg] at HC
                have HN := hid hg
                clear hg
                go_wp2_with fail
                refine (HC.out _).mono ?_
                rintro e w7 ⟨rfl, hb⟩
                have G7 := hid (HG.out.on hb)
                clear hb
                go_wp2
                go_roundw
                case rel =>
                  refine ⟨m + 1, by go_num, by omega, hid fun j hj hl => ?_, G7⟩
                  by_cases hjk : j < m
                  · exact HS.out j hjk hl
                  · obtain rfl : j = m := by omega
                    exact HN.out
                case measure => simp [intOf]; omega
            · have hlt' : ¬ (m : Int) < n.cs.length := by omega
              have HN : Hid (okN n = true) := hid (by rw [HE.out]; exact all_full (fun j hj => HS.out j (by omega) hj))
              clear hat
              go_wp2
              go_ret
              exact ⟨by rw [HN.out]; rfl, HG.out.be⟩

set_option maxRecDepth 100000 in
set_option maxHeartbeats 8000000 in
theorem rgood_inner (kv cv pv : Value) (n : N) (hf : n.f = false) (hk : n.ks.length ≤ 1000000) (_hc : n.cs.length ≤ 1000000) (hp : n.ps.length ≤ 1000000) (w : World) (h : NAt w kv cv pv n) :
    Calls Tryz.prog 89 #[nV false kv cv pv] w fun e w' => e = .returned (.bool (okN n)) ∧ Below w.heap.size w w' := by
  have hA := h.k
  have hB := h.c
  have hC := h.p
  obtain ⟨ao, cap, rfl, -, -, -⟩ := SAt.ways1 hA
  obtain ⟨ao2, cap2, rfl, -, -, -⟩ := CAt.ways3 hB
  obtain ⟨ao3, cap3, rfl, -, -, -⟩ := IAt.ways1 hC
  have S0 := hid (Gst.new (f := false) h)
  clear h hA hB hC
  unfold nV
  go_enter Tryz.func89, Tryz.ntmps89
  go_wp2
  go_loopw [3] (fun i wr => ∃ k : Nat, i = .int .i64 k ∧ k ≤ n.ks.length ∧ Hid (∀ j (hj : j < k) (hl : j < n.ks.length), short n.ks[j] = true) ∧ Hid (∀ j (hj : j + 1 < k) (hl : j + 1 < n.ks.length), less (n.ks[j]'(by omega)) n.ks[j + 1] = true) ∧ Hid (Gst w false (.slice ao n.ks.length cap) (.slice ao2 n.cs.length cap2) (.slice ao3 n.ps.length cap3) n wr)) (fun i _ => n.ks.length - (intOf i).toNat)
  case atStart => exact ⟨0, rfl, Nat.zero_le _, hid (fun j hj => absurd hj (Nat.not_lt_zero _)), hid (fun j hj => absurd hj (Nat.not_lt_zero _)), S0⟩
  case round =>
    obtain ⟨k, rfl, hkl, HS, HR, HG⟩ := hrel
    obtain ⟨c0, c1, c2, c3⟩ := HG.out.bx.cells
    obtain ⟨_, _, e0, -, -, hat⟩ := SAt.ways1 HG.out.na.k
    cases e0
    have hlb := HG.out.bx.lt
    by_cases hlt : k < n.ks.length
    · have hlt' : (k : Int) < n.ks.length := by omega
      obtain ⟨b, o, rfl, hbl, x1⟩ := hat k hlt
      have hC1 := fun wx (hx : Below wr.heap.size wr wx) => (hx.cell (p := ⟨w.heap.size, 1, none⟩) hlb).trans c1
      have hz := bs_size n.ks[k]
      by_cases h64 : n.ks[k].length ≤ 64
      · have h64' : ¬ (64 : Int) < ((bs n.ks[k]).size : Int) := by omega
        have HSh : Hid (short n.ks[k] = true) := hid (by unfold short; exact decide_eq_true h64)
        by_cases hk0 : 0 < k
        · obtain ⟨m, rfl⟩ : ∃ m, k = m + 1 := ⟨k - 1, by omega⟩
          obtain ⟨b', o', e', -, x0⟩ := hat m (by omega)
          cases e'
          clear hat
          have hY0 : ∀ wx, Below wr.heap.size wr wx → wx.cell? ⟨b, o + m, none⟩ = some (.string (bs (n.ks[m]'(by omega)))) := fun wx hx => (hx.cell (p := ⟨b, o + m, none⟩) hbl).trans x0
          have hY1 : ∀ wx, Below wr.heap.size wr wx → wx.cell? ⟨b, o + (m + 1), none⟩ = some (.string (bs n.ks[m + 1])) := fun wx hx => (hx.cell (p := ⟨b, o + (m + 1), none⟩) hbl).trans x1
          have hm2 : m ≤ 1000000 := by omega
          have hk0' : (0 : Int) < (((m + 1 : Nat)) : Int) := by omega
          have hm1 : (((m + 1 : Nat)) : Int) - 1 = (m : Int) := by omega
          cases hg : less n.ks[m] n.ks[m + 1] with
          | false =>
            have HS' := hid (okN_rise' (n := n) (rise_no hlt hg))
            have hx1 : Op.bytesLess (bs n.ks[m]).toList (bs n.ks[m + 1]).toList = false := by rw [bs_list, bs_list]; exact hg
            clear hg
            go_wp2_with fail
            refine wp_quiet_in (fun wx => Below wr.heap.size wr wx) (by kernel_rfl) (by kernel_rfl) (Below.refl _ _).drew ?_
            go_big_quiet_want
            go_big_quiet_op
            refine ⟨.pointer (some ⟨w.heap.size, 1, none⟩), fun wx hx => ?_, ?_⟩
            · simp [go_sem]
            go_big_quiet_on
            go_big_quiet_want
            go_big_quiet_op
            refine ⟨.slice (some ⟨b, o, none⟩) n.ks.length cap, fun wx hx => ?_, ?_⟩
            · simp [go_sem, hC1 wx hx]
            go_big_quiet_on
            go_big_quiet_want
            go_big_quiet_op
            go_big_quiet_on
            go_big_quiet_want
            go_big_quiet_op
            refine ⟨.pointer (some ⟨b, o + (m + 1), none⟩), fun wx hx => ?_, ?_⟩
            · simp [go_sem] <;> omega
            go_big_quiet_on
            go_big_quiet_want
            go_big_quiet_op
            refine ⟨.string (bs (n.ks[(m + 1)]'hlt)), fun wx hx => ?_, ?_⟩
            · simp [go_sem, hY1 wx hx]
            go_big_quiet_on
            go_big_quiet_want
            go_big_quiet_op
            refine ⟨.int .i64 (n.ks[(m + 1)]'hlt).length, fun wx hx => ?_, ?_⟩
            · simp [go_sem]
            go_big_quiet_on
            go_big_quiet_want
            go_big_quiet_op
            refine ⟨.bool false, fun wx hx => ?_, ?_⟩
            · simp [go_sem] <;> omega
            go_big_quiet_on
            go_big_quiet_want
            go_big_quiet_op
            go_big_quiet_on
            go_big_quiet_want
            go_big_quiet_op
            go_big_quiet_on
            go_big_quiet_want
            go_big_quiet_op
            refine ⟨.bool true, fun wx hx => ?_, ?_⟩
            · simp [go_sem] <;> omega
            go_big_quiet_on
            go_big_quiet_want
            go_big_quiet_op
            go_big_quiet_on
            go_big_quiet_want
            go_big_quiet_op
            refine ⟨.pointer (some ⟨w.heap.size, 1, none⟩), fun wx hx => ?_, ?_⟩
            · simp [go_sem]
            go_big_quiet_on
            go_big_quiet_want
            go_big_quiet_op
            refine ⟨.slice (some ⟨b, o, none⟩) n.ks.length cap, fun wx hx => ?_, ?_⟩
            · simp [go_sem, hC1 wx hx]
            go_big_quiet_on
            go_big_quiet_want
            go_big_quiet_op
            go_big_quiet_on
            go_big_quiet_want
            go_big_quiet_op
            refine ⟨.int .i64 (m : Int), fun wx hx => ?_, ?_⟩
            · simp [go_sem]
            go_big_quiet_on
            go_big_quiet_want
            go_big_quiet_op
            refine ⟨.pointer (some ⟨b, o + m, none⟩), fun wx hx => ?_, ?_⟩
            · simp [go_sem] <;> omega
            go_big_quiet_on
            go_big_quiet_want
            go_big_quiet_op
            refine ⟨.string (bs (n.ks[m]'(by omega))), fun wx hx => ?_, ?_⟩
            · simp [go_sem, hY0 wx hx]
            go_big_quiet_on
            go_big_quiet_want
            go_big_quiet_op
            refine ⟨.pointer (some ⟨w.heap.size, 1, none⟩), fun wx hx => ?_, ?_⟩
            · simp [go_sem]
            go_big_quiet_on
            go_big_quiet_want
            go_big_quiet_op
            refine ⟨.slice (some ⟨b, o, none⟩) n.ks.length cap, fun wx hx => ?_, ?_⟩
            · simp [go_sem, hC1 wx hx]
            go_big_quiet_on
            go_big_quiet_want
            go_big_quiet_op
            go_big_quiet_on
            go_big_quiet_want
            go_big_quiet_op
            refine ⟨.pointer (some ⟨b, o + (m + 1), none⟩), fun wx hx => ?_, ?_⟩
            · simp [go_sem] <;> omega
            go_big_quiet_on
            go_big_quiet_want
            go_big_quiet_op
            refine ⟨.string (bs (n.ks[(m + 1)]'hlt)), fun wx hx => ?_, ?_⟩
            · simp [go_sem, hY1 wx hx]
            go_big_quiet_on
            go_big_quiet_want
            go_big_quiet_op
            refine ⟨.bool true, fun wx hx => ?_, ?_⟩
            · simp [go_sem]
            go_big_quiet_on
            go_big_quiet_want
            go_big_quiet_op
            refine ⟨.bool true, fun wx hx => ?_, ?_⟩
            · simp [go_sem]
            go_big_quiet_on
            go_big_quiet_want
            go_big_quiet_op
            refine ⟨.bool true, fun wx hx => ?_, ?_⟩
            · simp [go_sem]
            go_big_quiet_on
            refine wpQuiet_nil ?_
            intro w5 hb5
            have HG5 := hid (HG.out.on hb5)
            clear hb5 hC1 hY1 hY0
            go_wp2
            go_ret
            exact ⟨by rw [HS'.out]; rfl, HG5.out.be⟩
          | true =>
            have HL1 := hid hg
            have hx1 : Op.bytesLess (bs n.ks[m]).toList (bs n.ks[m + 1]).toList = true := by rw [bs_list, bs_list]; exact hg
            clear hg
            go_wp2_with fail
            refine wp_quiet_in (fun wx => Below wr.heap.size wr wx) (by kernel_rfl) (by kernel_rfl) (Below.refl _ _).drew ?_
            go_big_quiet_want
            go_big_quiet_op
            refine ⟨.pointer (some ⟨w.heap.size, 1, none⟩), fun wx hx => ?_, ?_⟩
            · simp [go_sem]
            go_big_quiet_on
            go_big_quiet_want
            go_big_quiet_op
            refine ⟨.slice (some ⟨b, o, none⟩) n.ks.length cap, fun wx hx => ?_, ?_⟩
            · simp [go_sem, hC1 wx hx]
            go_big_quiet_on
            go_big_quiet_want
            go_big_quiet_op
            go_big_quiet_on
            go_big_quiet_want
            go_big_quiet_op
            refine ⟨.pointer (some ⟨b, o + (m + 1), none⟩), fun wx hx => ?_, ?_⟩
            · simp [go_sem] <;> omega
            go_big_quiet_on
            go_big_quiet_want
            go_big_quiet_op
            refine ⟨.string (bs (n.ks[(m + 1)]'hlt)), fun wx hx => ?_, ?_⟩
            · simp [go_sem, hY1 wx hx]
            go_big_quiet_on
            go_big_quiet_want
            go_big_quiet_op
            refine ⟨.int .i64 (n.ks[(m + 1)]'hlt).length, fun wx hx => ?_, ?_⟩
            · simp [go_sem]
            go_big_quiet_on
            go_big_quiet_want
            go_big_quiet_op
            refine ⟨.bool false, fun wx hx => ?_, ?_⟩
            · simp [go_sem] <;> omega
            go_big_quiet_on
            go_big_quiet_want
            go_big_quiet_op
            go_big_quiet_on
            go_big_quiet_want
            go_big_quiet_op
            go_big_quiet_on
            go_big_quiet_want
            go_big_quiet_op
            refine ⟨.bool true, fun wx hx => ?_, ?_⟩
            · simp [go_sem] <;> omega
            go_big_quiet_on
            go_big_quiet_want
            go_big_quiet_op
            go_big_quiet_on
            go_big_quiet_want
            go_big_quiet_op
            refine ⟨.pointer (some ⟨w.heap.size, 1, none⟩), fun wx hx => ?_, ?_⟩
            · simp [go_sem]
            go_big_quiet_on
            go_big_quiet_want
            go_big_quiet_op
            refine ⟨.slice (some ⟨b, o, none⟩) n.ks.length cap, fun wx hx => ?_, ?_⟩
            · simp [go_sem, hC1 wx hx]
            go_big_quiet_on
            go_big_quiet_want
            go_big_quiet_op
            go_big_quiet_on
            go_big_quiet_want
            go_big_quiet_op
            refine ⟨.int .i64 (m : Int), fun wx hx => ?_, ?_⟩
            · simp [go_sem]
            go_big_quiet_on
            go_big_quiet_want
            go_big_quiet_op
            refine ⟨.pointer (some ⟨b, o + m, none⟩), fun wx hx => ?_, ?_⟩
            · simp [go_sem] <;> omega
            go_big_quiet_on
            go_big_quiet_want
            go_big_quiet_op
            refine ⟨.string (bs (n.ks[m]'(by omega))), fun wx hx => ?_, ?_⟩
            · simp [go_sem, hY0 wx hx]
            go_big_quiet_on
            go_big_quiet_want
            go_big_quiet_op
            refine ⟨.pointer (some ⟨w.heap.size, 1, none⟩), fun wx hx => ?_, ?_⟩
            · simp [go_sem]
            go_big_quiet_on
            go_big_quiet_want
            go_big_quiet_op
            refine ⟨.slice (some ⟨b, o, none⟩) n.ks.length cap, fun wx hx => ?_, ?_⟩
            · simp [go_sem, hC1 wx hx]
            go_big_quiet_on
            go_big_quiet_want
            go_big_quiet_op
            go_big_quiet_on
            go_big_quiet_want
            go_big_quiet_op
            refine ⟨.pointer (some ⟨b, o + (m + 1), none⟩), fun wx hx => ?_, ?_⟩
            · simp [go_sem] <;> omega
            go_big_quiet_on
            go_big_quiet_want
            go_big_quiet_op
            refine ⟨.string (bs (n.ks[(m + 1)]'hlt)), fun wx hx => ?_, ?_⟩
            · simp [go_sem, hY1 wx hx]
            go_big_quiet_on
            go_big_quiet_want
            go_big_quiet_op
            refine ⟨.bool false, fun wx hx => ?_, ?_⟩
            · simp [go_sem]
            go_big_quiet_on
            go_big_quiet_want
            go_big_quiet_op
            refine ⟨.bool false, fun wx hx => ?_, ?_⟩
            · simp [go_sem]
            go_big_quiet_on
            go_big_quiet_want
            go_big_quiet_op
            refine ⟨.bool false, fun wx hx => ?_, ?_⟩
            · simp [go_sem]
            go_big_quiet_on
            refine wpQuiet_nil ?_
            intro w5 hb5
            have HG5 := hid (HG.out.on hb5)
            clear hb5 hC1 hY1 hY0
            go_wp2
            go_roundw
            case rel =>
              refine ⟨m + 1 + 1, by go_num, by omega, hid fun j hj hl => ?_, hid fun j hj hl => ?_, HG5⟩
              · by_cases hjk : j < m + 1
                · exact HS.out j hjk hl
                · obtain rfl : j = m + 1 := by omega
                  exact HSh.out
              · by_cases hjk : j + 1 < m + 1
                · exact HR.out j hjk hl
                · obtain rfl : j = m := by omega
                  exact HL1.out
            case measure => simp [intOf]; omega
        · obtain rfl : k = 0 := by omega
          clear hat
          have hY1 : ∀ wx, Below wr.heap.size wr wx → wx.cell? ⟨b, o, none⟩ = some (.string (bs n.ks[0])) := fun wx hx => (hx.cell (p := ⟨b, o, none⟩) hbl).trans x1
          go_wp2_with fail
          refine wp_quiet_in (fun wx => Below wr.heap.size wr wx) (by kernel_rfl) (by kernel_rfl) (Below.refl _ _).drew ?_
          go_big_quiet_want
          go_big_quiet_op
          refine ⟨.pointer (some ⟨w.heap.size, 1, none⟩), fun wx hx => ?_, ?_⟩
          · simp [go_sem]
          go_big_quiet_on
          go_big_quiet_want
          go_big_quiet_op
          refine ⟨.slice (some ⟨b, o, none⟩) n.ks.length cap, fun wx hx => ?_, ?_⟩
          · simp [go_sem, hC1 wx hx]
          go_big_quiet_on
          go_big_quiet_want
          go_big_quiet_op
          go_big_quiet_on
          go_big_quiet_want
          go_big_quiet_op
          refine ⟨.pointer (some ⟨b, o, none⟩), fun wx hx => ?_, ?_⟩
          · simp [go_sem] <;> omega
          go_big_quiet_on
          go_big_quiet_want
          go_big_quiet_op
          refine ⟨.string (bs (n.ks[0]'hlt)), fun wx hx => ?_, ?_⟩
          · simp [go_sem, hY1 wx hx]
          go_big_quiet_on
          go_big_quiet_want
          go_big_quiet_op
          refine ⟨.int .i64 (n.ks[0]'hlt).length, fun wx hx => ?_, ?_⟩
          · simp [go_sem]
          go_big_quiet_on
          go_big_quiet_want
          go_big_quiet_op
          refine ⟨.bool false, fun wx hx => ?_, ?_⟩
          · simp [go_sem] <;> omega
          go_big_quiet_on
          go_big_quiet_want
          go_big_quiet_op
          go_big_quiet_on
          go_big_quiet_want
          go_big_quiet_op
          go_big_quiet_on
          go_big_quiet_want
          go_big_quiet_op
          refine ⟨.bool false, fun wx hx => ?_, ?_⟩
          · simp [go_sem] <;> omega
          go_big_quiet_on
          go_big_quiet_want
          go_big_quiet_op
          go_big_quiet_on
          go_big_quiet_skip
          go_big_quiet_skip
          go_big_quiet_skip
          go_big_quiet_skip
          go_big_quiet_skip
          go_big_quiet_skip
          go_big_quiet_skip
          go_big_quiet_skip
          go_big_quiet_skip
          go_big_quiet_skip
          go_big_quiet_skip
          go_big_quiet_skip
          go_big_quiet_want
          go_big_quiet_op
          refine ⟨.bool false, fun wx hx => ?_, ?_⟩
          · simp [go_sem]
          go_big_quiet_on
          go_big_quiet_want
          go_big_quiet_op
          refine ⟨.bool false, fun wx hx => ?_, ?_⟩
          · simp [go_sem]
          go_big_quiet_on
          refine wpQuiet_nil ?_
          intro w5 hb5
          have HG5 := hid (HG.out.on hb5)
          clear hb5 hC1 hY1
          go_wp2
          go_roundw
          case rel =>
            refine ⟨0 + 1, by go_num, by omega, hid fun j hj hl => ?_, hid fun j hj hl => absurd hj (by omega), HG5⟩
            obtain rfl : j = 0 := by omega
            exact HSh.out
          case measure => simp [intOf]; omega
      · have h64' : (64 : Int) < ((bs n.ks[k]).size : Int) := by omega
        have HS' := hid (okN_long (n := n) (all_split hlt (by unfold short; exact decide_eq_false h64)))
        clear hat
        have hY1 : ∀ wx, Below wr.heap.size wr wx → wx.cell? ⟨b, o + k, none⟩ = some (.string (bs n.ks[k])) := fun wx hx => (hx.cell (p := ⟨b, o + k, none⟩) hbl).trans x1
        go_wp2_with fail
        refine wp_quiet_in (fun wx => Below wr.heap.size wr wx) (by kernel_rfl) (by kernel_rfl) (Below.refl _ _).drew ?_
        go_big_quiet_want
        go_big_quiet_op
        refine ⟨.pointer (some ⟨w.heap.size, 1, none⟩), fun wx hx => ?_, ?_⟩
        · simp [go_sem]
        go_big_quiet_on
        go_big_quiet_want
        go_big_quiet_op
        refine ⟨.slice (some ⟨b, o, none⟩) n.ks.length cap, fun wx hx => ?_, ?_⟩
        · simp [go_sem, hC1 wx hx]
        go_big_quiet_on
        go_big_quiet_want
        go_big_quiet_op
        go_big_quiet_on
        go_big_quiet_want
        go_big_quiet_op
        refine ⟨.pointer (some ⟨b, o + k, none⟩), fun wx hx => ?_, ?_⟩
        · simp [go_sem] <;> omega
        go_big_quiet_on
        go_big_quiet_want
        go_big_quiet_op
        refine ⟨.string (bs (n.ks[k]'hlt)), fun wx hx => ?_, ?_⟩
        · simp [go_sem, hY1 wx hx]
        go_big_quiet_on
        go_big_quiet_want
        go_big_quiet_op
        refine ⟨.int .i64 (n.ks[k]'hlt).length, fun wx hx => ?_, ?_⟩
        · simp [go_sem]
        go_big_quiet_on
        go_big_quiet_want
        go_big_quiet_op
        refine ⟨.bool true, fun wx hx => ?_, ?_⟩
        · simp [go_sem] <;> omega
        go_big_quiet_on
        go_big_quiet_want
        go_big_quiet_op
        go_big_quiet_on
        go_big_quiet_skip
        go_big_quiet_skip
        go_big_quiet_skip
        go_big_quiet_skip
        go_big_quiet_skip
        go_big_quiet_skip
        go_big_quiet_skip
        go_big_quiet_skip
        go_big_quiet_skip
        go_big_quiet_skip
        go_big_quiet_skip
        go_big_quiet_skip
        go_big_quiet_skip
        go_big_quiet_skip
        go_big_quiet_skip
        go_big_quiet_skip
        go_big_quiet_want
        go_big_quiet_op
        refine ⟨.bool true, fun wx hx => ?_, ?_⟩
        · simp [go_sem]
        go_big_quiet_on
        refine wpQuiet_nil ?_
        intro w5 hb5
        have HG5 := hid (HG.out.on hb5)
        clear hb5 hC1 hY1
        go_wp2
        go_ret
        exact ⟨by rw [HS'.out]; rfl, HG5.out.be⟩
    · have hlt' : ¬ (k : Int) < n.ks.length := by omega
      have hs : n.ks.all short = true := all_full (fun j hj => HS.out j (by omega) hj)
      have hr : rise n.ks = true := rise_full (fun j hj => HR.out j (by omega) hj)
      clear hat HS HR
      have HO := hid (okN_inner hs hr hf)
      clear hs hr
      have HL : Hid (okI n = (decide (0 < n.ks.length) && (decide (n.ps.length = n.ks.length + 1) && (decide (n.cs.length = 0) && (n.ps.all okP && unlike n.ps))))) := hid rfl
      by_cases h0 : 0 < n.ks.length
      · have h0' : ¬ (n.ks.length : Int) < 1 := by omega
        by_cases h1 : n.ps.length = n.ks.length + 1
        · have q1 : ((n.ps.length : Int) != (n.ks.length : Int) + 1) = false := by simp only [bne, Bool.not_eq_false', beq_iff_eq]; omega
          by_cases h2 : n.cs.length = 0
          · have q2 : ((n.cs.length : Int) != 0) = false := by simp only [bne, Bool.not_eq_false', beq_iff_eq]; omega
            have HE : Hid (okN n = (n.ps.all okP && unlike n.ps)) := hid (by rw [HO.out, HL.out, decide_eq_true h0, decide_eq_true h1, decide_eq_true h2]; rfl)
            obtain ⟨w5, hw5⟩ : ∃ x, x = wr := ⟨_, rfl⟩
            subst hw5
            clear h1 h2 hlt' hkl h0
            go_wp2
            go_loopw [5] (fun i wr => ∃ k : Nat, i = .int .i64 k ∧ k ≤ n.ps.length ∧ Hid (∀ j (hj : j < k) (hl : j < n.ps.length), okP n.ps[j] = true) ∧ Hid (∀ i (hi : i < k) (hl : i < n.ps.length) j (hj : j < i), n.ps[j]'(by omega) ≠ n.ps[i]) ∧ Hid (Gst w false (.slice ao n.ks.length cap) (.slice ao2 n.cs.length cap2) (.slice ao3 n.ps.length cap3) n wr)) (fun i _ => n.ps.length - (intOf i).toNat)
            case atStart => exact ⟨0, rfl, Nat.zero_le _, hid (fun j hj => absurd hj (Nat.not_lt_zero _)), hid (fun j hj => absurd hj (Nat.not_lt_zero _)), HG⟩
            case round =>
              obtain ⟨m, rfl, hml, HS, HU, HG⟩ := hrel
              clear c0 c1 c2 c3
              obtain ⟨c0, c1, c2, c3⟩ := HG.out.bx.cells
              obtain ⟨_, _, e0, -, -, hat⟩ := IAt.ways1 HG.out.na.p
              cases e0
              by_cases hlt : m < n.ps.length
              · have hlt' : (m : Int) < n.ps.length := by omega
                obtain ⟨b, o, rfl, hbl, x0⟩ := hat m hlt
                clear hat
                have HC := hid (rpage_any n.ps[m])
                cases hg : okP n.ps[m] with
                | false =>
                  rw [hg] at HC
                  have HN : Hid (okN n = false) := hid (by rw [HE.out, all_split hlt hg]; rfl)
                  clear hg
                  go_wp2_with fail
                  refine (HC.out _).mono ?_
                  rintro e w7 ⟨rfl, hb⟩
                  have G7 := hid (HG.out.on hb)
                  clear hb
                  go_wp2
                  go_ret
                  exact ⟨by rw [HN.out]; rfl, G7.out.be⟩
                | true =>
                  rw [hg] at HC
                  have HN := hid hg
                  clear hg
                  go_wp2_with fail
                  refine (HC.out _).mono ?_
                  rintro e w7 ⟨rfl, hb⟩
                  have G7 := hid (HG.out.on hb)
                  clear hb c0 c1 c2 c3 x0 HG
                  go_wp2
                  go_loopw [6] (fun i wr => ∃ k : Nat, i = .int .i64 k ∧ k ≤ m ∧ Hid (∀ j (hj : j < k) (hl : j < n.ps.length), n.ps[j] ≠ n.ps[m]) ∧ Hid (Gst w false (.slice ao n.ks.length cap) (.slice ao2 n.cs.length cap2) (.slice (some ⟨b, o, none⟩) n.ps.length cap3) n wr)) (fun i _ => m - (intOf i).toNat)
                  case atStart => exact ⟨0, rfl, Nat.zero_le _, hid (fun j hj => absurd hj (Nat.not_lt_zero _)), G7⟩
                  case round =>
                    obtain ⟨q, rfl, hql, HQ, HG⟩ := hrel
                    obtain ⟨c0, c1, c2, c3⟩ := HG.out.bx.cells
                    obtain ⟨_, _, e0, -, -, hat⟩ := IAt.ways1 HG.out.na.p
                    cases e0
                    by_cases hqm : q < m
                    · have hqm' : (q : Int) < m := by omega
                      obtain ⟨b', o', e1, hbq, y0⟩ := hat q (by omega)
                      cases e1
                      obtain ⟨b', o', e1, -, y1⟩ := hat m hlt
                      cases e1
                      clear hat
                      have hlb := HG.out.bx.lt
                      have hbl2 : b < wr.heap.size := by assumption
                      have hC3 := fun wx (hx : Below wr.heap.size wr wx) => (hx.cell (p := ⟨w.heap.size, 3, none⟩) hlb).trans c3
                      have hY0 := fun wx (hx : Below wr.heap.size wr wx) => (hx.cell (p := ⟨b, o + q, none⟩) hbl2).trans y0
                      have hY1 := fun wx (hx : Below wr.heap.size wr wx) => (hx.cell (p := ⟨b, o + m, none⟩) hbl2).trans y1
                      by_cases he : n.ps[q]'(by omega) = n.ps[m]
                      · have he' : ((n.ps[q]'(by omega)) == n.ps[m]) = true := by simpa using he
                        have HN' : Hid (okN n = false) := hid (by rw [HE.out, unlike_no hlt hqm he, Bool.and_false])
                        clear he
                        go_wp2_with fail
                        refine wp_quiet_in (fun wx => Below wr.heap.size wr wx) (by kernel_rfl) (by kernel_rfl) (Below.refl _ _).drew ?_
                        go_big_quiet_want
                        go_big_quiet_op
                        refine ⟨.pointer (some ⟨w.heap.size, 3, none⟩), fun wx hx => ?_, ?_⟩
                        · simp [go_sem]
                        go_big_quiet_on
                        go_big_quiet_want
                        go_big_quiet_op
                        refine ⟨.slice (some ⟨b, o, none⟩) n.ps.length cap3, fun wx hx => ?_, ?_⟩
                        · simp [go_sem, hC3 wx hx]
                        go_big_quiet_on
                        go_big_quiet_want
                        go_big_quiet_op
                        go_big_quiet_on
                        go_big_quiet_want
                        go_big_quiet_op
                        refine ⟨.pointer (some ⟨b, o + q, none⟩), fun wx hx => ?_, ?_⟩
                        · simp [go_sem] <;> omega
                        go_big_quiet_on
                        go_big_quiet_want
                        go_big_quiet_op
                        refine ⟨.int .i64 (n.ps[q]'(by omega)), fun wx hx => ?_, ?_⟩
                        · simp [go_sem, hY0 wx hx]
                        go_big_quiet_on
                        go_big_quiet_want
                        go_big_quiet_op
                        refine ⟨.pointer (some ⟨w.heap.size, 3, none⟩), fun wx hx => ?_, ?_⟩
                        · simp [go_sem]
                        go_big_quiet_on
                        go_big_quiet_want
                        go_big_quiet_op
                        refine ⟨.slice (some ⟨b, o, none⟩) n.ps.length cap3, fun wx hx => ?_, ?_⟩
                        · simp [go_sem, hC3 wx hx]
                        go_big_quiet_on
                        go_big_quiet_want
                        go_big_quiet_op
                        go_big_quiet_on
                        go_big_quiet_want
                        go_big_quiet_op
                        refine ⟨.pointer (some ⟨b, o + m, none⟩), fun wx hx => ?_, ?_⟩
                        · simp [go_sem] <;> omega
                        go_big_quiet_on
                        go_big_quiet_want
                        go_big_quiet_op
                        refine ⟨.int .i64 (n.ps[m]'hlt), fun wx hx => ?_, ?_⟩
                        · simp [go_sem, hY1 wx hx]
                        go_big_quiet_on
                        go_big_quiet_want
                        go_big_quiet_op
                        refine ⟨.bool true, fun wx hx => ?_, ?_⟩
                        · simp [go_sem]
                        go_big_quiet_on
                        refine wpQuiet_nil ?_
                        intro w5 hb5
                        have HG5 := hid (HG.out.on hb5)
                        clear hb5 hC3 hY0 hY1
                        go_wp2
                        go_ret
                        exact ⟨by rw [HN'.out]; rfl, HG5.out.be⟩
                      · have he' : ((n.ps[q]'(by omega)) == n.ps[m]) = false := by simpa using he
                        have HN' := hid he
                        clear he
                        go_wp2_with fail
                        refine wp_quiet_in (fun wx => Below wr.heap.size wr wx) (by kernel_rfl) (by kernel_rfl) (Below.refl _ _).drew ?_
                        go_big_quiet_want
                        go_big_quiet_op
                        refine ⟨.pointer (some ⟨w.heap.size, 3, none⟩), fun wx hx => ?_, ?_⟩
                        · simp [go_sem]
                        go_big_quiet_on
                        go_big_quiet_want
                        go_big_quiet_op
                        refine ⟨.slice (some ⟨b, o, none⟩) n.ps.length cap3, fun wx hx => ?_, ?_⟩
                        · simp [go_sem, hC3 wx hx]
                        go_big_quiet_on
                        go_big_quiet_want
                        go_big_quiet_op
                        go_big_quiet_on
                        go_big_quiet_want
                        go_big_quiet_op
                        refine ⟨.pointer (some ⟨b, o + q, none⟩), fun wx hx => ?_, ?_⟩
                        · simp [go_sem] <;> omega
                        go_big_quiet_on
                        go_big_quiet_want
                        go_big_quiet_op
                        refine ⟨.int .i64 (n.ps[q]'(by omega)), fun wx hx => ?_, ?_⟩
                        · simp [go_sem, hY0 wx hx]
                        go_big_quiet_on
                        go_big_quiet_want
                        go_big_quiet_op
                        refine ⟨.pointer (some ⟨w.heap.size, 3, none⟩), fun wx hx => ?_, ?_⟩
                        · simp [go_sem]
                        go_big_quiet_on
                        go_big_quiet_want
                        go_big_quiet_op
                        refine ⟨.slice (some ⟨b, o, none⟩) n.ps.length cap3, fun wx hx => ?_, ?_⟩
                        · simp [go_sem, hC3 wx hx]
                        go_big_quiet_on
                        go_big_quiet_want
                        go_big_quiet_op
                        go_big_quiet_on
                        go_big_quiet_want
                        go_big_quiet_op
                        refine ⟨.pointer (some ⟨b, o + m, none⟩), fun wx hx => ?_, ?_⟩
                        · simp [go_sem] <;> omega
                        go_big_quiet_on
                        go_big_quiet_want
                        go_big_quiet_op
                        refine ⟨.int .i64 (n.ps[m]'hlt), fun wx hx => ?_, ?_⟩
                        · simp [go_sem, hY1 wx hx]
                        go_big_quiet_on
                        go_big_quiet_want
                        go_big_quiet_op
                        refine ⟨.bool false, fun wx hx => ?_, ?_⟩
                        · simp [go_sem]
                        go_big_quiet_on
                        refine wpQuiet_nil ?_
                        intro w5 hb5
                        have HG5 := hid (HG.out.on hb5)
                        clear hb5 hC3 hY0 hY1
                        go_wp2
                        go_roundw
                        case rel =>
                          refine ⟨q + 1, by go_num, by omega, hid fun j hj hl => ?_, HG5⟩
                          by_cases hjk : j < q
                          · exact HQ.out j hjk hl
                          · obtain rfl : j = q := by omega
                            exact HN'.out
                        case measure => simp [intOf]; omega
                    · have hqm' : ¬ (q : Int) < m := by omega
                      clear hat
                      go_wp2
                      go_roundw
                      case rel =>
                        refine ⟨m + 1, by go_num, by omega, hid fun j hj hl => ?_, hid fun i hi hl j hj => ?_, HG⟩
                        · by_cases hjk : j < m
                          · exact HS.out j hjk hl
                          · obtain rfl : j = m := by omega
                            exact HN.out
                        · by_cases hjk : i < m
                          · exact HU.out i hjk hl j hj
                          · obtain rfl : i = m := by omega
                            exact HQ.out j (by omega) (by omega)
                      case measure => simp [intOf]; omega
              · have hlt' : ¬ (m : Int) < n.ps.length := by omega
                have HN : Hid (okN n = true) := hid (by
                  rw [HE.out, all_full (fun j hj => HS.out j (by omega) hj), unlike_full (fun i hi j hj => HU.out i (by omega) hi j hj)]
                  rfl)
                clear hat
                go_wp2
                go_ret
                exact ⟨by rw [HN.out]; rfl, HG.out.be⟩
          · have q2 : ((n.cs.length : Int) != 0) = true := by simp only [bne, Bool.not_eq_true', beq_eq_false_iff_ne]; omega
            have HE : Hid (okN n = false) := hid (by rw [HO.out, HL.out, decide_eq_false h2]; simp)
            clear h1 h2
            go_wp2
            all_goals
              go_ret
              exact ⟨by rw [HE.out]; rfl, HG.out.be⟩
        · have q1 : ((n.ps.length : Int) != (n.ks.length : Int) + 1) = true := by simp only [bne, Bool.not_eq_true', beq_eq_false_iff_ne]; omega
          have HE : Hid (okN n = false) := hid (by rw [HO.out, HL.out, decide_eq_false h1]; simp)
          clear h1
          go_wp2
          all_goals
            go_ret
            exact ⟨by rw [HE.out]; rfl, HG.out.be⟩
      · have h0' : (n.ks.length : Int) < 1 := by omega
        have HE : Hid (okN n = false) := hid (by rw [HO.out, HL.out, decide_eq_false h0]; rfl)
        go_wp2
        all_goals
          go_ret
          exact ⟨by rw [HE.out]; rfl, HG.out.be⟩

theorem rgood_any (kv cv pv : Value) (n : N) (hk : n.ks.length ≤ 1000000) (hc : n.cs.length ≤ 1000000) (hp : n.ps.length ≤ 1000000) (w : World) (h : NAt w kv cv pv n) :
    Calls Tryz.prog 89 #[nV n.f kv cv pv] w fun e w' => e = .returned (.bool (okN n)) ∧ Below w.heap.size w w' := by
  cases hf : n.f with
  | true => exact rgood_leaf kv cv pv n hf hk hc hp w h
  | false => exact rgood_inner kv cv pv n hf hk hc hp w h
end No
end Go.Proofs.YtoifhcmgeackdaaGreatDoor
