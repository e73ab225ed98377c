/-
  Contract of the reference's Give: the walk.
-/
import Derived.Test.YtkoglikaaehhjaaSpareRefTakeW
import Derived.Test.YtkoglikaaehhjaaSpareOnceL
namespace Go.Proofs.Ytkoglikaaehhjaa
open Go.RowKit
namespace Sp
open Num (hid)
open Mem (Bs bs IAt tI tS tIs tSs Chg Row ptr blk_cell blk_free blk_new blk_set blk_other blk_alloc row_kept row_shape row_type wpList_append_run)
variable {Q R : Nat → Prop} {w wr w' : World} {bk : Nat} {B : Book} {g z : Hd}
theorem RT.other (k : RT Q w bk B g z wr) {b i : Nat} (hb : w.heap.size + 2 ≤ b) (u : Value) : RT Q w bk B g z (wr.setCell ⟨b, i, none⟩ u) :=
  ⟨k.a.other (by omega) u, k.r.other (by omega) u, k.book.apart ((Chg.refl _ wr).root i u) (fun q hq e => by have := k.low q e; omega), k.low, bput k.be (by omega) i u⟩
theorem rg_arg {h : Hd} {n : Int} (k : n < 1 ∨ h.pages ≤ n) : rGive h B n = ((hd0, 1), B) := if_pos k
theorem rg_full {h : Hd} {n : Int} (k : ¬ (n < 1 ∨ h.pages ≤ n)) (k2 : h.pages - 1 ≤ h.spare) : rGive h B n = ((hd0, 30), B) := by unfold rGive; rw [if_neg k, if_pos k2]
theorem rg_none {h : Hd} {n : Int} (k : ¬ (n < 1 ∨ h.pages ≤ n)) (k2 : ¬ h.pages - 1 ≤ h.spare) (k3 : h.trunk = 0) : rGive h B n = (({ h with trunk := n, spare := h.spare + 1 }, 0), putB B n (pageT ⟨h.trunk, []⟩)) := by unfold rGive; rw [if_neg k, if_neg k2, if_pos k3, k3]
theorem rg_of {h : Hd} {n : Int} (k : ¬ (n < 1 ∨ h.pages ≤ n)) (k2 : ¬ h.pages - 1 ≤ h.spare) (k3 : ¬ h.trunk = 0) {T : Tr} {e : Int} (k4 : decT (getB B h.trunk) = (T, e)) : rGive h B n = if e ≠ 0 then ((hd0, 30), B) else
  if T.list.length < 50 then (({ h with spare := h.spare + 1 }, 0), putB B h.trunk (pageT ⟨T.next, T.list ++ [n]⟩)) else (({ h with trunk := n, spare := h.spare + 1 }, 0), putB B n (pageT ⟨h.trunk, []⟩)) := by
  unfold rGive
  rw [if_neg k, if_neg k2, if_neg k3, k4]
/-- The list in new memory, and one more behind it. -/
theorem copy_push {w : World} {v : Value} {l : List Int} (hI : IAt w v l) (hl : l.length ≤ 1000) (n : Int) :
    ∃ v1 w1 v2 w2, (Builtin.append_ #[tIs, tIs] tIs #[.slice (some ⟨w.heap.size, 0, none⟩) 0 0, v]).run Try.prog (spareOnce.w0s w) = .ok v1 w1 ∧
      (Builtin.append_ #[tIs, tIs] tIs #[v1, .slice (some ⟨w1.heap.size, 0, none⟩) 1 1]).run Try.prog (w1.alloc (.cells #[.int .i64 n] tI)) = .ok v2 w2 ∧ IAt w2 v2 (l ++ [n]) ∧ Below w.heap.size w w1 ∧ Below w.heap.size w w2 := by
  have hb0 : Below w.heap.size w (spareOnce.w0s w) := (Below.refl _ w).alloc (Nat.le_refl _) _
  obtain ⟨v1, w1, hr1, ho1, hc1, hk1⟩ := spareOnce.append_at (spareOnce.own_empty w) (hI.on hb0) (by omega)
  have hb1 : Below w.heap.size w w1 := hb0.trans (hc1.below hb0.size (fun k hk e => by
    have : w.heap.size = k := by simpa [Value.ownBlock] using e
    omega))
  have hk1' : ∀ k, v1.ownBlock = some k → w.heap.size ≤ k := by
    intro k hk
    rcases hk1 k hk with h | h
    · have : w.heap.size = k := by simpa [Value.ownBlock] using h
      omega
    · exact Nat.le_trans hb0.size h
  obtain ⟨v2, w2, hr2, ho2, hc2, hk2⟩ := Mem.push_int ho1 n (by omega)
  have hb2 : Below w.heap.size w w2 := hb1.trans (hc2.below hb1.size (fun k hk e => by
    have := hk1' k e
    omega))
  refine ⟨v1, w1, v2, w2, hr1, hr2, Mem.ints_row (base := 0) ?_ (by rw [List.length_append, List.length_singleton]; unfold maxLen; omega), hb1, hb2⟩
  · rw [List.nil_append, Nat.zero_add] at ho2
    rw [List.length_append, List.map_append]
    exact ho2
theorem Lrow.beside {N t0 : Nat} {lv : Value} {l : List Int} {w w' : World} (h : Lrow N lv l w) (hc : Chg (· = t0) w w') (ht : t0 < N) : Lrow N lv l w' := ⟨row_kept h.row hc (fun g hg e => by have := h.low g hg; omega), h.low⟩
set_option maxRecDepth 100000 in
set_option maxHeartbeats 8000000 in
theorem rgive_any (h : BookR R w bk B) (hR : ∀ k, w.heap.size ≤ k → R k) (hB : B.length ≤ 20000) (hd : Hd) (hf : Fit hd) (n : Int) :
    Calls Try.prog 20 #[hV hd, ptr bk, .int .i64 n] w fun e w' => e = .returned (giveV (rGive hd B n).1) ∧ BookR R w' bk (rGive hd B n).2 ∧ Chg R w w' := by
  obtain ⟨z1, hz1⟩ : ∃ z1, z1 = (w.alloc (.cells #[.int .i64 hd.mode, .int .i64 hd.pages, .int .i64 hd.trunk, .int .i64 hd.spare, .int .i64 hd.root, .int .u64 (hd.change : Nat)] tH)).alloc zObj := ⟨_, rfl⟩
  have K1 : Hid (RT (fun k => R k ∧ k < w.heap.size) w bk B hd hd0 z1) := hid (by rw [hz1]; exact rt_new h hd)
  have HZ := hid hz1
  have HR := hid hR
  obtain ⟨a0, a1, a2, a3, a4, a5⟩ := K1.out.a.cells
  obtain ⟨f0, f1, f2, f3, f4, f5⟩ := K1.out.a.free
  obtain ⟨r0, r1, r2, r3, r4, r5⟩ := K1.out.r.cells
  obtain ⟨s0, s1, s2, s3, s4, s5⟩ := K1.out.r.free
  have hl1 := K1.out.a.lt
  have hl2 := K1.out.r.lt
  have hf2 := hf
  unfold Fit at hf2
  have hpm : wrap64 (hd.pages - 1) = hd.pages - 1 := by rw [Num.wrap_i]; omega
  have hsp : wrap64 (hd.spare + 1) = hd.spare + 1 := by rw [Num.wrap_i]; omega
  clear h hR hz1 hf
  by_cases h0 : n < 1 ∨ hd.pages ≤ n
  · rw [rg_arg h0]
    have hq : n < 1 ∨ (¬ n < 1 ∧ hd.pages ≤ n) := by omega
    clear hf2 h0 hpm hsp
    rcases hq with hq | ⟨hq, hq2⟩
    all_goals
      unfold hV
      go_enter Try.func20, Try.ntmps20
      go_upto_region 1 with fail
      rw [← HZ.out]
      have KF : Hid (RT (fun k => R k ∧ k < w.heap.size) w bk B hd hd0 (put6z z1 (w.heap.size + 1))) := hid (K1.out.put hd0)
      go_wp2
      obtain ⟨x0, x1, x2, x3, x4, x5⟩ := KF.out.r.zeros
      refine @bodyPost_ret Try.prog Try.f20 (fun e w' => e = .returned (giveV (hd0, 1)) ∧ BookR R w' bk B ∧ Chg R w w') _ _ (giveV (hd0, 1)) ?_ ?_ ?_
      · simp [results, giveV, hV, hd0, go_sem, x0, x1, x2, x3, x4, x5]
      · rfl
      · exact ⟨rfl, KF.out.out⟩
  · have h01 : ¬ n < 1 := by omega
    have h02 : ¬ hd.pages ≤ n := by omega
    by_cases h1 : hd.pages - 1 ≤ hd.spare
    · rw [rg_full h0 h1]
      clear hf2 h0 hsp
      unfold hV
      go_enter Try.func20, Try.ntmps20
      go_upto_region 1 with fail
      rw [← HZ.out]
      have KF : Hid (RT (fun k => R k ∧ k < w.heap.size) w bk B hd hd0 (put6z z1 (w.heap.size + 1))) := hid (K1.out.put hd0)
      go_wp2
      obtain ⟨x0, x1, x2, x3, x4, x5⟩ := KF.out.r.zeros
      refine @bodyPost_ret Try.prog Try.f20 (fun e w' => e = .returned (giveV (hd0, 30)) ∧ BookR R w' bk B ∧ Chg R w w') _ _ (giveV (hd0, 30)) ?_ ?_ ?_
      · simp [results, giveV, hV, hd0, go_sem, x0, x1, x2, x3, x4, x5]
      · rfl
      · exact ⟨rfl, KF.out.out⟩
    · by_cases h2 : hd.trunk = 0
      · rw [rg_none h0 h1 h2]
        have ho : okT ⟨hd.trunk, []⟩ = true := by rw [h2]; rfl
        have h2' : (hd.trunk != 0) = false := by simpa using h2
        clear hf2 h0 h2
        unfold hV
        go_enter Try.func20, Try.ntmps20
        go_upto_region 1 with fail
        rw [← HZ.out]
        have hba : Below z1.heap.size z1 (z1.alloc (tObj 0 nilS)) := (Below.refl z1.heap.size z1).alloc (Nat.le_refl _) _
        have K2 := hid (K1.out.on hba)
        clear hba a0 a1 a2 a3 a4 a5 f0 f1 f2 f3 f4 f5 r0 r1 r2 r3 r4 r5 s0 s1 s2 s3 s4 s5 hl1 hl2
        obtain ⟨a0, a1, a2, a3, a4, a5⟩ := K1.out.a.cells
        have hl1 := K1.out.a.lt
        go_upto_region 7 with fail
        clear a0 a1 a2 a3 a4 a5 hl1
        generalize z1.alloc (.cells #[.int .i64 0, .slice none 0 0] tT) = w2 at *
        obtain ⟨a0, a1, a2, a3, a4, a5⟩ := K2.out.a.cells
        have hl1 := K2.out.a.lt
        have HE := hid (rencode_any ⟨hd.trunk, []⟩ (.slice none 0 0) w2 (Mem.LAt.nil _ _ _))
        have hen : encT ⟨hd.trunk, []⟩ = (pageT ⟨hd.trunk, []⟩, 0) := if_pos ho
        rw [hen] at HE
        unfold sV2 trV at HE
        simp only at HE
        clear hen ho
        go_wp2_with fail
        refine HE.out.mono ?_
        rintro e w6 ⟨rfl, hb6⟩
        have K6 := hid (K2.out.on hb6)
        clear hb6 HE a0 a1 a2 a3 a4 a5 hl1

        have hRR := HR.out
        have HP := hid (rt_bput K6.out hRR n (pageT ⟨hd.trunk, []⟩) (by omega))
        clear hRR
        obtain ⟨a0, a1, a2, a3, a4, a5⟩ := K6.out.a.cells
        have hl1 := K6.out.a.lt
        go_wp2_with fail
        refine HP.out.mono ?_
        rintro e w8 ⟨rfl, hp8⟩
        have K8 := hid hp8
        have K9 := hid ((hp8.trunk n).spare (hd.spare + 1))
        clear hp8 a0 a1 a2 a3 a4 a5 hl1
        obtain ⟨a0, a1, a2, a3, a4, a5⟩ := K8.out.a.cells
        obtain ⟨f0, f1, f2, f3, f4, f5⟩ := K8.out.a.free
        have hl1 := K8.out.a.lt
        go_upto_region 22 with fail
        clear a0 a1 a2 a3 a4 a5 f0 f1 f2 f3 f4 f5 hl1
        generalize (w8.setCell ⟨w.heap.size, 2, none⟩ (.int .i64 n)).setCell ⟨w.heap.size, 3, none⟩ (.int .i64 (hd.spare + 1)) = w9 at *
        have KF := hid (K9.out.put { hd with trunk := n, spare := hd.spare + 1 })
        obtain ⟨a0, a1, a2, a3, a4, a5⟩ := K9.out.a.cells
        obtain ⟨r0, r1, r2, r3, r4, r5⟩ := K9.out.r.cells
        obtain ⟨s0, s1, s2, s3, s4, s5⟩ := K9.out.r.free
        have hl1 := K9.out.a.lt
        have hl2 := K9.out.r.lt
        go_wp2
        obtain ⟨x0, x1, x2, x3, x4, x5⟩ := KF.out.r.cells
        refine @bodyPost_ret Try.prog Try.f20 (fun e w' => e = .returned (giveV ({ hd with trunk := n, spare := hd.spare + 1 }, 0)) ∧ BookR R w' bk (putB B n (pageT ⟨hd.trunk, []⟩)) ∧ Chg R w w') _ _ (giveV ({ hd with trunk := n, spare := hd.spare + 1 }, 0)) ?_ ?_ ?_
        · simp [results, giveV, hV, go_sem, x0, x1, x2, x3, x4, x5]
        · rfl
        · exact ⟨rfl, KF.out.out⟩
      · have ho : okT ⟨hd.trunk, []⟩ = true := by
          rw [okT_iff]
          exact ⟨by show 0 ≤ hd.trunk ∧ hd.trunk < 4096; omega, by simp, fun x hx => by simp at hx⟩
        have h2' : (hd.trunk != 0) = true := by simpa using h2
        have HG := hid (fun (wx : World) (k : RT (fun k => R k ∧ k < w.heap.size) w bk B hd hd0 wx) => bget_any k.book hd.trunk (by omega))
        obtain ⟨T, e1, hX⟩ : ∃ T e1, decT (getB B hd.trunk) = (T, e1) := ⟨_, _, rfl⟩
        have HK := hid (rg_of (n := n) h0 h1 h2 hX)
        have HD := hid (fun w => rdecode_any (getB B hd.trunk) w)
        rw [hX] at HD
        unfold DecGives trV at HD
        simp only at HD
        have HOK : Hid (e1 = 0 → okT T = true) := hid (fun e => by
          have := dec_ok (s := getB B hd.trunk) (by rw [hX]; exact e)
          rw [hX] at this
          exact this.1)
        have HN : Hid (1 ≤ n ∧ n < 4096) := hid (by omega)
        generalize rGive hd B n = Y at *
        clear hX h0 h2 hf2
        unfold hV
        go_enter Try.func20, Try.ntmps20
        go_upto_region 1 with fail
        rw [← HZ.out]
        go_upto_region 7 with fail
        have K2 := hid (K1.out.on ((Below.refl z1.heap.size z1).alloc (Nat.le_refl _) (tObj 0 nilS)))
        have Z2 := hid (Tb.new 0 nilS z1)
        have HTZ : Hid (w.heap.size + 2 ≤ z1.heap.size) := hid K1.out.r.lt
        clear a0 a1 a2 a3 a4 a5 f0 f1 f2 f3 f4 f5 r0 r1 r2 r3 r4 r5 s0 s1 s2 s3 s4 s5 hl1 hl2
        generalize z1.alloc (.cells #[.int .i64 0, .slice none 0 0] tT) = w2 at *
        generalize z1.heap.size = t0 at *
        obtain ⟨a0, a1, a2, a3, a4, a5⟩ := K2.out.a.cells
        have hl1 := K2.out.a.lt
        go_wp2_with fail
        refine (HG.out _ K2.out).mono ?_
        rintro e w3 ⟨rfl, hb3⟩
        have K3 := hid (K2.out.on hb3)
        have Z3 := hid (Z2.out.on hb3)
        have HT3 := hid Z3.out.lt
        clear hb3 HG
        go_wp2_with fail
        refine (HD.out _).mono ?_
        rintro e w4 ⟨⟨lv, rfl, hrow⟩, hb4⟩
        obtain ⟨len, hlen⟩ : ∃ x, T.list.length = x := ⟨_, rfl⟩
        obtain ⟨ao, cap, elv, -⟩ := Mem.row_shape hrow.row
        rw [hlen] at elv
        subst elv
        have k4 := K3.out.on hb4
        have hba : Below w4.heap.size w4 (w4.alloc (.cells #[.int .i64 T.next, .slice ao len cap] tT)) := (Below.refl w4.heap.size w4).alloc (Nat.le_refl _) _
        have K5 := hid (k4.on hba)
        have L5 := hid (hrow.on hba)
        have T5 := hid (Tb.new T.next (.slice ao len cap) w4)
        have Z5 := hid ((Z3.out.on hb4).on hba)
        clear hb4 hba k4 hrow HD K3 Z3 a0 a1 a2 a3 a4 a5 hl1
        go_upto_region 9 with fail
        generalize w4.alloc (.cells #[.int .i64 T.next, .slice ao len cap] tT) = w5 at *
        generalize w4.heap.size = tb at *
        by_cases h3 : e1 = 0
        · subst h3
          have hok := HOK.out rfl
          have hokL := (okT_iff T).1 hok
          have hle := hokL.2.1
          rw [hlen] at hle
          have hy := HK.out
          rw [if_neg (fun e => e rfl)] at hy
          clear HK HOK
          have hct : Chg (· = t0) w5 ((w5.setCell ⟨t0, 0, none⟩ (.int .i64 T.next)).setCell ⟨t0, 1, none⟩ (.slice ao len cap)) := ((Chg.refl _ w5).root _ _).root _ _
          have K7 := hid ((K5.out.other (i := 0) HTZ.out (.int .i64 T.next)).other (i := 1) HTZ.out (.slice ao len cap))
          have Z7 := hid ((Z5.out.set0 T.next).set1 (.slice ao len cap))
          have L7 := hid (L5.out.beside hct HT3.out)
          obtain ⟨x0, x1⟩ := T5.out.cells
          obtain ⟨y0, y1⟩ := Z5.out.cells
          obtain ⟨z0, z1'⟩ := Z5.out.free
          have hl3 := T5.out.lt
          have hl4 := Z5.out.lt
          clear hct
          go_upto_region 12 with fail
          clear x0 x1 y0 y1 z0 z1' hl3 hl4 K5 Z5 L5 T5
          generalize (w5.setCell ⟨t0, 0, none⟩ (.int .i64 T.next)).setCell ⟨t0, 1, none⟩ (.slice ao len cap) = w2 at *
          obtain ⟨y0, y1⟩ := Z7.out.cells
          have hl4 := Z7.out.lt
          by_cases h4 : len < 50
          · rw [if_pos (by rw [hlen]; exact h4)] at hy
            subst hy
            have hle50 : ¬ (50 : Int) ≤ (len : Int) := by omega
            have ho2 : okT ⟨T.next, T.list ++ [n]⟩ = true := by
              rw [okT_iff]
              refine ⟨hokL.1, by simp; omega, fun x hx => ?_⟩
              rcases List.mem_append.1 hx with hx | hx
              · exact hokL.2.2 x hx
              · simp at hx; have := HN.out; omega
            have hI7 := L7.out.at (by omega)
            obtain ⟨v8, w8a, v9, w9a, hr8, hr9, hI9, hb8, hb9⟩ := copy_push hI7 (by omega) n
            obtain ⟨ao9, cap9, e9, -⟩ := hI9.ways1
            obtain ⟨n9, hn9⟩ : ∃ n9, (T.list ++ [n]).length = n9 := ⟨_, rfl⟩
            rw [hn9] at e9
            subst e9
            clear hn9
            have HR8 := hid hr8
            have HR9 := hid hr9
            have K6 := hid (K7.out.on hb9)
            have Z6 := hid (Z7.out.on hb9)
            have Z6a := hid (Z7.out.on hb8)
            have HE := hid (rencode_any ⟨T.next, T.list ++ [n]⟩ _ w9a hI9)
            have hen : encT ⟨T.next, T.list ++ [n]⟩ = (pageT ⟨T.next, T.list ++ [n]⟩, 0) := if_pos ho2
            rw [hen] at HE
            unfold sV2 trV at HE
            simp only at HE
            have HLN := hid hlen
            clear hen ho ho2 hok hokL hle h4 hI7 hr8 hr9 hI9 hb8 hb9 hlen
            go_upto_region 18 with (at_builtin; refine wpList_append_run rfl (.tmp 67) (.tmp 69) tIs tIs rfl _ _ (by simp [Act.eval]) (by simp [Act.eval]) HR8.out ?_)
            clear y0 y1 hl4
            obtain ⟨y0, y1⟩ := Z6.out.cells
            have hl4 := Z6.out.lt
            go_wp2_with (at_builtin; refine wpList_append_run rfl (.tmp 71) (.tmp 73) tIs tIs rfl _ _ (by simp [Act.eval]) (by simp [Act.eval]) HR9.out ?_)
            refine HE.out.mono ?_
            rintro e w10 ⟨rfl, hb10⟩
            have K6b := hid (K6.out.on hb10)
            clear hb10 HE y0 y1 hl4 K6
            have K6 := K6b
            clear K6b
            have hRR := HR.out
            have HP := hid (rt_bput K6.out hRR hd.trunk (pageT ⟨T.next, T.list ++ [n]⟩) (by omega))
            clear hRR
            obtain ⟨a0, a1, a2, a3, a4, a5⟩ := K6.out.a.cells
            have hl1 := K6.out.a.lt
            go_wp2_with fail
            refine HP.out.mono ?_
            rintro e w8 ⟨rfl, hp8⟩
            have K8 := hid hp8
            have K9 := hid (hp8.spare (hd.spare + 1))
            clear hp8 a0 a1 a2 a3 a4 a5 hl1
            obtain ⟨a0, a1, a2, a3, a4, a5⟩ := K8.out.a.cells
            obtain ⟨f0, f1, f2, f3, f4, f5⟩ := K8.out.a.free
            have hl1 := K8.out.a.lt
            go_upto_region 22 with fail
            clear a0 a1 a2 a3 a4 a5 f0 f1 f2 f3 f4 f5 hl1
            generalize w8.setCell ⟨w.heap.size, 3, none⟩ (.int .i64 (hd.spare + 1)) = w9 at *
            have KF := hid (K9.out.put { hd with spare := hd.spare + 1 })
            obtain ⟨a0, a1, a2, a3, a4, a5⟩ := K9.out.a.cells
            obtain ⟨r0, r1, r2, r3, r4, r5⟩ := K9.out.r.cells
            obtain ⟨s0, s1, s2, s3, s4, s5⟩ := K9.out.r.free
            have hl1 := K9.out.a.lt
            have hl2 := K9.out.r.lt
            go_wp2
            obtain ⟨x0, x1, x2, x3, x4, x5⟩ := KF.out.r.cells
            refine @bodyPost_ret Try.prog Try.f20 (fun e w' => e = .returned (giveV ({ hd with spare := hd.spare + 1 }, 0)) ∧ BookR R w' bk (putB B hd.trunk (pageT ⟨T.next, T.list ++ [n]⟩)) ∧ Chg R w w') _ _ (giveV ({ hd with spare := hd.spare + 1 }, 0)) ?_ ?_ ?_
            · simp [results, giveV, hV, go_sem, x0, x1, x2, x3, x4, x5]
            · rfl
            · exact ⟨rfl, KF.out.out⟩
          · rw [if_neg (by rw [hlen]; exact h4)] at hy
            subst hy
            have hle50 : (50 : Int) ≤ (len : Int) := by omega
            have K2 := K7
            obtain ⟨a0, a1, a2, a3, a4, a5⟩ := K2.out.a.cells
            have hl1 := K2.out.a.lt
            clear hok hokL hlen h4
            have HE := hid (rencode_any ⟨hd.trunk, []⟩ (.slice none 0 0) w2 (Mem.LAt.nil _ _ _))
            have hen : encT ⟨hd.trunk, []⟩ = (pageT ⟨hd.trunk, []⟩, 0) := if_pos ho
            rw [hen] at HE
            unfold sV2 trV at HE
            simp only at HE
            clear hen ho
            go_wp2_with fail
            refine HE.out.mono ?_
            rintro e w6 ⟨rfl, hb6⟩
            have K6 := hid (K2.out.on hb6)
            clear hb6 HE a0 a1 a2 a3 a4 a5 hl1

            have hRR := HR.out
            have HP := hid (rt_bput K6.out hRR n (pageT ⟨hd.trunk, []⟩) (by omega))
            clear hRR
            obtain ⟨a0, a1, a2, a3, a4, a5⟩ := K6.out.a.cells
            have hl1 := K6.out.a.lt
            go_wp2_with fail
            refine HP.out.mono ?_
            rintro e w8 ⟨rfl, hp8⟩
            have K8 := hid hp8
            have K9 := hid ((hp8.trunk n).spare (hd.spare + 1))
            clear hp8 a0 a1 a2 a3 a4 a5 hl1
            obtain ⟨a0, a1, a2, a3, a4, a5⟩ := K8.out.a.cells
            obtain ⟨f0, f1, f2, f3, f4, f5⟩ := K8.out.a.free
            have hl1 := K8.out.a.lt
            go_upto_region 22 with fail
            clear a0 a1 a2 a3 a4 a5 f0 f1 f2 f3 f4 f5 hl1
            generalize (w8.setCell ⟨w.heap.size, 2, none⟩ (.int .i64 n)).setCell ⟨w.heap.size, 3, none⟩ (.int .i64 (hd.spare + 1)) = w9 at *
            have KF := hid (K9.out.put { hd with trunk := n, spare := hd.spare + 1 })
            obtain ⟨a0, a1, a2, a3, a4, a5⟩ := K9.out.a.cells
            obtain ⟨r0, r1, r2, r3, r4, r5⟩ := K9.out.r.cells
            obtain ⟨s0, s1, s2, s3, s4, s5⟩ := K9.out.r.free
            have hl1 := K9.out.a.lt
            have hl2 := K9.out.r.lt
            go_wp2
            obtain ⟨x0, x1, x2, x3, x4, x5⟩ := KF.out.r.cells
            refine @bodyPost_ret Try.prog Try.f20 (fun e w' => e = .returned (giveV ({ hd with trunk := n, spare := hd.spare + 1 }, 0)) ∧ BookR R w' bk (putB B n (pageT ⟨hd.trunk, []⟩)) ∧ Chg R w w') _ _ (giveV ({ hd with trunk := n, spare := hd.spare + 1 }, 0)) ?_ ?_ ?_
            · simp [results, giveV, hV, go_sem, x0, x1, x2, x3, x4, x5]
            · rfl
            · exact ⟨rfl, KF.out.out⟩
        · have h3' : (e1 != 0) = true := by simpa using h3
          have hy := HK.out
          rw [if_pos h3] at hy
          subst hy
          clear HK h3
          have KF : Hid (RT (fun k => R k ∧ k < w.heap.size) w bk B hd hd0 (put6z w5 (w.heap.size + 1))) := hid (K5.out.put hd0)
          obtain ⟨r0, r1, r2, r3, r4, r5⟩ := K5.out.r.cells
          obtain ⟨s0, s1, s2, s3, s4, s5⟩ := K5.out.r.free
          have hl2 := K5.out.r.lt
          go_wp2
          obtain ⟨x0, x1, x2, x3, x4, x5⟩ := KF.out.r.zeros
          refine @bodyPost_ret Try.prog Try.f20 (fun e w' => e = .returned (giveV (hd0, 30)) ∧ BookR R w' bk B ∧ Chg R w w') _ _ (giveV (hd0, 30)) ?_ ?_ ?_
          · simp [results, giveV, hV, hd0, go_sem, x0, x1, x2, x3, x4, x5]
          · rfl
          · exact ⟨rfl, KF.out.out⟩
end Sp
end Go.Proofs.Ytkoglikaaehhjaa
