/-
  Contract of the reference's Decode: what each call returns; the old memory stays.
-/
import Derived.Test.YtpfolialjajafaaHeadRead
namespace Go.Proofs.Ytpfolialjajafaa
open Go.RowKit
namespace Head
open Num (hid fixF unfF)
open Part (piece piece_lt runfixed_at cell_at)

/-- The cells of a list of numbers. -/
def icells (l : List Int) : List Value := l.map fun n => Value.int .i64 n
theorem icells_len (l : List Int) : (icells l).length = l.length := by simp [icells]
theorem icells_snoc (l : List Int) (n : Int) : icells (l ++ [n]) = icells l ++ [.int .i64 n] := by simp [icells]
/-- 'l = append(l, n)' on a []int of the call's own, n in a new block: l owns one number more; the old memory stays. -/
theorem wpList_append_int {P : Program} {w0 w : World} {ops : Array Oper} {rest : List Oper} {o : Oper} {a : Act} {Q : Exit → Act → World → Prop} (hgd : o.guard = none) (s x : Operand) (t : TypeId)
    (ho : o.op = .call { callee := .builtin .append, args := #[s, x], argTypes := #[t, t] })
    (base : Nat) (e : TypeId) (i : TypeInfo) (ht : P.underlying t = some (.slice e)) (hi : P.info? e = some i) (hz : i.zero = some (.int .i64 0)) (hsize : i.size = 1) (hby : i.bytes = 8)
    (v : Value) (n : Nat) (l : List Int) (hs : a.eval s = v) (hn : n = l.length) (hown : w.ownsRow base e 1 v n (icells l)) (hbel : Below base w0 w) (hbase : base ≤ w.heap.size)
    (g c : Nat) (b : Int) (hx : a.eval x = .slice (some ⟨g, 0, none⟩) 1 c) (hcell : w.cell? ⟨g, 0, none⟩ = some (.int .i64 b)) (hlen : l.length ≤ 1000000)
    (h : ∀ v' w', w'.ownsRow base e 1 v' (l ++ [b]).length (icells (l ++ [b])) → Below base w0 w' → w.grownBy w' v.ownBlock → wpList P ops Q rest (a.put o.dst v') w') : wpList P ops Q (o :: rest) a w := by
  subst hn
  refine wpList_append_own w hgd s x t ho base e i (.int .i64 0) 1 8 ht hi hz hsize hby rfl (by decide) v l.length (icells l) hs hown ⟨g, 0, none⟩ 1 c [.int .i64 b] hx rfl ?_ ?_ ?_ ?_ hbase ?_
  · intro j u hj
    match j, hj with
    | 0, hj => simp at hj; subst hj; simpa [Addr.add] using hcell
  · intro u hu; simp at hu; subst hu; rfl
  · unfold maxLen; omega
  · omega
  · intro v' w' ho' hg' _
    refine h v' w' ?_ (hbel.grown hg' hbase (fun k hk => (hown.lt k hk).1)) hg'
    rw [icells_snoc, List.length_append]
    exact ho'
theorem intInfo : ∃ i, Try.prog.info? 3 = some i ∧ i.zero = some (.int .i64 0) ∧ i.size = 1 ∧ i.bytes = 8 := by
  have h : (Try.prog.info? 3).map (fun i => (i.zero, i.size, i.bytes)) = some (some (.int .i64 0), 1, 8) := by kernel_rfl
  cases e : Try.prog.info? 3 with
  | none => rw [e] at h; cases h
  | some i =>
    rw [e] at h
    simp only [Option.map_some, Option.some.injEq, Prod.mk.injEq] at h
    exact ⟨i, rfl, h.1, h.2.1, h.2.2⟩
/-- The first k numbers. -/
def fives (s : ByteArray) : Nat → List Int
  | 0 => []
  | 1 => [(piece s 8 12 : Nat)]
  | 2 => [(piece s 8 12 : Nat), (piece s 12 16 : Nat)]
  | 3 => [(piece s 8 12 : Nat), (piece s 12 16 : Nat), (piece s 16 20 : Nat)]
  | 4 => [(piece s 8 12 : Nat), (piece s 12 16 : Nat), (piece s 16 20 : Nat), (piece s 20 24 : Nat)]
  | _ => [(piece s 8 12 : Nat), (piece s 12 16 : Nat), (piece s 16 20 : Nat), (piece s 20 24 : Nat), (piece s 24 28 : Nat)]
theorem fives_few (s : ByteArray) (k : Nat) : (fives s k).length ≤ 1000000 := by
  match k with
  | 0 | 1 | 2 | 3 | 4 => simp [fives]
  | _ + 5 => simp [fives]
theorem Six.grown {b : Nat} {M P T S R C : Int} {wx wy : World} {k : Option Nat} (h : Six b M P T S R C wx) (hg : wx.grownBy wy k) (hk : k ≠ some b) : Six b M P T S R C wy := (hg.block b (lt_of_block h) (fun e => hk e.symm)).trans h
theorem row_type {w : World} {base : Nat} {e : TypeId} {v : Value} {n g : Nat} {xs : List Value} (h : w.ownsRow base e 1 v n xs) (hg : v.ownBlock = some g) : ∃ cur, w.heap[g]? = some (.cells cur e (0, 0)) := by
  rcases h.2 with ⟨rfl, _⟩ | ⟨g', cap, cur, rfl, _, hh, _⟩
  · cases hg
  · have : g' = g := by simpa [Value.ownBlock] using hg
    subst this
    exact ⟨cur, hh⟩
theorem Six.apart {b : Nat} {M P T S R C : Int} {wx : World} (h : Six b M P T S R C wx) {base : Nat} {v : Value} {n : Nat} {xs : List Value} (ho : wx.ownsRow base 3 1 v n xs) : v.ownBlock ≠ some b := by
  intro e
  obtain ⟨cur, hh⟩ := row_type ho e
  unfold Six at h
  rw [h] at hh
  simp only [Option.some.injEq, Obj.cells.injEq] at hh
  exact absurd hh.2.1 (by decide)

set_option maxRecDepth 100000 in
set_option maxHeartbeats 4000000 in
theorem rdec_yes (s : ByteArray) (h : s.size = 232) (V : Value) (E : Int) (hgood : Hid (Right s → V = saysV s ∧ E = 0)) (hbad : Hid (¬ Right s → V = zeroV ∧ E = 4)) (w : World) :
    Calls Try.prog 14 #[.string s] w fun e w' => e = .returned (.tuple #[V, .int .i64 E]) ∧ Below w.heap.size w w' := by
  obtain ⟨ii, hi, hz0, hz1, hz2⟩ := intInfo
  have ht : ((s.size : Int) != 232) = false := by simp; omega
  have hs : (36 : Int) ≤ (s.size : Int) := by omega
  have h36 : 36 ≤ s.size := by omega
  have b1 := piece_lt s 8 12
  have b2 := piece_lt s 12 16
  have b3 := piece_lt s 16 20
  have b4 := piece_lt s 20 24
  have b5 := piece_lt s 24 28
  have c1 : ((piece s 8 12 : Nat) : Int) ≤ 4294967295 := by omega
  have c2 : ((piece s 12 16 : Nat) : Int) ≤ 4294967295 := by omega
  have c3 : ((piece s 16 20 : Nat) : Int) ≤ 4294967295 := by omega
  have c4 : ((piece s 20 24 : Nat) : Int) ≤ 4294967295 := by omega
  have c5 : ((piece s 24 28 : Nat) : Int) ≤ 4294967295 := by omega
  clear h b1 b2 b3 b4 b5
  have Z0 : Hid (Six w.heap.size 0 0 0 0 0 0 (w.alloc (.cells #[.int .i64 0, .int .i64 0, .int .i64 0, .int .i64 0, .int .i64 0, .int .u64 0] 24))) := hid (heap_alloc_new _ _)
  have Z1 : Hid (Six w.heap.size 0 0 0 0 0 0 ((w.alloc (.cells #[.int .i64 0, .int .i64 0, .int .i64 0, .int .i64 0, .int .i64 0, .int .u64 0] 24)).alloc (.cells #[] 3))) := hid (Z0.out.on ((Below.refl _ _).alloc (Nat.le_refl _) _))
  have O1 : Hid (((w.alloc (.cells #[.int .i64 0, .int .i64 0, .int .i64 0, .int .i64 0, .int .i64 0, .int .u64 0] 24)).alloc (.cells #[] 3)).ownsRow w.heap.size 3 1 (.slice (some ⟨w.heap.size + 1, 0, none⟩) 0 0) 0 (icells [])) := hid (by
    have h := World.ownsRow_made (w.alloc (.cells #[.int .i64 0, .int .i64 0, .int .i64 0, .int .i64 0, .int .i64 0, .int .u64 0] 24)) (e := 3) (size := 1) (base := w.heap.size) #[] 0 (by simp) (by decide) rfl
    have e : (w.alloc (.cells #[.int .i64 0, .int .i64 0, .int .i64 0, .int .i64 0, .int .i64 0, .int .u64 0] 24)).heap.size = w.heap.size + 1 := by simp
    rw [e] at h
    exact h)
  have B1 : Hid (Below w.heap.size w ((w.alloc (.cells #[.int .i64 0, .int .i64 0, .int .i64 0, .int .i64 0, .int .i64 0, .int .u64 0] 24)).alloc (.cells #[] 3))) := hid (((Below.refl _ _).alloc (Nat.le_refl _) _).alloc (by simp) _)
  clear Z0
  go_enter Try.func14, Try.ntmps14
  go_wp2
  go_loopw [4, 5] (fun l i wr => ∃ k : Nat, k ≤ 5 ∧ i = .int .i64 k ∧ wr.ownsRow w.heap.size 3 1 l (fives s k).length (icells (fives s k)) ∧ Six w.heap.size 0 0 0 0 0 0 wr ∧ Below w.heap.size w wr) (fun _ i _ => 5 - (intOf i).toNat)
  case atStart => exact ⟨0, by omega, rfl, O1.out, Z1.out, B1.out⟩
  case round =>
    obtain ⟨k, hk, rfl, O, Z, B⟩ := hrel
    have HZ := hid Z
    have HB := hid B
    have HO := hid O
    clear Z B O Z1 O1 B1
    have ways : k = 0 ∨ k = 1 ∨ k = 2 ∨ k = 3 ∨ k = 4 ∨ k = 5 := by omega
    clear hk
    rcases ways with rfl | rfl | rfl | rfl | rfl | rfl
    · go_wp2_with fail
      refine (runfixed_at s 8 12 (by decide) (by decide) (by omega) _).mono ?_
      rintro e w' ⟨rfl, rfl⟩
      go_wp2_with (at_builtin; go_must (refine wpList_append_int (w0 := w) rfl _ _ 41 rfl w.heap.size 3 ii Try.underlying41 hi hz0 hz1 hz2 _ _ (fives s 0) rfl rfl (HO.out.alloc _) (HB.out.alloc HB.out.size _) (by have := HB.out.size; simp; omega) wr.heap.size 1 (piece s 8 12 : Nat) rfl (by simp) (fives_few s 0) ?_))
      intro v' w2 hown2 hbel2 hg2
      have HZ2 := hid ((HZ.out.on ((Below.refl _ _).alloc (Nat.le_refl _) (.cells #[.int .i64 (piece s 8 12 : Nat)] 3))).grown hg2 (HZ.out.apart HO.out))
      have HO2 := hid hown2
      have HB2 := hid hbel2
      clear hown2 hbel2 hg2 HZ HO HB
      go_wp2
      go_roundw
      case rel => exact ⟨1, by decide, rfl, HO2.out, HZ2.out, HB2.out⟩
      case measure => simp [intOf]
    · go_wp2_with fail
      refine (runfixed_at s 12 16 (by decide) (by decide) (by omega) _).mono ?_
      rintro e w' ⟨rfl, rfl⟩
      go_wp2_with (at_builtin; go_must (refine wpList_append_int (w0 := w) rfl _ _ 41 rfl w.heap.size 3 ii Try.underlying41 hi hz0 hz1 hz2 _ _ (fives s 1) rfl rfl (HO.out.alloc _) (HB.out.alloc HB.out.size _) (by have := HB.out.size; simp; omega) wr.heap.size 1 (piece s 12 16 : Nat) rfl (by simp) (fives_few s 1) ?_))
      intro v' w2 hown2 hbel2 hg2
      have HZ2 := hid ((HZ.out.on ((Below.refl _ _).alloc (Nat.le_refl _) (.cells #[.int .i64 (piece s 12 16 : Nat)] 3))).grown hg2 (HZ.out.apart HO.out))
      have HO2 := hid hown2
      have HB2 := hid hbel2
      clear hown2 hbel2 hg2 HZ HO HB
      go_wp2
      go_roundw
      case rel => exact ⟨2, by decide, rfl, HO2.out, HZ2.out, HB2.out⟩
      case measure => simp [intOf]
    · go_wp2_with fail
      refine (runfixed_at s 16 20 (by decide) (by decide) (by omega) _).mono ?_
      rintro e w' ⟨rfl, rfl⟩
      go_wp2_with (at_builtin; go_must (refine wpList_append_int (w0 := w) rfl _ _ 41 rfl w.heap.size 3 ii Try.underlying41 hi hz0 hz1 hz2 _ _ (fives s 2) rfl rfl (HO.out.alloc _) (HB.out.alloc HB.out.size _) (by have := HB.out.size; simp; omega) wr.heap.size 1 (piece s 16 20 : Nat) rfl (by simp) (fives_few s 2) ?_))
      intro v' w2 hown2 hbel2 hg2
      have HZ2 := hid ((HZ.out.on ((Below.refl _ _).alloc (Nat.le_refl _) (.cells #[.int .i64 (piece s 16 20 : Nat)] 3))).grown hg2 (HZ.out.apart HO.out))
      have HO2 := hid hown2
      have HB2 := hid hbel2
      clear hown2 hbel2 hg2 HZ HO HB
      go_wp2
      go_roundw
      case rel => exact ⟨3, by decide, rfl, HO2.out, HZ2.out, HB2.out⟩
      case measure => simp [intOf]
    · go_wp2_with fail
      refine (runfixed_at s 20 24 (by decide) (by decide) (by omega) _).mono ?_
      rintro e w' ⟨rfl, rfl⟩
      go_wp2_with (at_builtin; go_must (refine wpList_append_int (w0 := w) rfl _ _ 41 rfl w.heap.size 3 ii Try.underlying41 hi hz0 hz1 hz2 _ _ (fives s 3) rfl rfl (HO.out.alloc _) (HB.out.alloc HB.out.size _) (by have := HB.out.size; simp; omega) wr.heap.size 1 (piece s 20 24 : Nat) rfl (by simp) (fives_few s 3) ?_))
      intro v' w2 hown2 hbel2 hg2
      have HZ2 := hid ((HZ.out.on ((Below.refl _ _).alloc (Nat.le_refl _) (.cells #[.int .i64 (piece s 20 24 : Nat)] 3))).grown hg2 (HZ.out.apart HO.out))
      have HO2 := hid hown2
      have HB2 := hid hbel2
      clear hown2 hbel2 hg2 HZ HO HB
      go_wp2
      go_roundw
      case rel => exact ⟨4, by decide, rfl, HO2.out, HZ2.out, HB2.out⟩
      case measure => simp [intOf]
    · go_wp2_with fail
      refine (runfixed_at s 24 28 (by decide) (by decide) (by omega) _).mono ?_
      rintro e w' ⟨rfl, rfl⟩
      go_wp2_with (at_builtin; go_must (refine wpList_append_int (w0 := w) rfl _ _ 41 rfl w.heap.size 3 ii Try.underlying41 hi hz0 hz1 hz2 _ _ (fives s 4) rfl rfl (HO.out.alloc _) (HB.out.alloc HB.out.size _) (by have := HB.out.size; simp; omega) wr.heap.size 1 (piece s 24 28 : Nat) rfl (by simp) (fives_few s 4) ?_))
      intro v' w2 hown2 hbel2 hg2
      have HZ2 := hid ((HZ.out.on ((Below.refl _ _).alloc (Nat.le_refl _) (.cells #[.int .i64 (piece s 24 28 : Nat)] 3))).grown hg2 (HZ.out.apart HO.out))
      have HO2 := hid hown2
      have HB2 := hid hbel2
      clear hown2 hbel2 hg2 HZ HO HB
      go_wp2
      go_roundw
      case rel => exact ⟨5, by decide, rfl, HO2.out, HZ2.out, HB2.out⟩
      case measure => simp [intOf]
    · have O5 : wr.ownsRow w.heap.size 3 1 u4 5 (icells (fives s 5)) := HO.out
      obtain ⟨g, cap, rfl, hg⟩ : ∃ g cap, u4 = .slice (some ⟨g, 0, none⟩) 5 cap ∧ g < wr.heap.size := by
        rcases O5.2 with ⟨_, h0⟩ | ⟨g, cap, cur, hv, _, hb, _⟩
        · omega
        · exact ⟨g, cap, hv, lt_of_block hb⟩
      have g0 : wr.cell? ⟨g, 0, none⟩ = some (.int .i64 (piece s 8 12 : Nat)) := O5.cellAt 0 (by decide)
      have g1 : wr.cell? ⟨g, 1, none⟩ = some (.int .i64 (piece s 12 16 : Nat)) := O5.cellAt 1 (by decide)
      have g2 : wr.cell? ⟨g, 2, none⟩ = some (.int .i64 (piece s 16 20 : Nat)) := O5.cellAt 2 (by decide)
      have g3 : wr.cell? ⟨g, 3, none⟩ = some (.int .i64 (piece s 20 24 : Nat)) := O5.cellAt 3 (by decide)
      have g4 : wr.cell? ⟨g, 4, none⟩ = some (.int .i64 (piece s 24 28 : Nat)) := O5.cellAt 4 (by decide)
      clear O5 HO
      go_wp2_with fail
      refine (runfixed_at s 28 36 (by decide) (by decide) (by omega) _).mono ?_
      rintro e w' ⟨rfl, rfl⟩
      go_wp2
      go_region
      go_wp2_with fail
      have HG : Hid (Six wr.heap.size (piece s 8 12 : Nat) (piece s 12 16 : Nat) (piece s 16 20 : Nat) (piece s 20 24 : Nat) (piece s 24 28 : Nat) (piece s 28 36 : Nat) (wr.alloc (.cells #[.int .i64 (piece s 8 12 : Nat), .int .i64 (piece s 12 16 : Nat), .int .i64 (piece s 16 20 : Nat), .int .i64 (piece s 20 24 : Nat), .int .i64 (piece s 24 28 : Nat), .int .u64 (piece s 28 36 : Nat)] 24)).drew) := hid (heap_alloc_new wr _)
      have HB2 : Hid (Below w.heap.size w (wr.alloc (.cells #[.int .i64 (piece s 8 12 : Nat), .int .i64 (piece s 12 16 : Nat), .int .i64 (piece s 16 20 : Nat), .int .i64 (piece s 20 24 : Nat), .int .i64 (piece s 24 28 : Nat), .int .u64 (piece s 28 36 : Nat)] 24)).drew) := hid ((HB.out.alloc HB.out.size _).drew)
      have HZ2 : Hid (Six w.heap.size 0 0 0 0 0 0 (wr.alloc (.cells #[.int .i64 (piece s 8 12 : Nat), .int .i64 (piece s 12 16 : Nat), .int .i64 (piece s 16 20 : Nat), .int .i64 (piece s 20 24 : Nat), .int .i64 (piece s 24 28 : Nat), .int .u64 (piece s 28 36 : Nat)] 24)).drew) := hid (HZ.out.on (((Below.refl _ _).alloc (Nat.le_refl _) _).drew))
      refine (renc_again s _).mono ?_
      rintro e w3 ⟨rfl, hb3⟩
      have HG4 := HG.out.on hb3
      have HZ4 := HZ2.out.on hb3
      have HB4 := HB2.out.trans (hb3.mono HB2.out.size)
      clear g0 g1 g2 g3 g4 hb3 HG HZ2 HB2 HZ HB
      obtain ⟨k0, k1, k2, k3, k4, k5⟩ := HG4.cells
      obtain ⟨z0, z1, z2, z3, z4, z5⟩ := HZ4.free
      obtain ⟨m0, m1, m2, m3, m4, m5⟩ := HZ4.cells
      have hlt := lt_of_block HZ4
      clear HG4 HZ4
      by_cases hf : FitS s
      · obtain ⟨e1, e2⟩ := again_fit hf
        rw [e1, e2]
        by_cases hr : again s = s
        · have hR : Right s := ⟨hf, hr⟩
          obtain ⟨v1, v2⟩ := hgood.out hR
          rw [hr]
          have HV1 := hid v1
          have HV2 := hid v2
          clear v1 v2 hgood hbad
          clear hf hr hR e1 e2
          go_wp2
          exact bodyPost_ret (v := .tuple #[saysV s, .int .i64 0]) (by simp [results, saysV, hd, go_sem, m0, m1, m2, m3, m4, m5]) rfl ⟨by rw [HV1.out, HV2.out], (((((HB4.setCell (Nat.le_refl _) _).setCell (Nat.le_refl _) _).setCell (Nat.le_refl _) _).setCell (Nat.le_refl _) _).setCell (Nat.le_refl _) _).setCell (Nat.le_refl _) _⟩
        · have hR : ¬ Right s := fun h => hr h.2
          have hq : ((again s).toList == s.toList) = false := by
            rw [beq_eq_false_iff_ne, ByteArray.toList_eq, ByteArray.toList_eq]
            exact fun h => hr (ByteArray.ext (Array.ext' h))
          obtain ⟨v1, v2⟩ := hbad.out hR
          have HV1 := hid v1
          have HV2 := hid v2
          clear v1 v2 hgood hbad
          generalize again s = t at hq ⊢
          clear hf hr hR e1 e2
          go_wp2
          exact bodyPost_ret (v := .tuple #[zeroV, .int .i64 4]) (by simp [results, zeroV, hd, go_sem, m0, m1, m2, m3, m4, m5]) rfl ⟨by rw [HV1.out, HV2.out], (((((HB4.setCell (Nat.le_refl _) _).setCell (Nat.le_refl _) _).setCell (Nat.le_refl _) _).setCell (Nat.le_refl _) _).setCell (Nat.le_refl _) _).setCell (Nat.le_refl _) _⟩
      · have hR : ¬ Right s := fun h => hf h.1
        rw [again_not hf]
        obtain ⟨v1, v2⟩ := hbad.out hR
        have HV1 := hid v1
        have HV2 := hid v2
        clear v1 v2 hgood hbad
        clear hf hR
        go_wp2
        exact bodyPost_ret (v := .tuple #[zeroV, .int .i64 4]) (by simp [results, zeroV, hd, go_sem, m0, m1, m2, m3, m4, m5]) rfl ⟨by rw [HV1.out, HV2.out], (((((HB4.setCell (Nat.le_refl _) _).setCell (Nat.le_refl _) _).setCell (Nat.le_refl _) _).setCell (Nat.le_refl _) _).setCell (Nat.le_refl _) _).setCell (Nat.le_refl _) _⟩

theorem rdec_any (s : ByteArray) (w : World) :
    Calls Try.prog 14 #[.string s] w fun e w' => e = .returned (.tuple #[decV s, .int .i64 (decE s)]) ∧ Below w.heap.size w w' := by
  by_cases h : s.size = 232
  · refine rdec_yes s h _ _ (hid fun hr => ?_) (hid fun hr => ?_) w
    · unfold decV decE; rw [if_pos ⟨h, hr⟩, if_pos h, if_pos hr]; exact ⟨rfl, rfl⟩
    · unfold decV decE; rw [if_neg (fun hh => hr hh.2), if_pos h, if_neg hr]; exact ⟨rfl, rfl⟩
  · have e1 : decV s = zeroV := if_neg (fun hh => h hh.1)
    have e2 : decE s = 1 := if_neg h
    rw [e1, e2]
    exact rdec_no s h w
end Head
end Go.Proofs.Ytpfolialjajafaa
