/-
  CacheLast: the walk of the statement.
-/
import Derived.Test.YthciofgkdfideaaCacheLastL
import Derived.Deep.CutBlock
import Derived.Deep.RegionHeldLaw
namespace Go.Proofs.Ythciofgkdfideaa
open Go.RowKit
namespace cacheLast
open Ca
open Num (hid)
open Mem (Bs bs tI tS tIs Chg Row ptr LAt blk_cell blk_free blk_new blk_set blk_other blk_alloc wpList_append_run)
/-- Behind i puts. -/
structure Kept (L : Nat) (l1 : List Int) (l : Ca.Row) (i : Nat) : Prop where
  ok : Ok L l
  la : Lasts L l (l1.take i).reverse
  fit : ∀ x ∈ l, Fits x.d
theorem mem_next {U : List Int} {m : Nat} (h : m < U.length) (x : Int) : decide (x ∈ U.take (m + 1)) = (decide (x ∈ U.take m) || (U[m] == x)) := by
  rw [List.take_add_one, List.getElem?_eq_getElem h]
  show decide (x ∈ U.take m ++ [U[m]]) = _
  have e : (x ∈ U.take m ++ [U[m]]) ↔ (x ∈ U.take m ∨ U[m] = x) := by
    rw [List.mem_append, List.mem_singleton]
    exact or_congr_right eq_comm
  rw [decide_eq_decide.2 e, Bool.decide_or]
  rfl
set_option maxRecDepth 100000 in
set_option maxHeartbeats 4000000 in
theorem walk (a0 : Int) (v1 : Value) (l1 : List Int) (w : World) (h1 : LAt 1 iV w v1 l1) (f1 : ∀ a ∈ l1, Wf a) :
    Calls Try.prog 5 #[.int .i64 a0, v1] w fun e w' => e = .returned (.bool true) ∧ Below w.heap.size w w' := by
  obtain ⟨ao1, cap1, rfl, hm1, hx1⟩ := ints_ways h1
  obtain ⟨L, hL1, hL2, hL⟩ := size_of a0
  have HCL := hid (clamp_in hL1 hL2)
  have HL := hid (And.intro hL1 hL2)
  have HX1 := hid hx1
  have HM := hid hm1
  have HF1 := hid f1
  clear hm1 hx1 h1 f1 hL1 hL2
  go_enter Try.func5, Try.ntmps5
  go_wp2_with fail
  refine (awake_any w).mono ?_
  rintro e w1 ⟨rfl, hb1⟩
  have HB1 := hid hb1
  clear hb1
  go_wp2_with fail
  refine (new_any (L : Int) w1).mono ?_
  rintro e w2 ⟨c, rfl, -, hca, hb2⟩
  have M0 : Hid (Mine w.heap.size w c L [] w2) := by
    rw [HCL.out] at hca
    exact hid ⟨hca.mono (fun g _ e => (Nat.le_trans HB1.out.size e : w.heap.size ≤ g)), HB1.out.trans (hb2.mono HB1.out.size), Nat.le_trans HB1.out.size hb2.size⟩
  have K0 : Hid (Kept L l1 [] 0) := hid ⟨ok_nil L, Lasts.nil L, fun _ h => (by cases h)⟩
  simp only [hL]
  clear hca hb2 HB1 HCL hL
  go_upto_block 0 with fail
  go_cut [] from 23 to 89 (fun wc => Hid (Below w.heap.size w wc))
  case first =>
    go_wp2_with fail
    go_loopw [6] (fun iv wr => ∃ (i : Nat) (l : Ca.Row), i ≤ l1.length ∧ i ≤ 300 ∧ iv = .int .i64 (i : Int) ∧ Hid (Mine w.heap.size w c L l wr) ∧ Hid (Kept L l1 l i)) (fun iv _ => 300 - (intOf iv).toNat)
    case atStart => exact ⟨0, [], Nat.zero_le _, Nat.zero_le _, rfl, M0, K0⟩
    case round =>
      obtain ⟨i, l, hi1, hi2, rfl, HS, HK⟩ := hrel
      clear M0 K0
      by_cases hlt : i < l1.length ∧ i < 300
      · obtain ⟨hlt1, hlt2⟩ := hlt
        have hle1 : (i : Int) < (l1.length : Int) := by omega
        have hle2 : (i : Int) < 300 := by omega
        obtain ⟨b0, o0, rfl, hb0, x0⟩ := HX1.out i hlt1
        have HPC := hid (fun (wz : World) (hb : Below w.heap.size w wz) => And.intro ((hb.cell (p := ⟨b0, o0 + i, none⟩) hb0).trans x0) (Nat.lt_of_lt_of_le hb0 hb.size))
        have HWF := hid (HF1.out l1[i] (List.getElem_mem hlt1))
        have J0 := hid (HPC.out wr.drew HS.out.2.1.drew)
        have MB := hid (HS.out.2.1.trans (((Below.refl _ wr).alloc (Nat.le_refl _) (.cells #[.int .u8 (IntKind.u8.wrap (i : Int))] 5)).drew.mono HS.out.2.2))
        have J1 := hid (HPC.out _ MB.out)
        have hcv := one_byte wr (i : Int)
        have hfd : Fits [UInt8.ofNat (IntKind.u8.wrap (i : Int)).toNat] := fits_one _
        have HPU := hid (fun dt => (HS.out.on ((Below.refl _ wr).alloc (Nat.le_refl _) (.cells #[.int .u8 (IntKind.u8.wrap (i : Int))] 5)).drew).put HK.out.ok.nd (by have := HK.out.ok.le; have := HL.out; omega) HWF.out hfd dt rfl rfl rfl)
        have HKN : Hid (∀ dt, Kept L l1 (putM L l1[i] [UInt8.ofNat (IntKind.u8.wrap (i : Int)).toNat] dt l) (i + 1) ∧ Lasts L (putM L l1[i] [UInt8.ofNat (IntKind.u8.wrap (i : Int)).toNat] dt l) (backP l1 i)) := hid (fun dt => by
          have h2 := lasts_next (ps := l1) hlt1 HL.out.1 HK.out.la [UInt8.ofNat (IntKind.u8.wrap (i : Int)).toNat] dt
          refine ⟨⟨HK.out.ok.put HL.out.1 _ _ _, h2, fun x hx => ?_⟩, h2⟩
          have hx2 := List.mem_of_mem_drop hx
          unfold onto at hx2
          rcases List.mem_append.1 hx2 with h3 | h3
          · exact HK.out.fit x (mem_wo.1 h3).1
          · rw [List.mem_singleton] at h3
            rw [h3]
            exact hfd)
        generalize [UInt8.ofNat (IntKind.u8.wrap (i : Int)).toNat] = d1 at *
        obtain ⟨x, hxe⟩ : ∃ x, l1[i] = x := ⟨_, rfl⟩
        rw [hxe] at HPC J0 J1 HPU HKN HWF
        clear x0 hb0 hxe hfd
        go_upto_region 8 with fail
        go_region_held_law (fun W => W.cell? ⟨b0, o0 + i, none⟩ = some (.int .i64 x))
          (first | with_reducible exact J0.out.1 | with_reducible exact J1.out.1 | with_reducible exact J2.out.1)
          (first
            | go_at_call 12; refine (HPU.out _).mono ?_; rintro e w5 ⟨ao5, cap5, rfl, -, hk5⟩; have M5 := hid hk5; have J2 := hid (HPC.out w5 hk5.2.1); clear hk5)
        have HK5 := hid (HKN.out ((i : Int).tmod 2 == 0))
        generalize putM L x d1 ((i : Int).tmod 2 == 0) l = l5 at *
        generalize (outM L x d1 ((i : Int).tmod 2 == 0) l).length = no at *
        generalize (i : Int).tmod 2 = tm at *
        generalize IntKind.u8.wrap (i : Int) = ub at *
        have S0 := hid (SS.new M5.out)
        have HXI : Hid (∀ (k : Nat) (hk : k < l1.length) (wz : World), Below w.heap.size w wz → wz.cell? ⟨b0, o0 + k, none⟩ = some (.int .i64 l1[k]) ∧ b0 < wz.heap.size) := hid (fun k hk wz hb => by
          obtain ⟨b, o, e, h1, h2⟩ := HX1.out k hk
          cases e
          exact ⟨(hb.cell (p := ⟨b0, o0 + k, none⟩) h1).trans h2, Nat.lt_of_lt_of_le h1 hb.size⟩)
        clear HKN HPU J0 J1 J2 MB hcv HPC HWF M5 HS HK
        have HL20 := HL.out.2
        have HIL := hid hlt1
        go_wp2_with fail
        generalize w5.alloc (.cells #[] tI) = w6 at *
        go_loopw [7, 8] (fun sv kv ws => ∃ (j : Nat) (kI : Int) (U : List Int), kv = .int .i64 kI ∧ kI = (i : Int) - (j : Int) ∧ j ≤ i + 1 ∧ Hid (SS w.heap.size w w5 c L l5 sv U ws) ∧ Hid (U = nd ((backP l1 i).take j)) ∧ Hid (U.length ≤ L)) (fun _ kv _ => (intOf kv + 1).toNat)
        case atStart => exact ⟨0, (i : Int), [], rfl, by omega, Nat.zero_le _, S0, hid rfl, hid (Nat.zero_le _)⟩
        case round =>
          obtain ⟨j, kI, U, rfl, hkI, hj, HSS, HU, HUL⟩ := hrel
          clear S0
          obtain ⟨aoU, capU, rfl, hcU⟩ := HSS.out.cells
          have HCU : Hid (∀ wz n, U.length = n → SS w.heap.size w w5 c L l5 (.slice aoU n capU) U wz → ∀ k (_hk : k < U.length), ∃ g, aoU = some ⟨g, 0, none⟩ ∧ g < wz.heap.size ∧ wz.cell? ⟨g, k, none⟩ = some (.int .i64 U[k])) := hid (fun wz n hn h => by
            subst hn
            obtain ⟨ao, cap, e, hx⟩ := h.cells
            cases e
            exact hx)
          obtain ⟨nU, hnU⟩ : ∃ z, U.length = z := ⟨_, rfl⟩
          have HNU := hid hnU
          have hnL : nU ≤ L := by rw [← hnU]; exact HUL.out
          rw [hnU] at HSS ⊢
          clear hcU hnU
          by_cases hgo : j ≤ i ∧ nU < L
          · obtain ⟨hji, hul⟩ := hgo
            obtain ⟨kk, hkk⟩ : ∃ kk : Nat, kI = (kk : Int) := ⟨i - j, by omega⟩
            subst hkk
            have hk1 : kk < l1.length := by omega
            have HPX := hid (HXI.out kk hk1)
            have HPJ : Hid ((backP l1 i)[j]? = some l1[kk]) := hid (by
              rw [backP_at HIL.out hji]
              have : i - j = kk := by omega
              simp only [this])
            generalize l1[kk] = y at *
            have hge : ¬ (kk : Int) < 0 := by omega
            have hul2 : (nU : Int) < (L : Int) := by omega
            have HKI := hid hkI
            have hk2 : (kk : Int) < (l1.length : Int) := by omega
            have hk3 : kk ≤ 300 := by omega
            clear hk1 hkI
            go_wp2_with fail
            go_loopw [9, 10] (fun bv mv ws => ∃ m : Nat, m ≤ nU ∧ mv = .int .i64 (m : Int) ∧ bv = .bool (decide (y ∈ U.take m)) ∧ Hid (SS w.heap.size w w5 c L l5 (.slice aoU nU capU) U ws)) (fun _ mv _ => nU - (intOf mv).toNat)
            case atStart => exact ⟨0, Nat.zero_le _, rfl, by simp, HSS⟩
            case round =>
              obtain ⟨m, hm, rfl, rfl, HSS⟩ := hrel
              by_cases hmu : m < nU
              · have hmu1 : (m : Int) < (nU : Int) := by omega
                have hml : m < U.length := by rw [HNU.out]; exact hmu
                obtain ⟨gU, rfl, hgU, y0⟩ := HCU.out _ _ HNU.out HSS.out m hml
                obtain ⟨z0, hlz⟩ := HPX.out _ HSS.out.bel
                have HMN := hid (mem_next hml y)
                have HSD := hid (fun q => HSS.out.on (w' := wr.drewN q) ⟨rfl, rfl, rfl, Nat.le_refl _, fun _ _ => rfl⟩)
                generalize U[m] = t0 at *
                cases hb : decide (y ∈ U.take m) with
                | true =>
                  rw [hb, Bool.true_or] at HMN
                  clear hb hml
                  go_upto_region 17 with fail
                  go_quiet (fail)
                  go_wp2
                  go_roundw
                  case rel => exact ⟨m + 1, by omega, by go_num, by rw [HMN.out], hid (HSD.out _)⟩
                  case measure => simp [intOf]; omega
                | false =>
                  rw [hb, Bool.false_or] at HMN
                  clear hb hml
                  go_upto_region 17 with fail
                  go_quiet (fail)
                  go_wp2
                  go_roundw
                  case rel => exact ⟨m + 1, by omega, by go_num, by rw [HMN.out], hid (HSD.out _)⟩
                  case measure => simp [intOf]; omega
              · have hmu1 : ¬ (m : Int) < (nU : Int) := by omega
                have hmt : U.take m = U := List.take_of_length_le (by rw [HNU.out]; omega)
                rw [hmt]
                clear hmt
                cases hb : decide (y ∈ U) with
                | true =>
                  have HWN : Hid (U = nd ((backP l1 i).take (j + 1))) := by
                    rw [way_next HPJ.out, ← HU.out, if_pos (by simpa using hb)]
                    exact hid rfl
                  clear hb
                  go_wp2
                  go_roundw
                  case rel => exact ⟨j + 1, (kk : Int) - 1, U, by go_num, by have := HKI.out; omega, by omega, HSS, HWN, HUL⟩
                  case measure => first | (simp [intOf]; done) | (simp [intOf]; omega)
                | false =>
                  have HWN : Hid (U ++ [y] = nd ((backP l1 i).take (j + 1))) := by
                    rw [way_next HPJ.out, ← HU.out, if_neg (by simpa using hb)]
                    exact hid rfl
                  have HUL2 : Hid ((U ++ [y]).length ≤ L) := hid (by rw [List.length_append, List.length_singleton, HNU.out]; omega)
                  obtain ⟨v9, w9, hr9, h9⟩ := HSS.out.push y (by rw [HNU.out]; omega)
                  obtain ⟨ao9, cap9, hv9, -⟩ := Mem.row_shape h9.row
                  subst hv9
                  rw [List.length_append, List.length_singleton] at hr9 h9
                  have HR9 := hid hr9
                  have S9 := hid h9
                  obtain ⟨z0, hlz⟩ := HPX.out _ HSS.out.bel
                  clear hb hr9 h9
                  go_wp2_with (at_builtin; refine wpList_append_run rfl (.tmp 78) (.tmp 83) tIs tIs rfl _ _ (by simp [Act.eval]) (by simp [Act.eval]) HR9.out ?_)
                  go_roundw
                  case rel => exact ⟨j + 1, (kk : Int) - 1, U ++ [y], by go_num, by have := HKI.out; omega, by omega, S9, HWN, HUL2⟩
                  case measure => first | (simp [intOf]; done) | (simp [intOf]; omega)
          · have HWE : Hid (nU = l5.length) := hid (by
              rw [HK5.out.2.len, ← HNU.out, HU.out]
              refine way_end (by rw [← HU.out]; exact HUL.out) ?_
              rw [backP_len HIL.out, ← HU.out, HNU.out]
              omega)
            have HLN := hid (HSS.out.mine.len)
            rw [← HWE.out] at HLN
            have HM2 := hid (HSS.out.mine)
            have hstop : kI < 0 ∨ (¬ kI < 0 ∧ ¬ ((nU : Int) < (L : Int))) := by omega
            clear hkI hgo
            rcases hstop with hs1 | ⟨hs1, hs2⟩
            all_goals
              go_wp2_with fail
              refine HLN.out.mono ?_
              rintro e w9 ⟨rfl, rfl⟩
              go_wp2
              go_roundw
              case rel => exact ⟨i + 1, l5, by omega, by omega, by go_num, HM2, hid HK5.out.1⟩
              case measure => simp [intOf]; omega
      · have hstop : ¬ ((i : Int) < (l1.length : Int)) ∨ (((i : Int) < (l1.length : Int)) ∧ ¬ ((i : Int) < 300)) := by
          by_cases h1' : i < l1.length
          · exact Or.inr ⟨by omega, fun h2' => hlt ⟨h1', by omega⟩⟩
          · exact Or.inl (by omega)
        have HBE := hid HS.out.2.1
        clear hlt
        rcases hstop with hs1 | ⟨hs1, hs2⟩
        all_goals
          go_wp2_with fail
          go_meet
          case rel => exact HBE
  case rest =>
    clear M0 K0
    go_wp2_with fail
    refine (get_nil _ _).mono ?_
    rintro e w3 ⟨rfl, rfl⟩
    go_wp2_with fail
    refine (put_nil _ _ _ _).mono ?_
    rintro e w3 ⟨rfl, rfl⟩
    go_wp2_with fail
    refine (len_nil _).mono ?_
    rintro e w3 ⟨rfl, rfl⟩
    go_wp2_with fail
    refine (dirty_nil _).mono ?_
    rintro e w3 ⟨rfl, rfl⟩
    go_wp2
    go_ret
    exact ⟨rfl, hcut.out⟩
end cacheLast
end Go.Proofs.Ythciofgkdfideaa
