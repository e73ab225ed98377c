/-
  CacheLoses: the walk of the statement.
-/
import Derived.Test.YthciofgkdfideaaCacheLosesL
import Derived.Deep.CutBlock
namespace Go.Proofs.Ythciofgkdfideaa
open Go.RowKit
namespace cacheLoses
open Ca
open Num (hid)
open Mem (Bs bs tI tS Chg Row ptr LAt blk_cell blk_free blk_new blk_set blk_other blk_alloc wpList_append_run)
theorem ints_ways {w : World} {x : Value} {l : List Int} (h : LAt 1 iV w x l) : ∃ ao cap, x = .slice ao l.length cap ∧ l.length ≤ maxLen ∧ ∀ j (hj : j < l.length), ∃ b o, ao = some ⟨b, o, none⟩ ∧ b < w.heap.size ∧ w.cell? ⟨b, o + j, none⟩ = some (.int .i64 l[j]) := by
  obtain ⟨ao, cap, h1, h2, -, h4⟩ := h.ways
  refine ⟨ao, cap, h1, h2, fun j hj => ?_⟩
  obtain ⟨b, o, e1, e2, e3⟩ := h4 j hj
  have := e3 0 Nat.one_pos
  rw [Nat.mul_one] at this
  exact ⟨b, o, e1, e2, this⟩
/-- What a Get's answer says of what was put last. -/
theorem read_ways {size : Nat} {l : Ca.Row} {S A : List Pg} {i : Nat} (k : Kept size l S A i) (y : Int) : foundM y l = (zeroO, false) ∨ ∃ x : One, foundM y l = (x, true) ∧ ∃ (j : Nat) (hj : j < A.length), placeM y A = (j : Int) ∧ A[j].2 = x.d := by
  unfold foundM
  cases hg : get? y l with
  | none => exact Or.inl rfl
  | some x =>
    have hm := k.lo.read hg
    obtain ⟨j, p', e1, e2, e3⟩ := place_at (mem_keysP hm : (y, x.d).1 ∈ keysP A)
    have hj := (List.getElem?_eq_some_iff.1 e2).1
    have hp : A[j] = p' := (List.getElem?_eq_some_iff.1 e2).2
    have hq : p' = (y, x.d) := two_eq k.lo.nd (List.mem_of_getElem? e2) hm e3
    exact Or.inr ⟨x, rfl, j, hj, e1, by rw [hp, hq]⟩
theorem sof_next {T : List Pg} {k : Nat} (hk : k < T.length) (n : Int) : sof n (T.take (k + 1)) = if T[k].1 = n then some T[k].2 else sof n (T.take k) := by
  rw [List.take_add_one, List.getElem?_eq_getElem hk]
  exact sof_snoc n _ _
theorem fin_len {a0 : Int} {size n : Nat} (hs : clamp a0 = size) (hl : n ≤ size) : (n : Int) ≤ 256 ∧ ((n : Int) ≤ a0 ∨ (¬ (n : Int) ≤ a0 ∧ (n : Int) ≤ 1)) := by
  have := clamp_low a0
  by_cases h : (n : Int) ≤ a0
  · exact ⟨by omega, Or.inl h⟩
  · refine ⟨by omega, Or.inr ⟨h, ?_⟩⟩
    unfold clamp at hs
    split at hs
    · omega
    · split at hs <;> omega
set_option maxRecDepth 100000 in
set_option maxHeartbeats 4000000 in
theorem walk (a0 : Int) (v1 : Value) (l1 : List Pg) (v2 : Value) (l2 : List Int) (w : World) (h1 : PL w v1 l1) (f1 : ∀ a ∈ l1, FitP a) (h2 : LAt 1 iV w v2 l2) (f2 : ∀ a ∈ l2, Wf a) :
    Calls Try.prog 4 #[.int .i64 a0, v1, v2] w fun e w' => e = .returned (.bool true) ∧ Below w.heap.size w w' := by
  obtain ⟨ao1, cap1, rfl, hm1, hx1⟩ := h1.cells
  obtain ⟨ao2, cap2, rfl, hm2, hx2⟩ := ints_ways h2
  have HX1 := hid hx1
  have HX2 := hid hx2
  have HM := hid (And.intro hm1 hm2)
  have HF1 := hid f1
  have HF2 := hid f2
  clear hm1 hm2 hx1 hx2 h1 h2 f1 f2
  go_enter Try.func4, Try.ntmps4
  go_wp2_with fail
  refine (awake_any w).mono ?_
  rintro e w1 ⟨rfl, hb1⟩
  have HB1 := hid hb1
  clear hb1
  go_wp2_with fail
  refine (new_any a0 w1).mono ?_
  rintro e w2 ⟨c, rfl, hc, hca, hb2⟩
  have L0 := hid (LS.new (HB1.out.trans (hb2.mono HB1.out.size)) (hca.mono (fun g _ e => (Nat.le_trans HB1.out.size e : w.heap.size ≤ g))))
  obtain ⟨size, hsz⟩ : ∃ x, clamp a0 = x := ⟨_, rfl⟩
  have HSZ := hid hsz
  rw [hsz] at L0
  clear hc hca hb2 HB1 hsz
  have K0 : Hid (Kept size [] [] [] 0) := hid ⟨Loses.nil size, fun _ h => (by cases h), Nat.le_refl _, Nat.le_refl _⟩
  go_upto_region 6 with fail
  have e1 : (w2.alloc (.cells #[] tP)).heap.size = w2.heap.size + 1 := by simp
  generalize hw3 : (w2.alloc (.cells #[] tP)).alloc (.cells #[] tP) = w3 at *
  generalize w2.heap.size = g2 at *
  clear hw3
  go_upto_block 0 with fail
  go_cut [8, 9] from 25 to 105 (fun vs vl wc => ∃ l S A, Hid (LS w c size l vs vl S A wc) ∧ Hid (Kept size l S A 300))
  case first =>
    go_wp2_with fail
    go_loopw [8, 9, 10] (fun vs vl iv wr => ∃ (i : Nat) (l : Row) (S A : List Pg), i ≤ l1.length ∧ i ≤ 300 ∧ iv = .int .i64 (i : Int) ∧ Hid (LS w c size l vs vl S A wr) ∧ Hid (Kept size l S A i)) (fun _ _ iv _ => 300 - (intOf iv).toNat)
    case atStart => exact ⟨0, [], [], [], Nat.zero_le _, Nat.zero_le _, rfl, L0, K0⟩
    case round =>
      obtain ⟨i, l, S, A, hi1, hi2, rfl, HS, HK⟩ := hrel
      clear L0 K0
      by_cases hlt : i < l1.length ∧ i < 300
      · obtain ⟨hlt1, hlt2⟩ := hlt
        have hle1 : (i : Int) < (l1.length : Int) := by omega
        have hle2 : (i : Int) < 300 := by omega
        obtain ⟨b0, o0, rfl, hb0, x0, x1⟩ := HX1.out i hlt1
        have HFP := hid (HF1.out l1[i] (List.getElem_mem hlt1))
        have HP0 := hid (And.intro hb0 (And.intro x0 x1))
        have HPC := hid (fun (wz : World) (hb : Below w.heap.size w wz) => And.intro ((hb.cell (p := ⟨b0, o0 + i * 2, none⟩) hb0).trans x0) (And.intro ((hb.cell (p := ⟨b0, o0 + i * 2 + 1, none⟩) hb0).trans x1) (Nat.lt_of_lt_of_le hb0 hb.size)))
        have HKP := hid (HK.out.put (by have := (clamp_low a0).1; rw [HSZ.out] at this; exact this) HFP.out)
        have HPU := hid ((HS.out.on (Below.refl wr.heap.size wr).drew).put HK.out.lo.ok.nd (by have := HK.out.lo.ok.le; have := (clamp_low a0).2; rw [HSZ.out] at this; omega) HFP.out.1 (reach_fits HFP.out.2))
        have HSL := hid (And.intro HK.out.sl HK.out.al)
        obtain ⟨p0, hp0⟩ : ∃ x, l1[i] = x := ⟨_, rfl⟩
        rw [hp0] at HFP HPC HKP HPU
        obtain ⟨q0, q1⟩ := p0
        dsimp only at HPC HKP HPU
        clear x0 x1 hp0 HP0
        go_upto_region 9 with fail
        have J0 := hid (HPC.out wr.drew HS.out.bel.drew)
        go_region_held3 (fun W => W.cell? ⟨b0, o0 + i * 2, none⟩ = some (.int .i64 q0) ∧ W.cell? ⟨b0, o0 + i * 2 + 1, none⟩ = some (.string (bs q1)))
          (first | with_reducible exact ⟨J0.out.1, J0.out.2.1⟩ | with_reducible exact ⟨J1.out.1, J1.out.2.1⟩)
          (first
            | go_at_call 12; refine HPU.out.mono ?_; rintro e w5 ⟨vp, rfl, ho, hk⟩; have L5 := hid hk; have J1 := hid (HPC.out w5 hk.bel); have HO := hid ho; clear hk ho)
        obtain ⟨v6, w6, hr6, h6⟩ := L5.out.more HO.out (by have := HKP.out.sl; rw [List.length_append] at this; omega)
        have L6 := hid h6
        have HR6 := hid hr6
        have HPL := hid (place_any (L6.out.last_at (by have := HSL.out.2; omega)) q0)
        obtain ⟨x0, x1, hlb⟩ := HPC.out w6 L6.out.bel
        clear hr6 h6 J0 J1 HO L5 HPU
        go_wp2_with (at_builtin; refine wpList_append_run rfl (.tmp 47) (.tmp 48) tPs tPs rfl _ _ (by simp [Act.eval]) (by simp [Act.eval]) HR6.out ?_)
        refine HPL.out.mono ?_
        rintro e w7 ⟨rfl, rfl⟩
        have HIN : Hid ((q0 ∉ keysP A ∧ placeM q0 A = -1 ∧ lastS q0 q1 A = A ++ [(q0, q1)]) ∨ ∃ k : Nat, ∃ hk : k < A.length, placeM q0 A = (k : Int) ∧ lastS q0 q1 A = A.set k (q0, q1)) := by
          by_cases hin : q0 ∈ keysP A
          · obtain ⟨k, p', e1, e2, e3⟩ := place_at hin
            have hk := (List.getElem?_eq_some_iff.1 e2).1
            exact hid (Or.inr ⟨k, hk, e1, lastS_set HK.out.lo.nd e2 e3⟩)
          · exact hid (Or.inl ⟨hin, place_miss hin, lastS_new hin q1⟩)
        generalize placeM q0 A = pk at *
        have HAL : Hid (A.length ≤ 300) := hid (by have := HSL.out.2; omega)
        go_upto_if 58 with fail
        go_cut [9] from 59 to 72 (fun vl wx => Hid (LS w c size (putM size q0 q1 true l) v6 vl (S ++ outM size q0 q1 true l) (lastS q0 q1 A) wx))
        case first =>
          rcases HIN.out with ⟨-, rfl, e⟩ | ⟨k, hk, rfl, e⟩
          · obtain ⟨v8, w8, hr8, h8⟩ := L6.out.push (q0, q1) (by have := HAL.out; omega)
            rw [← e] at h8
            have HR8 := hid hr8
            have L8 := hid h8
            clear hr8 h8 e
            go_wp2_with (at_builtin; refine wpList_append_run rfl (.tmp 59) (.tmp 64) tPs tPs rfl _ _ (by simp [Act.eval]) (by simp [Act.eval]) HR8.out ?_)
            go_meet
            exact L8
          · obtain ⟨g, cap, hv, hg, y0, y1, fz0, fz1, h8⟩ := L6.out.set (q0, q1) hk
            rw [← e] at h8
            have L8 := hid h8
            have hkA : (k : Int) < (A.length : Int) := by omega
            have hk0 : ¬ (k : Int) < 0 := by omega
            generalize A[k].1 = y2 at *
            generalize A[k].2 = y3 at *
            obtain ⟨nA, hnA⟩ : ∃ x, A.length = x := ⟨_, rfl⟩
            rw [hnA] at hv hkA
            subst hv
            clear h8 e hnA hk
            go_wp2_with fail
            go_meet
            exact L8
        case rest =>
          clear x0 x1 hlb L6 HIN HPL HR6 HPC
          generalize putM size q0 q1 true l = l5 at *
          generalize S ++ outM size q0 q1 true l = S5 at *
          generalize lastS q0 q1 A = A5 at *
          by_cases hr : i < l2.length
          · have hr2 : (i : Int) < (l2.length : Int) := by omega
            obtain ⟨b2, o2, rfl, hb2, y0⟩ := HX2.out i hr
            have HY := hid (HF2.out l2[i] (List.getElem_mem hr))
            have HK2 := hid (HKP.out.get l2[i])
            have hlen5 : A5.length ≤ 301 := by have := HKP.out.al; omega
            have HG := hid (hcut.out.get HKP.out.lo.ok.nd HKP.out.fits HY.out)
            have HW := hid (read_ways HKP.out l2[i])
            have z0 := (hcut.out.bel.cell (p := ⟨b2, o2 + i, none⟩) hb2).trans y0
            have hlz := Nat.lt_of_lt_of_le hb2 hcut.out.bel.size
            have HB2 := hid (fun (wz : World) (hb : Below w.heap.size w wz) => And.intro ((hb.cell (p := ⟨b2, o2 + i, none⟩) hb2).trans y0) (Nat.lt_of_lt_of_le hb2 hb.size))
            generalize l2[i] = y at *
            clear y0 hb2
            rcases HW.out with e | ⟨x, e, j, hj, e2, e3⟩
            · rw [e] at HG
              dsimp only [zeroO] at HG
              rw [show bs [] = ⟨#[]⟩ from rfl] at HG
              clear e
              go_wp2_with fail
              refine HG.out.mono ?_
              rintro e w9 ⟨rfl, h9⟩
              have L9 := hid h9
              obtain ⟨z0, hlz⟩ := HB2.out w9 h9.bel
              have HPL := hid (place_any (h9.last_at (by omega)) y)
              generalize placeM y A5 = pk2 at *
              clear h9
              go_wp2_with fail
              refine HPL.out.mono ?_
              rintro e w10 ⟨rfl, rfl⟩
              go_wp2
              go_roundw
              case rel => exact ⟨i + 1, _, S5, A5, by omega, by omega, by go_num, L9, HK2⟩
              case measure => simp [intOf]; omega
            · rw [e] at HG
              dsimp only at HG
              clear e
              go_wp2_with fail
              refine HG.out.mono ?_
              rintro e w9 ⟨rfl, h9⟩
              have L9 := hid h9
              obtain ⟨z0, hlz⟩ := HB2.out w9 h9.bel
              have HPL := hid (place_any (h9.last_at (by omega)) y)
              obtain ⟨aoA, capA, hvA, -, hcA⟩ := (h9.last_at (by omega)).cells
              obtain ⟨bA, oA, rfl, hbA, -, t1⟩ := hcA j hj
              rw [e3] at t1
              rw [e2] at HPL
              have hjA : (j : Int) < (A5.length : Int) := by omega
              have hj0 : ¬ (j : Int) < 0 := by omega
              obtain ⟨nA, hnA⟩ : ∃ x, A5.length = x := ⟨_, rfl⟩
              rw [hnA] at hvA hjA
              generalize x.d = xd at *
              subst hvA
              clear h9 hcA e2 e3 hj hnA hlen5
              go_wp2_with fail
              refine HPL.out.mono ?_
              rintro e w10 ⟨rfl, rfl⟩
              go_wp2
              go_roundw
              case rel => exact ⟨i + 1, _, S5, A5, by omega, by omega, by go_num, L9, HK2⟩
              case measure => simp [intOf]; omega
          · have hr2 : ¬ (i : Int) < (l2.length : Int) := by omega
            go_wp2
            go_roundw
            case rel => exact ⟨i + 1, l5, S5, A5, by omega, by omega, by go_num, hcut, HKP⟩
            case measure => simp [intOf]; omega
      · have hstop : ¬ ((i : Int) < (l1.length : Int)) ∨ (((i : Int) < (l1.length : Int)) ∧ ¬ ((i : Int) < 300)) := by
          by_cases h1' : i < l1.length
          · exact Or.inr ⟨by omega, fun h2' => hlt ⟨h1', by omega⟩⟩
          · exact Or.inl (by omega)
        have HKE : Hid (Kept size l S A 300) := hid ⟨HK.out.lo, HK.out.fit, by have := HK.out.sl; omega, by have := HK.out.al; omega⟩
        clear hlt
        rcases hstop with hs1 | ⟨hs1, hs2⟩
        all_goals
          go_wp2_with fail
          go_meet
          case rel => exact ⟨l, S, A, HS, HKE⟩
  case rest =>
    clear L0 K0
    obtain ⟨l, S, A, HS, HK⟩ := hcut
    have HDI := hid (HS.out.dirty HK.out.lo.ok.nd (by have := HK.out.lo.ok.le; have := (clamp_low a0).2; rw [HSZ.out] at this; omega) HK.out.fits)
    have HDL : Hid ((dirtyM l).length ≤ 300) := hid (by
      have h1 := dirty_len l
      have := HK.out.lo.ok.le; have := (clamp_low a0).2; rw [HSZ.out] at this; omega)
    have HFIN := hid (fun p (hp : p ∈ A) => HK.out.lo.fin hp)
    have HLEN := hid (fin_len HSZ.out HK.out.lo.ok.le)
    have HTL : Hid ((S ++ dirtyM l).length ≤ 600 ∧ A.length ≤ 300) := hid ⟨by rw [List.length_append]; have := HK.out.sl; have := HDL.out; omega, HK.out.al⟩
    go_wp2_with fail
    refine HDI.out.mono ?_
    rintro e w4 ⟨vd, rfl, hd, h4⟩
    obtain ⟨v5, w5, hr5, h5⟩ := h4.more hd (by have := HTL.out.1; rw [List.length_append] at this; omega)
    have L5 := hid h5
    have HR5 := hid hr5
    clear hd h4 hr5 h5 HDI HDL HK HS
    generalize S ++ dirtyM l = T at *
    obtain ⟨nA, hnA⟩ : ∃ x, A.length = x := ⟨_, rfl⟩
    obtain ⟨nT, hnT⟩ : ∃ x, T.length = x := ⟨_, rfl⟩
    have HNA := hid hnA
    have HNT := hid hnT
    have hnA3 : nA ≤ 300 := by have := HTL.out.2; omega
    have hnT3 : nT ≤ 600 := by have := HTL.out.1; omega
    obtain ⟨aoT, capT, hvT, -⟩ := (L5.out.store_at (by have := HTL.out.1; omega)).cells
    obtain ⟨aoA, capA, hvA, -⟩ := (L5.out.last_at (by have := HTL.out.2; omega)).cells
    rw [hnT] at hvT
    rw [hnA] at hvA
    subst hvT hvA
    clear hnA hnT
    go_wp2_with (at_builtin; refine wpList_append_run rfl (.tmp 106) (.tmp 108) tPs tPs rfl _ _ (by simp [Act.eval]) (by simp [Act.eval]) HR5.out ?_)
    go_loopw [15] (fun iv wr => ∃ i : Nat, i ≤ nA ∧ iv = .int .i64 (i : Int) ∧ Hid (LS w c size l (.slice aoT nT capT) (.slice aoA nA capA) T A wr)) (fun iv _ => nA - (intOf iv).toNat)
    case atStart => exact ⟨0, Nat.zero_le _, rfl, L5⟩
    case round =>
      obtain ⟨i, hi, rfl, HS⟩ := hrel
      clear L5
      by_cases hlt : i < nA
      · have hiA : i < A.length := by rw [HNA.out]; exact hlt
        have hlt1 : (i : Int) < (nA : Int) := by omega
        have HFI := hid (HFIN.out A[i] (List.getElem_mem hiA))
        have HIA := hid hiA
        have S0 : Hid (sof A[i].1 (T.take 0) = none) := hid rfl
        have HEI : Hid (A[i].1 = A[i].1 ∧ A[i].2 = A[i].2) := hid ⟨rfl, rfl⟩
        have HC : Hid (∀ wz, LS w c size l (.slice aoT nT capT) (.slice aoA nA capA) T A wz → ∃ b o, aoA = some ⟨b, o, none⟩ ∧ b < wz.heap.size ∧ wz.cell? ⟨b, o + i * 2, none⟩ = some (.int .i64 A[i].1) ∧ wz.cell? ⟨b, o + i * 2 + 1, none⟩ = some (.string (bs A[i].2))) := hid (fun wz h => by
          obtain ⟨ao, cap, hv, -, hx⟩ := (h.last_at (by have := HTL.out.2; omega)).cells
          obtain ⟨b, o, e1, e2, e3, e4⟩ := hx i hiA
          cases hv
          exact ⟨b, o, e1, e2, e3, e4⟩)
        generalize A[i].1 = n at *
        generalize A[i].2 = d at *
        clear hiA
        go_wp2_with fail
        go_loopw [16, 17, 18] (fun fv bv kv ws => ∃ k : Nat, k ≤ nT ∧ kv = .int .i64 (k : Int) ∧ fv = .string (bs ((sof n (T.take k)).getD [])) ∧ bv = .bool (sof n (T.take k)).isSome ∧ Hid (LS w c size l (.slice aoT nT capT) (.slice aoA nA capA) T A ws)) (fun _ _ kv _ => nT - (intOf kv).toNat)
        case atStart => exact ⟨0, Nat.zero_le _, rfl, by rw [S0.out]; rfl, by rw [S0.out]; rfl, HS⟩
        case round =>
          obtain ⟨k, hk, rfl, rfl, rfl, HL⟩ := hrel
          clear HS
          obtain ⟨bA, oA, rfl, hbA, y0, y1⟩ := HC.out _ HL.out
          by_cases hkT : k < nT
          · have hkT1 : (k : Int) < (nT : Int) := by omega
            have hkl : k < T.length := by rw [HNT.out]; exact hkT
            have HSN := hid (sof_next hkl n)
            obtain ⟨ao, cap, hv, -, hx⟩ := (HL.out.store_at (by have := HTL.out.1; omega)).cells
            obtain ⟨bT, oT, e1, hbT, x0, x1⟩ := hx k hkl
            rw [HNT.out] at hv
            cases hv
            cases e1
            have HLD := hid (HL.out.on (Below.refl wr.heap.size wr).drew)
            by_cases he : T[k].1 = n
            · rw [if_pos he] at HSN
              have hee : (T[k].1 == n) = true := by simpa using he
              generalize T[k].1 = t0 at *
              generalize T[k].2 = t1 at *
              clear hx hkl he
              go_upto_region 29 with fail
              go_region
              go_wp2
              go_roundw
              case rel => exact ⟨k + 1, by omega, by go_num, by rw [HSN.out]; rfl, by rw [HSN.out]; rfl, HLD⟩
              case measure => simp [intOf]; omega
            · rw [if_neg he] at HSN
              have hee : (T[k].1 == n) = false := by simpa using he
              generalize T[k].1 = t0 at *
              generalize T[k].2 = t1 at *
              clear hx hkl he
              go_upto_region 29 with fail
              go_region
              go_wp2
              go_roundw
              case rel => exact ⟨k + 1, by omega, by go_num, by rw [HSN.out], by rw [HSN.out], HLD⟩
              case measure => simp [intOf]; omega
          · have hkT1 : ¬ (k : Int) < (nT : Int) := by omega
            have hke : sof n (T.take k) = some d := by
              rw [List.take_of_length_le (by rw [HNT.out]; omega)]
              exact HFI.out
            rw [hke]
            dsimp only [Option.getD_some, Option.isSome_some]
            clear hke
            go_wp2
            go_roundw
            case rel => exact ⟨i + 1, by omega, by go_num, HL⟩
            case measure => simp [intOf]; omega
      · have hlt1 : ¬ (i : Int) < (nA : Int) := by omega
        have HLN := hid HS.out.len
        obtain ⟨h256, hway⟩ := HLEN.out
        have HBEL := hid HS.out.bel
        generalize List.length l = nl at *
        clear HS
        rcases hway with hw1 | ⟨hw1, hw2⟩
        · go_wp2_with fail
          refine HLN.out.mono ?_
          rintro e w9 ⟨rfl, rfl⟩
          go_wp2_with fail
          refine HLN.out.mono ?_
          rintro e w9 ⟨rfl, rfl⟩
          go_wp2
          go_ret
          exact ⟨rfl, HBEL.out⟩
        · go_wp2_with fail
          refine HLN.out.mono ?_
          rintro e w9 ⟨rfl, rfl⟩
          go_wp2_with fail
          refine HLN.out.mono ?_
          rintro e w9 ⟨rfl, rfl⟩
          go_wp2_with fail
          refine HLN.out.mono ?_
          rintro e w9 ⟨rfl, rfl⟩
          go_wp2
          go_ret
          exact ⟨rfl, HBEL.out⟩
end cacheLoses
end Go.Proofs.Ythciofgkdfideaa
