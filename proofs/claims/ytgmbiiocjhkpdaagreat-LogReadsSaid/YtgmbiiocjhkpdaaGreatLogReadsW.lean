/-
  The walk of LogReads: whatever bytes stand in the file, both Opens find the same of them.
-/
import Derived.Test.YtgmbiiocjhkpdaaGreatLogTwo
import Derived.Test.YtgmbiiocjhkpdaaGreatGrpLgA
namespace Go.Proofs.YtgmbiiocjhkpdaaGreat
open Go.RowKit Go.Shelf
namespace Lt
open Lo
open Num (hid)
open Disk (Mod Fil Sees Stays)
open Mem (Bs bs LAt tI ptr blk_cell blk_free blk_new blk_set blk_other blk_alloc row_kept row_shape row_type)
open Ref (Refs RQ Good)
open Seal (full full_any full_size closeS closeE rclose_any sumOf rsum_any)
open Lr (RL lgX)
/-- A sector that came in. -/
structure SdC where
  k : Int
  n : Int
  s : Nat
  d : ByteArray
abbrev sdV (x : SdC) : List Value := [.int .i64 x.k, .int .i64 x.n, .int .u64 (x.s : Nat), .string x.d]
theorem close_ways (K N : Int) (S : Nat) (d : ByteArray) : (closeE K N d ≠ 0) ∨ (closeE K N d = 0 ∧ (d.size = 232 → (closeS K N S d).size = 256)) := by
  unfold closeE closeS
  split
  · exact Or.inr ⟨rfl, fun h => by rw [Seal.sealS_size, h]⟩
  · exact Or.inl (by decide)
theorem x_size (s : ByteArray) (h : s.size = 256) : ((⟨#[120]⟩ : ByteArray) ++ s.extract 1 s.size).size = 256 := by
  rw [ByteArray.size_append, ByteArray.size_extract, h]
  rfl
theorem cat_size (T s : ByteArray) (k : Nat) (hT : T.size = 256 * k) (hs : s.size = 256) : (T ++ s).size = 256 * (k + 1) := by
  rw [ByteArray.size_append, hT, hs]
  omega
/-- The file that is loaded: each of its places can be read. -/
theorem loaded_now (l : List UInt8) : ∀ p ∈ (Disk.loadedF l).ps, ∃ s, p.now = some s := by
  intro p hp
  obtain ⟨i, _, rfl⟩ := List.mem_map.1 (show p ∈ (List.range ((l.length + 255) / 256)).map fun i => (⟨some (Disk.fitted (l.drop (i * 256))), some (some (Disk.fitted (l.drop (i * 256)))), false⟩ : Disk.Plc) from hp)
  exact ⟨_, rfl⟩
/-- What a load leaves of a new disk: calm, the file alone, or none. -/
theorem load_dir (l : List UInt8) : Jo.Calm ((Mod.new 200).load ln l).2.c ∧ ∃ L, ((Mod.new 200).load ln l).2.fs = dir1 L := by
  unfold Disk.Mod.load
  split
  · exact ⟨new_calm 200, none, rfl⟩
  · split
    · exact ⟨new_calm 200, none, rfl⟩
    · exact ⟨new_calm 200, some (Disk.loadedF l), ins_l none _⟩
/-- A calm disk's Open succeeds. -/
theorem trim_calm {M : Mod} {G : Fil} (hf : M.fs = dir1 (some G)) (hc : Jo.Calm M.c) (st : Nat) : (trimP st M).1 = 0 := by
  have hsz : M.size ln = (G.ps.length : Int) := size_l hf
  unfold trimP
  rw [hsz]
  by_cases h1 : 0 ≤ (G.ps.length : Int) ∧ st = 0
  · rw [if_pos h1]
    exact ((does_drop hf).2 hc (by simp)).1
  · rw [if_neg h1]
    by_cases h2 : (st : Int) < (G.ps.length : Int)
    · rw [if_pos h2]
      exact ((does_cut hf st).2 hc ⟨G, rfl, by omega⟩).1
    · rw [if_neg h2]
theorem open_calm {M : Mod} {L : Option Fil} (hf : M.fs = dir1 L) (hc : Jo.Calm M.c) : (openP M).1 = 0 := by
  cases L with
  | none => rw [(open_none (l := []) hf hc rfl).1]
  | some G =>
    have hsz : M.size ln = (G.ps.length : Int) := size_l hf
    obtain ⟨M1, e1, f1, c1, r1⟩ := read_calmP G.ps.length 0 [] 0 hf hc (Nat.zero_add _)
    unfold openP
    rw [hsz, Int.toNat_natCast, e1]
    simp only
    rw [if_neg (show ¬ ((0 : Int) ≠ 0) from fun h => h rfl), trim_calm f1 c1, if_neg (show ¬ ((0 : Int) ≠ 0) from fun h => h rfl)]
/-- What both Opens find of what was loaded. -/
theorem open_both (T : List UInt8) : ∃ fs l M, openP ((Mod.new 200).load ln T).2 = (0, some fs, M) ∧ openM ((Mod.new 200).load ln T).2 = (0, some l, M) ∧ SL fs l M := by
  obtain ⟨hc, L, hf⟩ := load_dir T
  obtain ⟨e1, e2, e3, -⟩ := open_same hf
  have h0 := open_calm hf hc
  obtain ⟨fs, l, e4, e5, hS⟩ := e3 h0
  generalize openP ((Mod.new 200).load ln T).2 = P at *
  generalize openM ((Mod.new 200).load ln T).2 = Q at *
  obtain ⟨p1, p2, p3⟩ := P
  obtain ⟨q1, q2, q3⟩ := Q
  simp only at e1 e2 e4 e5 h0 hS
  subst e1
  subst e2
  subst e4
  subst e5
  subst h0
  exact ⟨fs, l, p3, rfl, rfl, hS⟩
theorem sl_same {fs : List Fr} {l : Lg} {M M' : Mod} (h : SL fs l M) (hf : M'.fs = M.fs) : SL fs l M' := by
  obtain ⟨h1, L, h2, h3⟩ := h
  exact ⟨h1, L, hf.trans h2, h3⟩
theorem get_fs (fs : List Fr) (n : Int) (M : Mod) : (getP fs n M).2.2.2.fs = M.fs := by
  unfold getP
  split
  · rfl
  · split
    · exact read_fs M _
    · split <;> exact read_fs M _
theorem pages_lt {ns : List Nat} {k : Nat} (hk : k < (pagesM ns).length) : (pagesM ns)[k] < 4096 := by
  have := List.getElem_mem hk
  unfold pagesM at this
  exact List.mem_range.1 (List.mem_filter.1 this).1
theorem pages_few (ns : List Nat) : (pagesM ns).length ≤ 4096 := by
  unfold pagesM
  have := List.length_filter_le (fun n => ns.any fun x => x == n) (List.range 4096)
  rw [List.length_range] at this
  exact this
set_option maxRecDepth 100000 in
set_option maxHeartbeats 8000000 in
theorem reads_walk (v0 : Value) (l0 : List SdC) (a1 : Bool) (a2 : Int) (w : World) (hL : LAt 4 sdV w v0 l0) (hS : ∀ x ∈ l0, x.s < 18446744073709551616) :
    Calls Tryz.prog 4 #[v0, .bool a1, .int .i64 a2] w fun e w' => e = .returned (.bool true) ∧ Below w.heap.size w w' := by
  obtain ⟨ao, cap, rfl, hlm, hlc, -⟩ := hL.ways
  have HL := hid hL
  have HS := hid hS
  obtain ⟨nl, hnl⟩ : ∃ x, l0.length = x := ⟨_, rfl⟩
  rw [hnl] at HL hlm hlc ⊢
  have HNL := hid hnl
  clear hL hS hnl
  go_enter Tryz.func4, Tryz.ntmps4
  go_wp2_with fail
  refine (awake_any w).mono ?_
  rintro e w1 ⟨rfl, hb1⟩
  have HB1 := hid hb1
  clear hb1
  go_wp2_with fail
  go_loopw [7, 8, 9] (fun tv sv iv wr => ∃ (k : Nat) (T : ByteArray) (sm : Nat), k ≤ nl ∧ k ≤ 12 ∧ tv = .string T ∧ sv = .int .u64 (sm : Nat) ∧ iv = .int .i64 k ∧ Hid (T.size = 256 * k) ∧ Hid (sm < 18446744073709551616) ∧ Hid (Below w.heap.size w wr)) (fun _ _ iv _ => nl - (intOf iv).toNat)
  case atStart => exact ⟨0, ⟨#[]⟩, 0, Nat.zero_le _, by omega, rfl, rfl, rfl, hid rfl, hid (by decide), HB1⟩
  case round =>
    obtain ⟨k, T, sm, hk, hk2, rfl, rfl, rfl, HT, HSM0, HB⟩ := hrel
    by_cases hgo : k < nl ∧ k < 12
    · obtain ⟨hlt, h12⟩ := hgo
      have HLT : Hid (k < nl ∧ k < 12) := hid ⟨hlt, h12⟩
      have hki : (k : Int) < (nl : Int) := by omega
      have hk12 : (k : Int) < 12 := by omega
      have hkc : (k : Int) < (cap : Int) := by omega
      have i1 : k < l0.length := by have := HNL.out; omega
      obtain ⟨ao', cap', hv', -, -, hq⟩ := HL.out.ways
      rw [HNL.out] at hv'
      cases hv'
      obtain ⟨b, o, rfl, hbN, hq⟩ := hq k i1
      have hs := HS.out _ (List.getElem_mem i1)
      have q : ∀ i, i < 4 → wr.cell? ⟨b, o + k * 4 + i, none⟩ = (sdV l0[k])[i]? := fun i hi => (HB.out.cell (p := ⟨b, o + k * 4 + i, none⟩) hbN).trans (hq i hi)
      generalize l0[k] = x at *
      have q0 : wr.cell? ⟨b, o + k * 4, none⟩ = some (.int .i64 x.k) := q 0 (by omega)
      have q1 : wr.cell? ⟨b, o + k * 4 + 1, none⟩ = some (.int .i64 x.n) := q 1 (by omega)
      have q2 : wr.cell? ⟨b, o + k * 4 + 2, none⟩ = some (.int .u64 (x.s : Nat)) := q 2 (by omega)
      have q3 : wr.cell? ⟨b, o + k * 4 + 3, none⟩ = some (.string x.d) := q 3 (by omega)
      have HSX := hid hs
      clear q hq i1 hs
      go_wp2_with fail
      have hq := blk_new wr (.cells #[.int .i64 x.k, .int .i64 x.n, .int .u64 (x.s : Nat), .string x.d] tSl)
      have hb2 : Below wr.heap.size wr (wr.alloc (.cells #[.int .i64 x.k, .int .i64 x.n, .int .u64 (x.s : Nat), .string x.d] tSl)) := (Below.refl _ _).alloc (Nat.le_refl _) _
      obtain ⟨w2, hw2⟩ : ∃ y, wr.alloc (.cells #[.int .i64 x.k, .int .i64 x.n, .int .u64 (x.s : Nat), .string x.d] tSl) = y := ⟨_, rfl⟩
      rw [hw2] at hq hb2 ⊢
      have HB2 : Hid (Below w.heap.size w w2) := hid (HB.out.trans (hb2.mono HB.out.size))
      clear hw2 hb2
      refine (full_any x.d w2).mono ?_
      rintro e w3 ⟨rfl, hb3⟩
      have hq3 : w3.heap[wr.heap.size]? = some (.cells #[.int .i64 x.k, .int .i64 x.n, .int .u64 (x.s : Nat), .string x.d] tSl (0, 0)) := (hb3.block _ (lt_of_block hq)).trans hq
      have HB3 : Hid (Below w.heap.size w w3) := hid (HB2.out.trans (hb3.mono HB2.out.size))
      have hfs := full_size x.d
      generalize full x.d = D at *
      have hset := blk_set hq3 3 (.string D)
      have z3 : w3.frozen? ⟨wr.heap.size, 3, none⟩ = false := blk_free hq3 3
      have c3 : w3.cell? ⟨wr.heap.size, 3, none⟩ = some (.string x.d) := blk_cell hq3 3
      have HQ4 : Hid ((w3.setCell ⟨wr.heap.size, 3, none⟩ (.string D)).heap[wr.heap.size]? = some (.cells #[.int .i64 x.k, .int .i64 x.n, .int .u64 (x.s : Nat), .string D] tSl (0, 0))) := hid (by simpa using hset)
      have HS4 : Hid (Below w.heap.size w (w3.setCell ⟨wr.heap.size, 3, none⟩ (.string D))) := hid (HB3.out.setCell HB.out.size _)
      have HFS := hid hfs
      have HWL : Hid (w.heap.size ≤ wr.heap.size) := hid HB.out.size
      clear hq hb3 hq3 HB2 hset hfs
      go_upto_if 47 with fail
      obtain ⟨w4, hw4⟩ : ∃ y, w3.setCell ⟨wr.heap.size, 3, none⟩ (.string D) = y := ⟨_, rfl⟩
      rw [hw4] at HQ4 HS4 ⊢
      clear hw4 z3 c3
      go_cut [] from 48 to 49 (fun wx => ∃ S : Nat, Hid (S < 18446744073709551616) ∧ Hid (Below w.heap.size w wx) ∧ Hid (wx.heap[wr.heap.size]? = some (.cells #[.int .i64 x.k, .int .i64 x.n, .int .u64 (S : Nat), .string D] tSl (0, 0))))
      case first =>
        cases a1 with
        | false =>
          go_wp2_with fail
          go_meet
          exact ⟨x.s, HSX, HS4, HQ4⟩
        | true =>
          have c2 := blk_cell HQ4.out 2
          have z2 := blk_free HQ4.out 2
          have hset := blk_set HQ4.out 2 (.int .u64 (sm : Nat))
          have HQ5 : Hid ((w4.setCell ⟨wr.heap.size, 2, none⟩ (.int .u64 (sm : Nat))).heap[wr.heap.size]? = some (.cells #[.int .i64 x.k, .int .i64 x.n, .int .u64 (sm : Nat), .string D] tSl (0, 0))) := hid (by simpa using hset)
          have HS5 : Hid (Below w.heap.size w (w4.setCell ⟨wr.heap.size, 2, none⟩ (.int .u64 (sm : Nat)))) := hid (HS4.out.setCell HWL.out _)
          clear hset
          go_wp2_with fail
          go_meet
          exact ⟨sm, HSM0, HS5, HQ5⟩
      case rest =>
      obtain ⟨S, HSS, HSW, HQW⟩ := hcut
      have d0 : wc.cell? ⟨wr.heap.size, 0, none⟩ = some (.int .i64 x.k) := blk_cell HQW.out 0
      have d1 : wc.cell? ⟨wr.heap.size, 1, none⟩ = some (.int .i64 x.n) := blk_cell HQW.out 1
      have d2 : wc.cell? ⟨wr.heap.size, 2, none⟩ = some (.int .u64 (S : Nat)) := blk_cell HQW.out 2
      have d3 : wc.cell? ⟨wr.heap.size, 3, none⟩ = some (.string D) := blk_cell HQW.out 3
      go_wp2_with fail
      refine (rclose_any x.k x.n S HSS.out D _).mono ?_
      rintro e w5 ⟨rfl, hb5⟩
      have HB5 : Hid (Below w.heap.size w w5) := hid (HSW.out.trans (hb5.mono HSW.out.size))
      have HCW := hid (close_ways x.k x.n S D)
      clear hb5 d0 d1 d2 d3
      generalize closeE x.k x.n D = ce at *
      generalize closeS x.k x.n S D = cs at *
      by_cases hce : ce = 0
      · have hce1 : (ce != 0) = false := by simp [hce]
        have hcs : cs.size = 256 := by
          rcases HCW.out with h | ⟨_, h⟩
          · exact absurd hce h
          · exact h HFS.out
        have hTl : T.size ≤ 2816 := by have := HT.out; omega
        have hg1 : (1 : Int) ≤ (cs.size : Int) := by rw [hcs]; decide
        have hXS := x_size cs hcs
        have hC1 := cat_size T cs k HT.out hcs
        have hC2 := cat_size T _ k HT.out hXS
        have hn1 : ¬ 9223372036854775807 < T.size + cs.size := by rw [hcs]; omega
        have hn2 : ¬ 9223372036854775807 < T.size + ((⟨#[120]⟩ : ByteArray) ++ cs.extract 1 cs.size).size := by rw [hXS]; omega
        have hn3 : ¬ 9223372036854775807 < (⟨#[120]⟩ : ByteArray).size + (cs.extract 1 cs.size).size := by rw [ByteArray.size_extract, hcs]; decide
        have HC1 := hid hC1
        have HC2 := hid hC2
        have HSU := hid (fun s w => rsum_any s w)
        have HSL := hid Seal.sumOf_lt
        clear hcs hTl hC1 hC2 hXS hce HCW
        by_cases hsp : (k : Int) = a2
        · have hsp1 : ((k : Int) == a2) = true := by simp [hsp]
          have HSP := hid hsp
          clear hsp
          go_wp2_with fail
          refine (HSU.out _ _).mono ?_
          rintro e w6 ⟨rfl, rfl⟩
          go_wp2
          go_roundw
          case rel => exact ⟨k + 1, _, _, HLT.out.1, HLT.out.2, rfl, rfl, by go_num, HC2, hid (HSL.out _), HB5⟩
          case measure => exact meas_lt' HLT.out.1
        · have hsp1 : ((k : Int) == a2) = false := by simp [hsp]
          have HSP := hid hsp
          clear hsp
          go_wp2_with fail
          refine (HSU.out _ _).mono ?_
          rintro e w6 ⟨rfl, rfl⟩
          go_wp2
          go_roundw
          case rel => exact ⟨k + 1, _, _, HLT.out.1, HLT.out.2, rfl, rfl, by go_num, HC1, hid (HSL.out _), HB5⟩
          case measure => exact meas_lt' HLT.out.1
      · have hce1 : (ce != 0) = true := by simp [hce]
        clear hce HCW
        go_wp2
        go_ret
        exact ⟨rfl, HB5.out⟩
    · have hno : ¬ ((k : Int) < (nl : Int)) ∨ ((k : Int) < (nl : Int) ∧ ¬ ((k : Int) < 12)) := by omega
      have hTs : T.size ≤ 3072 := by have := HT.out; omega
      have hTm : T.size ≤ maxLen := Nat.le_trans hTs (by decide)
      have HTM := hid hTm
      clear hTs hTm hgo
      obtain ⟨w5, hw5⟩ : ∃ x, x = wr := ⟨_, rfl⟩
      subst hw5
      go_upto_region 6 with fail
      go_cut [36] (fun cv wx => cv = .bool false ∧ wx = w5)
      case first =>
        rcases hno with hno | ⟨hno1, hno2⟩
        all_goals
          go_wp2_with fail
          go_meet
          exact ⟨rfl, rfl⟩
      case rest =>
      obtain ⟨rfl, rfl⟩ := hcut
      clear hno
      go_wp2_with fail
      refine (new_sees 200 wc).mono ?_
      rintro e w6 ⟨d, m, rfl, h6, hb6⟩
      have H6 := hid h6
      have HB6 := hid hb6
      clear h6 hb6
      go_wp2_with fail
      refine (Ref.rnew_any 200 w6).mono ?_
      rintro e w7 ⟨rfl, h7, hb7⟩
      have H7 := hid (two_new HB.out H6.out HB6.out h7 hb7 (Ref.Sees.good H6.out))
      clear h7 hb7 H6 HB6
      obtain ⟨r, hr⟩ : ∃ x, w6.heap.size = x := ⟨_, rfl⟩
      rw [hr] at H7 ⊢
      clear hr
      obtain ⟨fs, l, M2, ho1, ho2, hSL⟩ := open_both T.data.toList
      have HSL := hid hSL
      clear hSL
      generalize Mod.new 200 = M0 at *
      go_wp2_with fail
      refine (two_load H7.out T HTM.out).mono ?_
      rintro e w8 ⟨rfl, h8⟩
      have H8 := hid h8
      clear h8
      generalize (M0.load ln T.data.toList).1 = le at *
      go_wp2_with fail
      refine (two_rload H8.out T HTM.out).mono ?_
      rintro e w9 ⟨rfl, h9⟩
      have H9 := hid h9
      clear h9 H8 H7
      generalize (M0.load ln T.data.toList).1 = le2 at *
      generalize (M0.load ln T.data.toList).2 = M1 at *
      have HOP := hid (two_open H9.out ho1)
      have HRO : Hid (∀ j M fs w', Half w d m r j M M1 fs w' → _) := hid (fun j M fs w' (h : Half w d m r j M M1 fs w') => half_ropen h ho2)
      clear ho1 ho2
      go_wp2_with fail
      refine HOP.out.mono ?_
      rintro e w10 ⟨j, rfl, h10⟩
      have H10 := hid h10
      clear h10 HOP H9
      go_wp2_with fail
      refine (HRO.out _ _ _ _ H10.out).mono ?_
      rintro e w11 ⟨c, rfl, h11⟩
      have H11 := hid h11
      clear h11 HRO H10
      have HLS := hid (lg_size H11.out)
      have HLR := hid (lg_rsize H11.out)
      generalize M2.size ln = sz at *
      have b3 : (sz != sz) = false := by simp
      go_wp2_with fail
      refine HLS.out.mono ?_
      rintro e w12 ⟨rfl, rfl⟩
      go_wp2_with fail
      refine HLR.out.mono ?_
      rintro e w13 ⟨rfl, rfl⟩
      clear HLS HLR
      have hnl2 : l.ns.length = fs.length := by rw [HSL.out.ns, List.length_map]
      have HLN := hid (lg_len H11.out)
      have hrl := lg_rlen H11.out
      rw [hnl2] at hrl
      have HRL := hid hrl
      clear hrl hnl2
      obtain ⟨flen, hfl⟩ : ∃ x, fs.length = x := ⟨_, rfl⟩
      rw [hfl] at HLN HRL
      clear hfl
      have b4 : ((flen : Int) != (flen : Int)) = false := by simp
      go_wp2_with fail
      refine HLN.out.mono ?_
      rintro e w14 ⟨rfl, rfl⟩
      go_wp2_with fail
      refine HRL.out.mono ?_
      rintro e w15 ⟨rfl, rfl⟩
      clear HLN HRL
      obtain ⟨q, hq⟩ : ∃ q, pagesM (fs.map (·.1)) = q := ⟨_, rfl⟩
      have HPF : Hid (q.length ≤ 4096 ∧ ∀ k (hk : k < q.length), q[k] < 4096) := hid (by subst hq; exact ⟨pages_few _, fun k hk => pages_lt hk⟩)
      have HQN : Hid (pagesM l.ns = q) := hid (by rw [HSL.out.ns]; exact hq)
      have hpg := lg_pages H11.out
      rw [hq] at hpg
      have HPG := hid hpg
      clear hq hpg
      go_wp2_with fail
      refine HPG.out.mono ?_
      rintro e w16 ⟨v1, rfl, hn1, hb16⟩
      have HN1 := hid hn1
      have H16 := hid (H11.out.on hb16)
      obtain ⟨ap1, cp1, hv1, -⟩ := hn1
      clear hb16 H11 HPG
      subst hv1
      have hrp := lg_rpages H16.out
      rw [HQN.out] at hrp
      have HRP := hid hrp
      clear hrp
      go_wp2_with fail
      refine HRP.out.mono ?_
      rintro e w17 ⟨v2, rfl, hn2, hb17, -⟩
      have HN2 := hid hn2
      have HN17 := hid (HN1.out.on hb17)
      have H17 := hid (H16.out.on hb17)
      obtain ⟨ap2, cp2, hv2, -⟩ := hn2
      clear hb17 H16 HRP HN1
      subst hv2
      have HSM := hid (same14_any (by have := HPF.out.1; omega) HN17.out HN2.out)
      obtain ⟨ql, hql⟩ : ∃ x, q.length = x := ⟨_, rfl⟩
      have HQL := hid hql
      rw [hql] at HSM ⊢
      clear hql
      go_wp2_with fail
      refine HSM.out.mono ?_
      rintro e w18 ⟨rfl, hb18⟩
      have H18 := hid (H17.out.on hb18)
      clear hb18 HSM HN17 HN2 H17
      have hrp := lg_rpages H18.out
      rw [HQN.out] at hrp
      have HRP := hid hrp
      clear hrp
      go_wp2_with fail
      refine HRP.out.mono ?_
      rintro e w19 ⟨v3, rfl, hn3, hb19, ho3⟩
      have HX0 := hid (lx_start H18.out hb19)
      have HN3 := hid hn3
      have HO3 := hid ho3
      obtain ⟨ap3, cp3, hv3, -⟩ := hn3
      clear hb19 ho3 HRP
      subst hv3
      obtain ⟨X, hX⟩ : ∃ X : Nat → Prop, (fun k => w18.heap.size ≤ k ∧ k < w19.heap.size) = X := ⟨_, rfl⟩
      rw [hX] at HX0
      have HOX : Hid (∀ g, (Value.slice ap3 q.length cp3).ownBlock = some g → X g) := hid (fun g hg => by rw [← hX]; exact HO3.out g hg)
      rw [HQL.out] at HN3 HOX ⊢
      have HPL : Hid (∀ k (hk : k < ql), ∃ n : Nat, n < 4096 ∧ ∀ wx, NR wx (.slice ap3 ql cp3) q → ∃ g, ap3 = some ⟨g, 0, none⟩ ∧ (k : Int) < (cp3 : Int) ∧ wx.cell? ⟨g, k, none⟩ = some (.int .i64 (n : Nat))) := hid (fun k hk => by
        have hkq : k < q.length := by rw [HQL.out]; exact hk
        refine ⟨q[k], HPF.out.2 k hkq, fun wx hx => ?_⟩
        obtain ⟨ao', cap', e, h⟩ := hx
        cases e
        obtain ⟨g, e1, e2, -, e4⟩ := h k hkq
        exact ⟨g, e1, e2, e4⟩)
      have HI0 : Hid (∃ Mx, SL fs l Mx ∧ LX w X d m r j c Mx Mx fs l w19 ∧ NR w19 (.slice ap3 ql cp3) q) := hid ⟨M2, HSL.out, HX0.out, HN3.out⟩
      have HQM : Hid (ql ≤ 4096) := hid (by rw [← HQL.out]; exact HPF.out.1)
      clear hX HO3 HX0 HN3 H18 HSL HPF HQN HQL
      go_wp2_with fail
      go_loopw [20] (fun iv wx => ∃ k : Nat, k ≤ ql ∧ iv = .int .i64 k ∧ Hid (∃ Mx, SL fs l Mx ∧ LX w X d m r j c Mx Mx fs l wx ∧ NR wx (.slice ap3 ql cp3) q)) (fun iv _ => ql - (intOf iv).toNat)
      case atStart => exact ⟨0, Nat.zero_le _, rfl, HI0⟩
      case round =>
        obtain ⟨k, hk, rfl, HI⟩ := hrel
        obtain ⟨Mx, hsl, hlx, hnr⟩ := HI.out
        by_cases hkl : (k : Int) < (ql : Int)
        · have HKL : Hid (k < ql) := hid (by omega)
          have hkm : (k : Int) ≤ 4096 := by have := HQM.out; omega
          obtain ⟨n, hn, hcell⟩ := HPL.out k HKL.out
          obtain ⟨g, e1, hc, c0⟩ := hcell wr hnr
          cases e1
          have HCE := hid hcell
          have HN := hid hn
          have HGE := hid (lx_get hlx (n : Int) (wf_of (by omega) (by omega)))
          have hgs := get_same hsl (n : Int)
          have HFSM : Hid (SL fs l (getP fs (n : Int) Mx).2.2.2) := hid (sl_same hsl (get_fs fs _ Mx))
          have HNR := hid hnr
          clear hnr hlx hcell hn
          have HRG : Hid (∀ M' w', LX w X d m r j c M' Mx fs l w' → Calls Tryz.prog 18 #[ptr c, .int .i64 (n : Nat)] w' fun e w'' => e = .returned (.tuple #[.string (bs (getP fs (n : Int) Mx).1), .bool (getP fs (n : Int) Mx).2.1, .int .i64 (getP fs (n : Int) Mx).2.2.1]) ∧ LX w X d m r j c M' (getP fs (n : Int) Mx).2.2.2 fs l w'' ∧ Stays X w' w'') := hid (fun M' w' h => by
            have := lx_rget h (n : Int)
            rw [← hgs] at this
            exact this)
          clear hgs hsl
          generalize getP fs (n : Int) Mx = G at *
          obtain ⟨gs, gb, ge, gM⟩ := G
          generalize hB : bs gs = B at *
          clear hB
          have b5 : (B.toList == B.toList) = true := by simp
          have b6 : (gb != gb) = false := by cases gb <;> rfl
          have b7 : (ge != ge) = false := by simp
          go_wp2_with fail
          refine HGE.out.mono ?_
          rintro e w20 ⟨rfl, h20, hs20⟩
          have H20 := hid h20
          have hnr20 := HNR.out.stay hs20 HOX.out
          have HNR20 := hid hnr20
          obtain ⟨g', e1, -, c20⟩ := HCE.out w20 hnr20
          cases e1
          clear h20 hs20 c0 hnr20
          go_wp2_with fail
          refine (HRG.out _ _ H20.out).mono ?_
          rintro e w21 ⟨rfl, h21, hs21⟩
          have HNX : Hid (∃ Mx, SL fs l Mx ∧ LX w X d m r j c Mx Mx fs l w21 ∧ NR w21 (.slice (some ⟨g, 0, none⟩) ql cp3) q) := hid ⟨_, HFSM.out, h21, HNR20.out.stay hs21 HOX.out⟩
          clear h21 hs21 c20
          go_wp2
          go_roundw
          case rel => exact ⟨k + 1, HKL.out, by go_num, HNX⟩
          case measure => exact meas_lt' HKL.out
        · have HE := hid hlx.below
          clear hsl hlx hnr
          go_wp2
          go_ret
          exact ⟨rfl, HE.out⟩
end Lt
end Go.Proofs.YtgmbiiocjhkpdaaGreat
