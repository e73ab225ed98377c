/-
  Contract of the laws' own changed: a database is changed under a journal.
-/
import Derived.Test.YtpdpjgeoclilhaaGreatGrpJA
import Derived.Test.YtpdpjgeoclilhaaGreatGrpJD
import Derived.Test.YtpdpjgeoclilhaaGreatJouSeal
namespace Go.Proofs.YtpdpjgeoclilhaaGreat
open Go.RowKit Go.Shelf
namespace Jo
open Num (hid)
open Disk (Mod Fil Plc Sees Stays Ctl)
open Mem (Bs bs tS Chg LAt ptr blk_cell blk_free blk_new blk_set blk_other blk_alloc row_kept row_shape row_type)

/-- A change that came in: a page, a byte, whether a sync follows. -/
structure ChC where
  n : Int
  f : UInt8
  s : Bool
abbrev chV (x : ChC) : List Value := [.int .i64 x.n, .int .u8 (x.f.toNat : Int), .bool x.s]
/-- Which page. -/
def pgN (P : Nat) (x : ChC) : Nat := ((x.n % 18446744073709551616) % ((P : Int) + 3)).toNat
theorem pgN_lt (P : Nat) (x : ChC) : pgN P x < P + 3 := by
  unfold pgN
  have h : 0 < (P : Int) + 3 := by omega
  have h1 := Int.emod_lt_of_pos (x.n % 18446744073709551616) h
  have h2 := Int.emod_nonneg (x.n % 18446744073709551616) (show (P : Int) + 3 ≠ 0 from by omega)
  omega
theorem pgN_is (P : Nat) (hP : P ≤ 8) (x : ChC) : wrap64 ((IntKind.u64.wrap x.n).tmod ((P : Int) + 3)) = ((pgN P x : Nat) : Int) := by
  have h : 0 < (P : Int) + 3 := by omega
  have h1 := Int.emod_lt_of_pos (x.n % 18446744073709551616) h
  have h2 := Int.emod_nonneg (x.n % 18446744073709551616) (show (P : Int) + 3 ≠ 0 from by omega)
  have h3 : IntKind.u64.wrap x.n = x.n % 18446744073709551616 := Num.wrap_u _
  have h4 : 0 ≤ x.n % 18446744073709551616 := Int.emod_nonneg _ (by decide)
  rw [h3, Int.tmod_eq_emod_of_nonneg h4, Num.wrap_i]
  unfold pgN
  omega
theorem sec_len (n : Nat) (b : UInt8) : (Seal.sealL 1 n 0 (pgL b)).length = 256 := by rw [Seal.seal_len, pgL_len]
/-- A page by a number. -/
theorem page_nat (n : Nat) (hn : n < 256) (w : World) :
    Calls Tryz.prog 63 #[.int .u8 (n : Nat)] w fun e w' => e = .returned (.string (bs (od n))) ∧ Below w.heap.size w w' := by
  have := page13_any (UInt8.ofNat n) w
  rw [u8_nat hn] at this
  exact this
theorem od_bs (n : Nat) : (bs (od n)).size = 232 := by show (od n).toArray.size = 232; rw [List.size_toArray, od_len]
theorem write_wsec {N : Nat → Prop} {d m j b P salt : Nat} {M : Mod} {J : Jou} {w : World} (h : JS N d m j b P salt M J w) (n k : Nat) (f : UInt8) :
    Calls Tryz.prog 60 #[ptr d, .string dS, .int .i64 (n : Nat), .string (secS k f)] w fun e w' => e = .returned (.int .i64 (M.write dn n (Seal.sealL 1 k 0 (pgL f))).1) ∧ JS N d m j b P salt (M.write dn n (Seal.sealL 1 k 0 (pgL f))).2 J w' ∧ Stays N w w' := by
  refine (write_sec h.disk n k f).mono ?_
  rintro e w' ⟨rfl, h1, h2⟩
  exact ⟨rfl, h.over h1 h2, fewer h2 (fun k hk => Or.inl hk)⟩
theorem sync_wdn {N : Nat → Prop} {d m j b P salt : Nat} {M : Mod} {J : Jou} {w : World} (h : JS N d m j b P salt M J w) :
    Calls Tryz.prog 29 #[ptr d, .string dS] w fun e w' => e = .returned (.int .i64 (M.sync dn).1) ∧ JS N d m j b P salt (M.sync dn).2 J w' ∧ Stays N w w' := by
  refine (sync_dn h.disk).mono ?_
  rintro e w' ⟨rfl, h1, h2⟩
  exact ⟨rfl, h.over h1 h2, fewer h2 (fun k hk => Or.inl hk)⟩
/-- Between two calls. -/
structure ChW (w0 : World) (d m j b P c : Nat) (M0 M : Mod) (J : Jou) (D F : Option Fil) (sl : Bool) (wr : World) : Prop where
  js : JS (Bl w0.heap.size) d m j b P 99 M J wr
  below : Below w0.heap.size w0 wr
  chi : ChI P c M0 M J D F sl
theorem ChW.on {w0 wr w2 : World} {d m j b P c : Nat} {M0 M : Mod} {J : Jou} {D F : Option Fil} {sl : Bool} (h : ChW w0 d m j b P c M0 M J D F sl wr) (hb : Below wr.heap.size wr w2) : ChW w0 d m j b P c M0 M J D F sl w2 := ⟨h.js.on hb, h.below.trans (hb.mono h.below.size), h.chi⟩
theorem ChW.to {w0 wr w2 : World} {d m j b P c c' : Nat} {M0 M M' : Mod} {J J' : Jou} {D D' F F' : Option Fil} {sl sl' : Bool} (h : ChW w0 d m j b P c M0 M J D F sl wr) (h1 : JS (Bl w0.heap.size) d m j b P 99 M' J' w2) (h2 : Stays (Bl w0.heap.size) wr w2) (h3 : ChI P c' M0 M' J' D' F' sl') : ChW w0 d m j b P c' M0 M' J' D' F' sl' w2 := ⟨h1, h.below.trans (bl_below h2 h.below.size), h3⟩
theorem note_wod {w0 wr : World} {d m j b P c : Nat} {M0 M : Mod} {J : Jou} {D F : Option Fil} {sl : Bool} (h : ChW w0 d m j b P c M0 M J D F sl wr) (hP : P ≤ 4096 ∧ c ≤ 1000) (n : Nat) (hn : n < P) :
    Calls Tryz.prog 32 #[ptr j, .int .i64 (n : Nat), .string (bs (od n))] wr fun e w' => e = .returned (.int .i64 (noteM 99 J n (od n) M).1) ∧ JS (Bl w0.heap.size) d m j b P 99 (noteM 99 J n (od n) M).2.2 (noteM 99 J n (od n) M).2.1 w' ∧ Stays (Bl w0.heap.size) wr w' :=
  note_any h.js hP.1 (by decide) (by have := h.chi.ll; omega) (by have := h.chi.nl; omega) n hn (bs (od n)) (od_bs n)
def ChPost (w0 : World) (d m P : Nat) (M0 : Mod) (e : Ending) (w' : World) : Prop := ∃ er M, e = .returned (.int .i64 er) ∧ Sees (Bl w0.heap.size) d m M w' ∧ Below w0.heap.size w0 w' ∧ EndP P M0 er M
theorem size_neg {M : Mod} {D : Option Fil} (h : M.fs = dir2 D none) : M.size jn < 0 := by rw [size_j h]; decide
set_option maxRecDepth 100000 in
set_option maxHeartbeats 4000000 in
theorem changed_any {w0 w : World} {d m P : Nat} {M0 : Mod} {D : Option Fil} (h : Sees (Bl w0.heap.size) d m M0 w) (hb : Below w0.heap.size w0 w) (hfs : M0.fs = dir2 D none) (hg : Good True P f0 D) (hl : lenO D = P) (hP : P ≤ 8) {v : Value} {l : List ChC} (hL : LAt 3 chV w0 v l) :
    Calls Tryz.prog 25 #[ptr d, .int .i64 (P : Nat), v] w (ChPost w0 d m P M0) := by
  obtain ⟨ao, cap, rfl, hlm, hlc, hLj⟩ := hL.ways
  have H := hid h
  have HB := hid hb
  have HC := hid (chi_start hfs hg hl)
  have HJ := hid (size_neg hfs)
  have HL := hid hLj
  have hP3 : (P : Int) + 3 < 100 := by omega
  clear h hb hfs hg hl hL hLj
  go_enter Tryz.func25, Tryz.ntmps25
  go_wp2_with fail
  refine (start_any (P := P) (salt := 99) H.out (by omega) HJ.out).mono ?_
  rintro e w1 ⟨j, b, rfl, hjs, hb1, _, _⟩
  have H1 : Hid (ChW w0 d m j b P 0 M0 M0 j0 D none false w1) := hid ⟨hjs, HB.out.trans (hb1.mono HB.out.size), HC.out⟩
  clear hjs hb1 H HB HC HJ
  go_wp2_with fail
  go_loopw [9, 10] (fun sv iv wr => ∃ (k : Nat) (sl : Bool) (M : Mod) (J : Jou) (D F : Option Fil), k ≤ 20 ∧ sv = .bool sl ∧ iv = .int .i64 k ∧ Hid (ChW w0 d m j b P (3 * k) M0 M J D F sl wr)) (fun _ iv _ => 20 - (intOf iv).toNat)
  case atStart => exact ⟨0, false, M0, j0, D, none, by decide, rfl, rfl, H1⟩
  case round =>
    obtain ⟨k, sl, M, J, D, F, hk, rfl, rfl, HI⟩ := hrel
    by_cases hlt : (k : Int) < (l.length : Int)
    · by_cases h20 : (k : Int) < 20
      · have hkl : k < l.length := by omega
        obtain ⟨gb, o, rfl, hbs, hc⟩ := HL.out k hkl
        have hkc : (k : Int) < (cap : Int) := by omega
        have cell : ∀ wr, Below w0.heap.size w0 wr → ∀ i, i < 3 → wr.cell? ⟨gb, o + k * 3 + i, none⟩ = (chV l[k])[i]? := fun wr hb i hi => (hb.cell (p := ⟨gb, o + k * 3 + i, none⟩) hbs).trans (hc i hi)
        generalize l[k] = x at *
        have HCELL := hid cell
        have c0 := cell _ HI.out.below 0 (by decide)
        simp only [chV, Nat.add_zero, List.getElem?_cons_zero] at c0
        have hrem := pgN_is P hP x
        have hnl := pgN_lt P x
        generalize pgN P x = n at *
        have hu : (n : Int) % 256 = (n : Int) := by omega
        clear cell hc hbs
        by_cases hnP : (n : Int) < (P : Int)
        · by_cases hin : n ∈ J.noted
          · have HNI : Hid (n < P → n ∈ J.noted) := hid fun _ => hin
            cases sl
            · go_wp2_with fail
              refine (has_any HI.out.js n (by omega)).mono ?_
              rintro e w2 ⟨rfl, hb2⟩
              rw [decide_eq_true hin]
              have H2 := hid (HI.out.on hb2)
              clear hb2
              go_wp2_with fail
              refine (seal_any H2.out.js (by have a := H2.out.chi.ll; have c := H2.out.chi.fl; exact ⟨by omega, by decide, by omega, by omega⟩)).mono ?_
              rintro e w5 ⟨rfl, h5, hs5⟩
              have HS := ChI.sealing H2.out.chi (by omega) (by omega)
              have H5J := hid h5
              have H5B : Hid (Below w0.heap.size w0 w5) := hid (H2.out.below.trans (bl_below hs5 H2.out.below.size))
              clear h5 hs5
              generalize sealM P 99 J M = Z at *
              rcases HS with ⟨hz, F2, hz2, hz3⟩ | ⟨hz, hz2⟩
              · have H5 : Hid (ChW w0 d m j b P ((3 * k) + 1) M0 Z.2.2 Z.2.1 D F2 true w5) := hid ⟨H5J.out, H5B.out, hz2⟩
                have HN5 : n < P → n ∈ Z.2.1.noted := fun hn => by rw [hz3]; exact HNI.out hn
                have HN5H := hid HN5
                rw [hz]
                clear hz hz2 hz3 HN5 H5J H5B
                obtain ⟨J5, M5, hJM⟩ : ∃ J5 M5, Z.2 = (J5, M5) := ⟨_, _, rfl⟩
                rw [hJM] at H5 HN5H
                clear hJM
                dsimp only at H5 HN5H
                have hmx : max (M5.size dn) 0 = ((lenO D : Nat) : Int) := by rw [size_d H5.out.chi.fs, sz_len]
                by_cases hgt : ((lenO D : Nat) : Int) < (n : Int)
                · go_wp2_with fail
                  refine (size_dn H5.out.js.disk).mono ?_
                  rintro e w9 ⟨rfl, rfl⟩
                  generalize M5.size dn = sz at *
                  go_wp2
                  go_roundw
                  case rel => exact ⟨k + 1, true, _, _, _, _, by omega, rfl, by go_num, hid ⟨H5.out.js, H5.out.below, H5.out.chi.more (by omega)⟩⟩
                  case measure => simp [intOf]; omega
                · have hle : n ≤ lenO D := by omega
                  have c1 := HCELL.out _ H5.out.below 1 (by decide)
                  simp only [chV, List.getElem?_cons_succ, List.getElem?_cons_zero] at c1
                  go_wp2_with fail
                  refine (size_dn H5.out.js.disk).mono ?_
                  rintro e w9 ⟨rfl, rfl⟩
                  generalize M5.size dn = sz at *
                  go_wp2_with fail
                  refine (sector13_any n (by omega) x.f _).mono ?_
                  rintro e w10 ⟨rfl, hb10⟩
                  have H10 := hid (H5.out.on hb10)
                  clear hb10 c1
                  go_wp2_with fail
                  refine (write_wsec H10.out.js n n x.f).mono ?_
                  rintro e w11 ⟨rfl, h11, hs11⟩
                  have HX := ChI.write H10.out.chi (by omega) (by omega) HN5H.out hle (sec_len n x.f)
                  have H11J := hid h11
                  have H11B : Hid (Below w0.heap.size w0 w11) := hid (H10.out.below.trans (bl_below hs11 H10.out.below.size))
                  clear h11 hs11
                  generalize M5.write dn n (Seal.sealL 1 n 0 (pgL x.f)) = X at *
                  rcases HX with ⟨hx, D2, hx2, hx3⟩ | ⟨hx, hx2⟩
                  · have H12 := hid hx2
                    have HD := hid hx3
                    rw [hx]
                    clear hx hx2 hx3
                    have c2 := HCELL.out _ H11B.out 2 (by decide)
                    simp only [chV, List.getElem?_cons_succ, List.getElem?_cons_zero] at c2
                    generalize x.s = xs at *
                    cases xs
                    · go_wp2
                      go_roundw
                      case rel => exact ⟨k + 1, true, _, _, _, _, by omega, rfl, by go_num, hid ⟨H11J.out, H11B.out, H12.out.more (by omega)⟩⟩
                      case measure => simp [intOf]; omega
                    · go_wp2_with fail
                      refine (sync_wdn H11J.out).mono ?_
                      rintro e w13 ⟨rfl, h13, hs13⟩
                      have HY := ChI.sync H12.out (by omega) (by omega) HD.out
                      have H13J := hid h13
                      have H13B : Hid (Below w0.heap.size w0 w13) := hid (H11B.out.trans (bl_below hs13 H11B.out.size))
                      clear h13 hs13 c2
                      generalize X.2.sync dn = Y at *
                      rcases HY with ⟨hy, D3, hy2⟩ | ⟨hy, hy2⟩
                      · have H14 := hid hy2
                        rw [hy]
                        clear hy hy2
                        go_wp2
                        go_roundw
                        case rel => exact ⟨k + 1, true, _, _, _, _, by omega, rfl, by go_num, hid ⟨H13J.out, H13B.out, H14.out.more (by omega)⟩⟩
                        case measure => simp [intOf]; omega
                      · have hy1 : (Y.1 != 0) = true := by simp [hy]
                        have H14 := hid hy2
                        clear hy hy2
                        go_wp2
                        go_ret
                        exact ⟨_, _, rfl, H13J.out.disk.fewer (fun k hk => Or.inl hk), H13B.out, H14.out⟩
                  · have hx1 : (X.1 != 0) = true := by simp [hx]
                    have H12 := hid hx2
                    clear hx hx2
                    go_wp2
                    go_ret
                    exact ⟨_, _, rfl, H11J.out.disk.fewer (fun k hk => Or.inl hk), H11B.out, H12.out⟩
              · have hz1 : (Z.1 != 0) = true := by simp [hz]
                have H5 := hid hz2
                clear hz hz2
                go_wp2
                go_ret
                exact ⟨_, _, rfl, H5J.out.disk.fewer (fun k hk => Or.inl hk), H5B.out, H5.out⟩
            · go_wp2_with fail
              refine (has_any HI.out.js n (by omega)).mono ?_
              rintro e w2 ⟨rfl, hb2⟩
              rw [decide_eq_true hin]
              have H2 := hid (HI.out.on hb2)
              clear hb2
              have hmx : max (M.size dn) 0 = ((lenO D : Nat) : Int) := by rw [size_d H2.out.chi.fs, sz_len]
              by_cases hgt : ((lenO D : Nat) : Int) < (n : Int)
              · go_wp2_with fail
                refine (size_dn H2.out.js.disk).mono ?_
                rintro e w9 ⟨rfl, rfl⟩
                generalize M.size dn = sz at *
                go_wp2
                go_roundw
                case rel => exact ⟨k + 1, true, _, _, _, _, by omega, rfl, by go_num, hid ⟨H2.out.js, H2.out.below, H2.out.chi.more (by omega)⟩⟩
                case measure => simp [intOf]; omega
              · have hle : n ≤ lenO D := by omega
                have c1 := HCELL.out _ H2.out.below 1 (by decide)
                simp only [chV, List.getElem?_cons_succ, List.getElem?_cons_zero] at c1
                go_wp2_with fail
                refine (size_dn H2.out.js.disk).mono ?_
                rintro e w9 ⟨rfl, rfl⟩
                generalize M.size dn = sz at *
                go_wp2_with fail
                refine (sector13_any n (by omega) x.f _).mono ?_
                rintro e w10 ⟨rfl, hb10⟩
                have H10 := hid (H2.out.on hb10)
                clear hb10 c1
                go_wp2_with fail
                refine (write_wsec H10.out.js n n x.f).mono ?_
                rintro e w11 ⟨rfl, h11, hs11⟩
                have HX := ChI.write H10.out.chi (by omega) (by omega) HNI.out hle (sec_len n x.f)
                have H11J := hid h11
                have H11B : Hid (Below w0.heap.size w0 w11) := hid (H10.out.below.trans (bl_below hs11 H10.out.below.size))
                clear h11 hs11
                generalize M.write dn n (Seal.sealL 1 n 0 (pgL x.f)) = X at *
                rcases HX with ⟨hx, D2, hx2, hx3⟩ | ⟨hx, hx2⟩
                · have H12 := hid hx2
                  have HD := hid hx3
                  rw [hx]
                  clear hx hx2 hx3
                  have c2 := HCELL.out _ H11B.out 2 (by decide)
                  simp only [chV, List.getElem?_cons_succ, List.getElem?_cons_zero] at c2
                  generalize x.s = xs at *
                  cases xs
                  · go_wp2
                    go_roundw
                    case rel => exact ⟨k + 1, true, _, _, _, _, by omega, rfl, by go_num, hid ⟨H11J.out, H11B.out, H12.out.more (by omega)⟩⟩
                    case measure => simp [intOf]; omega
                  · go_wp2_with fail
                    refine (sync_wdn H11J.out).mono ?_
                    rintro e w13 ⟨rfl, h13, hs13⟩
                    have HY := ChI.sync H12.out (by omega) (by omega) HD.out
                    have H13J := hid h13
                    have H13B : Hid (Below w0.heap.size w0 w13) := hid (H11B.out.trans (bl_below hs13 H11B.out.size))
                    clear h13 hs13 c2
                    generalize X.2.sync dn = Y at *
                    rcases HY with ⟨hy, D3, hy2⟩ | ⟨hy, hy2⟩
                    · have H14 := hid hy2
                      rw [hy]
                      clear hy hy2
                      go_wp2
                      go_roundw
                      case rel => exact ⟨k + 1, true, _, _, _, _, by omega, rfl, by go_num, hid ⟨H13J.out, H13B.out, H14.out.more (by omega)⟩⟩
                      case measure => simp [intOf]; omega
                    · have hy1 : (Y.1 != 0) = true := by simp [hy]
                      have H14 := hid hy2
                      clear hy hy2
                      go_wp2
                      go_ret
                      exact ⟨_, _, rfl, H13J.out.disk.fewer (fun k hk => Or.inl hk), H13B.out, H14.out⟩
                · have hx1 : (X.1 != 0) = true := by simp [hx]
                  have H12 := hid hx2
                  clear hx hx2
                  go_wp2
                  go_ret
                  exact ⟨_, _, rfl, H11J.out.disk.fewer (fun k hk => Or.inl hk), H11B.out, H12.out⟩
          · go_wp2_with fail
            refine (has_any HI.out.js n (by omega)).mono ?_
            rintro e w2 ⟨rfl, hb2⟩
            rw [decide_eq_false hin]
            have H2 := hid (HI.out.on hb2)
            clear hb2
            go_wp2_with fail
            refine (page_nat n (by omega) _).mono ?_
            rintro e w3 ⟨rfl, hb3⟩
            have H3 := hid (H2.out.on hb3)
            clear hb3
            go_wp2_with fail
            refine (note_wod H3.out (by omega) n (by omega)).mono ?_
            rintro e w4 ⟨rfl, h4, hs4⟩
            have HNT := ChI.note H3.out.chi (by omega) (by omega) (n := n) (by omega)
            have H4J := hid h4
            have H4B : Hid (Below w0.heap.size w0 w4) := hid (H3.out.below.trans (bl_below hs4 H3.out.below.size))
            clear h4 hs4
            generalize noteM 99 J n (od n) M = V at *
            rcases HNT with ⟨hv, F3, hv2, hv3⟩ | ⟨hv, hv2⟩
            · have H4 : Hid (ChW w0 d m j b P (3 * k + 1) M0 V.2.2 V.2.1 D F3 false w4) := hid ⟨H4J.out, H4B.out, hv2⟩
              have HN4 : Hid (n < P → n ∈ V.2.1.noted) := hid fun _ => hv3
              rw [hv]
              clear hv hv2 hv3 H4J H4B
              obtain ⟨J4, M4, hJM⟩ : ∃ J4 M4, V.2 = (J4, M4) := ⟨_, _, rfl⟩
              rw [hJM] at H4 HN4
              clear hJM
              dsimp only at H4 HN4
              go_wp2_with fail
              refine (seal_any H4.out.js (by have a := H4.out.chi.ll; have c := H4.out.chi.fl; exact ⟨by omega, by decide, by omega, by omega⟩)).mono ?_
              rintro e w5 ⟨rfl, h5, hs5⟩
              have HS := ChI.sealing H4.out.chi (by omega) (by omega)
              have H5J := hid h5
              have H5B : Hid (Below w0.heap.size w0 w5) := hid (H4.out.below.trans (bl_below hs5 H4.out.below.size))
              clear h5 hs5
              generalize sealM P 99 J4 M4 = Z at *
              rcases HS with ⟨hz, F2, hz2, hz3⟩ | ⟨hz, hz2⟩
              · have H5 : Hid (ChW w0 d m j b P ((3 * k + 1) + 1) M0 Z.2.2 Z.2.1 D F2 true w5) := hid ⟨H5J.out, H5B.out, hz2⟩
                have HN5 : n < P → n ∈ Z.2.1.noted := fun hn => by rw [hz3]; exact HN4.out hn
                have HN5H := hid HN5
                rw [hz]
                clear hz hz2 hz3 HN5 H5J H5B
                obtain ⟨J5, M5, hJM⟩ : ∃ J5 M5, Z.2 = (J5, M5) := ⟨_, _, rfl⟩
                rw [hJM] at H5 HN5H
                clear hJM
                dsimp only at H5 HN5H
                have hmx : max (M5.size dn) 0 = ((lenO D : Nat) : Int) := by rw [size_d H5.out.chi.fs, sz_len]
                by_cases hgt : ((lenO D : Nat) : Int) < (n : Int)
                · go_wp2_with fail
                  refine (size_dn H5.out.js.disk).mono ?_
                  rintro e w9 ⟨rfl, rfl⟩
                  generalize M5.size dn = sz at *
                  go_wp2
                  go_roundw
                  case rel => exact ⟨k + 1, true, _, _, _, _, by omega, rfl, by go_num, hid ⟨H5.out.js, H5.out.below, H5.out.chi.more (by omega)⟩⟩
                  case measure => simp [intOf]; omega
                · have hle : n ≤ lenO D := by omega
                  have c1 := HCELL.out _ H5.out.below 1 (by decide)
                  simp only [chV, List.getElem?_cons_succ, List.getElem?_cons_zero] at c1
                  go_wp2_with fail
                  refine (size_dn H5.out.js.disk).mono ?_
                  rintro e w9 ⟨rfl, rfl⟩
                  generalize M5.size dn = sz at *
                  go_wp2_with fail
                  refine (sector13_any n (by omega) x.f _).mono ?_
                  rintro e w10 ⟨rfl, hb10⟩
                  have H10 := hid (H5.out.on hb10)
                  clear hb10 c1
                  go_wp2_with fail
                  refine (write_wsec H10.out.js n n x.f).mono ?_
                  rintro e w11 ⟨rfl, h11, hs11⟩
                  have HX := ChI.write H10.out.chi (by omega) (by omega) HN5H.out hle (sec_len n x.f)
                  have H11J := hid h11
                  have H11B : Hid (Below w0.heap.size w0 w11) := hid (H10.out.below.trans (bl_below hs11 H10.out.below.size))
                  clear h11 hs11
                  generalize M5.write dn n (Seal.sealL 1 n 0 (pgL x.f)) = X at *
                  rcases HX with ⟨hx, D2, hx2, hx3⟩ | ⟨hx, hx2⟩
                  · have H12 := hid hx2
                    have HD := hid hx3
                    rw [hx]
                    clear hx hx2 hx3
                    have c2 := HCELL.out _ H11B.out 2 (by decide)
                    simp only [chV, List.getElem?_cons_succ, List.getElem?_cons_zero] at c2
                    generalize x.s = xs at *
                    cases xs
                    · go_wp2
                      go_roundw
                      case rel => exact ⟨k + 1, true, _, _, _, _, by omega, rfl, by go_num, hid ⟨H11J.out, H11B.out, H12.out.more (by omega)⟩⟩
                      case measure => simp [intOf]; omega
                    · go_wp2_with fail
                      refine (sync_wdn H11J.out).mono ?_
                      rintro e w13 ⟨rfl, h13, hs13⟩
                      have HY := ChI.sync H12.out (by omega) (by omega) HD.out
                      have H13J := hid h13
                      have H13B : Hid (Below w0.heap.size w0 w13) := hid (H11B.out.trans (bl_below hs13 H11B.out.size))
                      clear h13 hs13 c2
                      generalize X.2.sync dn = Y at *
                      rcases HY with ⟨hy, D3, hy2⟩ | ⟨hy, hy2⟩
                      · have H14 := hid hy2
                        rw [hy]
                        clear hy hy2
                        go_wp2
                        go_roundw
                        case rel => exact ⟨k + 1, true, _, _, _, _, by omega, rfl, by go_num, hid ⟨H13J.out, H13B.out, H14.out.more (by omega)⟩⟩
                        case measure => simp [intOf]; omega
                      · have hy1 : (Y.1 != 0) = true := by simp [hy]
                        have H14 := hid hy2
                        clear hy hy2
                        go_wp2
                        go_ret
                        exact ⟨_, _, rfl, H13J.out.disk.fewer (fun k hk => Or.inl hk), H13B.out, H14.out⟩
                  · have hx1 : (X.1 != 0) = true := by simp [hx]
                    have H12 := hid hx2
                    clear hx hx2
                    go_wp2
                    go_ret
                    exact ⟨_, _, rfl, H11J.out.disk.fewer (fun k hk => Or.inl hk), H11B.out, H12.out⟩
              · have hz1 : (Z.1 != 0) = true := by simp [hz]
                have H5 := hid hz2
                clear hz hz2
                go_wp2
                go_ret
                exact ⟨_, _, rfl, H5J.out.disk.fewer (fun k hk => Or.inl hk), H5B.out, H5.out⟩
            · have hv1 : (V.1 != 0) = true := by simp [hv]
              have H4 := hid hv2
              clear hv hv2
              go_wp2
              go_ret
              exact ⟨_, _, rfl, H4J.out.disk.fewer (fun k hk => Or.inl hk), H4B.out, H4.out⟩
        · have HNI : Hid (n < P → n ∈ J.noted) := hid fun hx => absurd hx (by omega)
          cases sl
          · go_wp2_with fail
            refine (seal_any HI.out.js (by have a := HI.out.chi.ll; have c := HI.out.chi.fl; exact ⟨by omega, by decide, by omega, by omega⟩)).mono ?_
            rintro e w5 ⟨rfl, h5, hs5⟩
            have HS := ChI.sealing HI.out.chi (by omega) (by omega)
            have H5J := hid h5
            have H5B : Hid (Below w0.heap.size w0 w5) := hid (HI.out.below.trans (bl_below hs5 HI.out.below.size))
            clear h5 hs5
            generalize sealM P 99 J M = Z at *
            rcases HS with ⟨hz, F2, hz2, hz3⟩ | ⟨hz, hz2⟩
            · have H5 : Hid (ChW w0 d m j b P ((3 * k) + 1) M0 Z.2.2 Z.2.1 D F2 true w5) := hid ⟨H5J.out, H5B.out, hz2⟩
              have HN5 : n < P → n ∈ Z.2.1.noted := fun hn => by rw [hz3]; exact HNI.out hn
              have HN5H := hid HN5
              rw [hz]
              clear hz hz2 hz3 HN5 H5J H5B
              obtain ⟨J5, M5, hJM⟩ : ∃ J5 M5, Z.2 = (J5, M5) := ⟨_, _, rfl⟩
              rw [hJM] at H5 HN5H
              clear hJM
              dsimp only at H5 HN5H
              have hmx : max (M5.size dn) 0 = ((lenO D : Nat) : Int) := by rw [size_d H5.out.chi.fs, sz_len]
              by_cases hgt : ((lenO D : Nat) : Int) < (n : Int)
              · go_wp2_with fail
                refine (size_dn H5.out.js.disk).mono ?_
                rintro e w9 ⟨rfl, rfl⟩
                generalize M5.size dn = sz at *
                go_wp2
                go_roundw
                case rel => exact ⟨k + 1, true, _, _, _, _, by omega, rfl, by go_num, hid ⟨H5.out.js, H5.out.below, H5.out.chi.more (by omega)⟩⟩
                case measure => simp [intOf]; omega
              · have hle : n ≤ lenO D := by omega
                have c1 := HCELL.out _ H5.out.below 1 (by decide)
                simp only [chV, List.getElem?_cons_succ, List.getElem?_cons_zero] at c1
                go_wp2_with fail
                refine (size_dn H5.out.js.disk).mono ?_
                rintro e w9 ⟨rfl, rfl⟩
                generalize M5.size dn = sz at *
                go_wp2_with fail
                refine (sector13_any n (by omega) x.f _).mono ?_
                rintro e w10 ⟨rfl, hb10⟩
                have H10 := hid (H5.out.on hb10)
                clear hb10 c1
                go_wp2_with fail
                refine (write_wsec H10.out.js n n x.f).mono ?_
                rintro e w11 ⟨rfl, h11, hs11⟩
                have HX := ChI.write H10.out.chi (by omega) (by omega) HN5H.out hle (sec_len n x.f)
                have H11J := hid h11
                have H11B : Hid (Below w0.heap.size w0 w11) := hid (H10.out.below.trans (bl_below hs11 H10.out.below.size))
                clear h11 hs11
                generalize M5.write dn n (Seal.sealL 1 n 0 (pgL x.f)) = X at *
                rcases HX with ⟨hx, D2, hx2, hx3⟩ | ⟨hx, hx2⟩
                · have H12 := hid hx2
                  have HD := hid hx3
                  rw [hx]
                  clear hx hx2 hx3
                  have c2 := HCELL.out _ H11B.out 2 (by decide)
                  simp only [chV, List.getElem?_cons_succ, List.getElem?_cons_zero] at c2
                  generalize x.s = xs at *
                  cases xs
                  · go_wp2
                    go_roundw
                    case rel => exact ⟨k + 1, true, _, _, _, _, by omega, rfl, by go_num, hid ⟨H11J.out, H11B.out, H12.out.more (by omega)⟩⟩
                    case measure => simp [intOf]; omega
                  · go_wp2_with fail
                    refine (sync_wdn H11J.out).mono ?_
                    rintro e w13 ⟨rfl, h13, hs13⟩
                    have HY := ChI.sync H12.out (by omega) (by omega) HD.out
                    have H13J := hid h13
                    have H13B : Hid (Below w0.heap.size w0 w13) := hid (H11B.out.trans (bl_below hs13 H11B.out.size))
                    clear h13 hs13 c2
                    generalize X.2.sync dn = Y at *
                    rcases HY with ⟨hy, D3, hy2⟩ | ⟨hy, hy2⟩
                    · have H14 := hid hy2
                      rw [hy]
                      clear hy hy2
                      go_wp2
                      go_roundw
                      case rel => exact ⟨k + 1, true, _, _, _, _, by omega, rfl, by go_num, hid ⟨H13J.out, H13B.out, H14.out.more (by omega)⟩⟩
                      case measure => simp [intOf]; omega
                    · have hy1 : (Y.1 != 0) = true := by simp [hy]
                      have H14 := hid hy2
                      clear hy hy2
                      go_wp2
                      go_ret
                      exact ⟨_, _, rfl, H13J.out.disk.fewer (fun k hk => Or.inl hk), H13B.out, H14.out⟩
                · have hx1 : (X.1 != 0) = true := by simp [hx]
                  have H12 := hid hx2
                  clear hx hx2
                  go_wp2
                  go_ret
                  exact ⟨_, _, rfl, H11J.out.disk.fewer (fun k hk => Or.inl hk), H11B.out, H12.out⟩
            · have hz1 : (Z.1 != 0) = true := by simp [hz]
              have H5 := hid hz2
              clear hz hz2
              go_wp2
              go_ret
              exact ⟨_, _, rfl, H5J.out.disk.fewer (fun k hk => Or.inl hk), H5B.out, H5.out⟩
          · have hmx : max (M.size dn) 0 = ((lenO D : Nat) : Int) := by rw [size_d HI.out.chi.fs, sz_len]
            by_cases hgt : ((lenO D : Nat) : Int) < (n : Int)
            · go_wp2_with fail
              refine (size_dn HI.out.js.disk).mono ?_
              rintro e w9 ⟨rfl, rfl⟩
              generalize M.size dn = sz at *
              go_wp2
              go_roundw
              case rel => exact ⟨k + 1, true, _, _, _, _, by omega, rfl, by go_num, hid ⟨HI.out.js, HI.out.below, HI.out.chi.more (by omega)⟩⟩
              case measure => simp [intOf]; omega
            · have hle : n ≤ lenO D := by omega
              have c1 := HCELL.out _ HI.out.below 1 (by decide)
              simp only [chV, List.getElem?_cons_succ, List.getElem?_cons_zero] at c1
              go_wp2_with fail
              refine (size_dn HI.out.js.disk).mono ?_
              rintro e w9 ⟨rfl, rfl⟩
              generalize M.size dn = sz at *
              go_wp2_with fail
              refine (sector13_any n (by omega) x.f _).mono ?_
              rintro e w10 ⟨rfl, hb10⟩
              have H10 := hid (HI.out.on hb10)
              clear hb10 c1
              go_wp2_with fail
              refine (write_wsec H10.out.js n n x.f).mono ?_
              rintro e w11 ⟨rfl, h11, hs11⟩
              have HX := ChI.write H10.out.chi (by omega) (by omega) HNI.out hle (sec_len n x.f)
              have H11J := hid h11
              have H11B : Hid (Below w0.heap.size w0 w11) := hid (H10.out.below.trans (bl_below hs11 H10.out.below.size))
              clear h11 hs11
              generalize M.write dn n (Seal.sealL 1 n 0 (pgL x.f)) = X at *
              rcases HX with ⟨hx, D2, hx2, hx3⟩ | ⟨hx, hx2⟩
              · have H12 := hid hx2
                have HD := hid hx3
                rw [hx]
                clear hx hx2 hx3
                have c2 := HCELL.out _ H11B.out 2 (by decide)
                simp only [chV, List.getElem?_cons_succ, List.getElem?_cons_zero] at c2
                generalize x.s = xs at *
                cases xs
                · go_wp2
                  go_roundw
                  case rel => exact ⟨k + 1, true, _, _, _, _, by omega, rfl, by go_num, hid ⟨H11J.out, H11B.out, H12.out.more (by omega)⟩⟩
                  case measure => simp [intOf]; omega
                · go_wp2_with fail
                  refine (sync_wdn H11J.out).mono ?_
                  rintro e w13 ⟨rfl, h13, hs13⟩
                  have HY := ChI.sync H12.out (by omega) (by omega) HD.out
                  have H13J := hid h13
                  have H13B : Hid (Below w0.heap.size w0 w13) := hid (H11B.out.trans (bl_below hs13 H11B.out.size))
                  clear h13 hs13 c2
                  generalize X.2.sync dn = Y at *
                  rcases HY with ⟨hy, D3, hy2⟩ | ⟨hy, hy2⟩
                  · have H14 := hid hy2
                    rw [hy]
                    clear hy hy2
                    go_wp2
                    go_roundw
                    case rel => exact ⟨k + 1, true, _, _, _, _, by omega, rfl, by go_num, hid ⟨H13J.out, H13B.out, H14.out.more (by omega)⟩⟩
                    case measure => simp [intOf]; omega
                  · have hy1 : (Y.1 != 0) = true := by simp [hy]
                    have H14 := hid hy2
                    clear hy hy2
                    go_wp2
                    go_ret
                    exact ⟨_, _, rfl, H13J.out.disk.fewer (fun k hk => Or.inl hk), H13B.out, H14.out⟩
              · have hx1 : (X.1 != 0) = true := by simp [hx]
                have H12 := hid hx2
                clear hx hx2
                go_wp2
                go_ret
                exact ⟨_, _, rfl, H11J.out.disk.fewer (fun k hk => Or.inl hk), H11B.out, H12.out⟩
      · go_wp2
        go_ret
        exact ⟨0, M, rfl, HI.out.js.disk.fewer (fun k hk => Or.inl hk), HI.out.below, HI.out.chi.fin⟩
    · go_wp2
      go_ret
      exact ⟨0, M, rfl, HI.out.js.disk.fewer (fun k hk => Or.inl hk), HI.out.below, HI.out.chi.fin⟩
end Jo
end Go.Proofs.YtpdpjgeoclilhaaGreat
