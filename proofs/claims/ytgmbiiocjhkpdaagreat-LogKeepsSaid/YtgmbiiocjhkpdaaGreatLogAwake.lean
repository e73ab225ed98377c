/-
  Contract of the statements' own awake: it answers true; the old memory stays.
-/
import Derived.Test.YtgmbiiocjhkpdaaGreatLogLw
namespace Go.Proofs.YtgmbiiocjhkpdaaGreat
open Go.RowKit Go.Shelf
namespace Lo
open Num (hid)
open Disk (Mod Fil Sees Stays)
open Mem (Bs bs LAt iV tI Chg ptr blk_cell blk_free blk_new blk_set blk_other blk_alloc row_kept row_shape row_type)
def q1 : FI := ⟨3, 1, false, true⟩
def q2 : FI := ⟨4, 2, true, true⟩
def q3 : FI := ⟨3, 3, false, true⟩
theorem nums_q : numOf 3 = 3 ∧ numOf 4 = 4 := by decide
def p1 : Fm := (3, 1, false)
def p2 : Fm := (4, 2, true)
def p3 : Fm := (3, 3, false)
theorem fms_q : fms [q1, q2, q3] = [p1, p2, p3] := by decide
theorem fms_q2 : fms [q1, q2] = [p1, p2] := by decide
theorem want_q : wantK [q1, q2, q3] 3 3 = pgL 3 := by decide +kernel
theorem want_q2 : wantK [q1, q2] 3 2 = pgL 1 := by decide +kernel
theorem pg_ne (b : UInt8) : decide (pgL b ≠ []) = true := by
  rw [decide_eq_true_eq]
  intro h0
  have := congrArg List.length h0
  rw [pgL_len] at this
  cases this
theorem small_q : ∀ x ∈ [p1, p2, p3], x.1 < 4096 := by decide
theorem found_q {n : Nat} {M : Mod} (h : Found [p1, p2, p3] 4 n M) : n = 2 := by
  have h1 : n ≤ 3 := h.le
  have h2 : lastC ([p1, p2, p3].take 3) ≤ n := h.ge
  have h3 : lastC ([p1, p2, p3].take 3) = 2 := by
    show lastC (([] ++ [p1] ++ [p2]) ++ [p3]) = 2
    rw [lastC_snoc, if_neg (by decide), lastC_snoc, if_pos (by decide)]
    rfl
  rw [h3] at h2
  rcases h.last with h4 | ⟨x, h4, h5⟩
  · omega
  · by_cases h6 : n = 3
    · subst h6
      have : x = p3 := by simpa using h4.symm
      subst this
      cases h5
    · omega
theorem pages_q : pagesM ((frs [p1, p2]).map (·.1)) = [3, 4] := by
  rw [frs_nums]
  decide +kernel
theorem int_at {w : World} {base : Nat} {v : Value} {ns : List Nat} (h : w.ownsRow base tI 1 v ns.length (ns.map fun n : Nat => Value.int .i64 (n : Int))) (hn : 0 < ns.length) :
    ∃ g cap, v = .slice (some ⟨g, 0, none⟩) ns.length cap ∧ ns.length ≤ cap ∧ g < w.heap.size ∧ ∀ j (hj : j < ns.length), w.cell? ⟨g, j, none⟩ = some (.int .i64 (ns[j] : Nat)) := by
  obtain ⟨h1, h2⟩ := h
  rcases h2 with ⟨h2, h3⟩ | ⟨g, cap', cur, h2, h3, h4, h5, h6, h7, h8⟩
  · omega
  · refine ⟨g, cap', h2, by omega, lt_of_block h4, fun j hj => ?_⟩
    have hx : (cur.toList.take (ns.length * 1))[j]? = some (.int .i64 (ns[j] : Nat)) := by rw [h8]; simp [hj]
    rw [List.getElem?_take_of_lt (by omega)] at hx
    rw [blk_cell h4 j]
    simpa using hx
theorem holds_size {l : List Fm} {M : Mod} (h : Holds l M) (hl : l ≠ []) : M.size ln = ((l.length + 1 : Nat) : Int) := by
  obtain ⟨hc, L, hf, ⟨h1, _⟩ | ⟨F, rfl, hF⟩⟩ := h
  · exact absurd h1 hl
  · rw [size_l hf]
    have := congrArg List.length hF
    rw [List.length_map, List.length_map, secs_len] at this
    show ((F.ps.length : Nat) : Int) = _
    rw [this]
structure AwL (w : World) (d m j b : Nat) (l : List Fm) (A : Nat) (wr : World) : Prop where
  aw : AW (Bl w.heap.size) d m j b 100 l A wr
  below : Below w.heap.size w wr
theorem AwL.to {w wr w2 : World} {d m j b : Nat} {l l' : List Fm} {A A' : Nat} (h : AwL w d m j b l A wr) (h1 : AW (Bl w.heap.size) d m j b 100 l' A' w2) (h2 : Stays (Bl w.heap.size) wr w2) : AwL w d m j b l' A' w2 := ⟨h1, h.below.trans (bl_below h2 h.below.size)⟩
theorem AwL.on {w wr w2 : World} {d m j b : Nat} {l : List Fm} {A : Nat} (h : AwL w d m j b l A wr) (hb : Below wr.heap.size wr w2) : AwL w d m j b l A w2 := ⟨h.aw.on hb, h.below.trans (hb.mono h.below.size)⟩
set_option maxRecDepth 100000 in
set_option maxHeartbeats 8000000 in
theorem awake_any (w : World) : Calls Tryz.prog 7 #[] w fun e w' => e = .returned (.bool true) ∧ Below w.heap.size w w' := by
  go_enter Tryz.func7, Tryz.ntmps7
  go_wp2_with fail
  refine (new_sees 100 w).mono ?_
  rintro e w1 ⟨d, m, rfl, h, hb⟩
  have H1 := hid h
  have HB1 := hid hb
  clear h hb
  go_wp2_with fail
  refine (aw_new H1.out).mono ?_
  rintro e w2 ⟨j, b, rfl, h, hs⟩
  have H2 : Hid (AwL w d m j b [] 0 w2) := hid ⟨h, HB1.out.trans (bl_below hs HB1.out.size)⟩
  clear h hs H1 HB1
  have HPG : Hid (∀ (b : UInt8) (w : World), Calls Tryz.prog 13 #[.int .u8 (b.toNat : Int)] w fun e w' => e = .returned (.string (bs (pgL b))) ∧ Below w.heap.size w w') := hid page14_any
  go_wp2_with fail
  refine (HPG.out 1 _).mono ?_
  rintro e w3 ⟨rfl, hb⟩
  have H3 := hid (H2.out.on hb)
  clear hb H2
  go_wp2_with fail
  refine (aw_add H3.out.aw p1 (by decide) (by decide) (by decide)).mono ?_
  rintro e w4 ⟨rfl, h, hs⟩
  have H4 : Hid (AwL w d m j b [p1] 0 w4) := hid (H3.out.to h hs)
  clear h hs H3
  go_wp2_with fail
  refine (HPG.out 2 _).mono ?_
  rintro e w5 ⟨rfl, hb⟩
  have H5 := hid (H4.out.on hb)
  clear hb H4
  go_wp2_with fail
  refine (aw_add H5.out.aw p2 (by decide) (by decide) (by decide)).mono ?_
  rintro e w6 ⟨rfl, h, hs⟩
  have H6 : Hid (AwL w d m j b [p1, p2] 0 w6) := hid (H5.out.to h hs)
  clear h hs H5
  go_wp2_with fail
  refine (aw_sync H6.out.aw).mono ?_
  rintro e w7 ⟨rfl, ⟨A7, h, -⟩, hs⟩
  have H7 : Hid (AwL w d m j b [p1, p2] A7 w7) := hid (H6.out.to h hs)
  clear h hs H6
  go_wp2_with fail
  refine (HPG.out 3 _).mono ?_
  rintro e w8 ⟨rfl, hb⟩
  have H8 := hid (H7.out.on hb)
  clear hb H7
  go_wp2_with fail
  refine (aw_add H8.out.aw p3 (by decide) (by decide) (by decide)).mono ?_
  rintro e w9 ⟨rfl, h, hs⟩
  have H9 : Hid (AwL w d m j b (fms [q1, q2, q3]) A7 w9) := hid (by rw [fms_q]; exact H8.out.to h hs)
  clear h hs H8
  go_wp2_with fail
  refine (aw_get H9.out.aw 3 (by decide)).mono ?_
  rintro e w10 ⟨rfl, h, hs⟩
  have H10 := hid (H9.out.to h hs)
  rw [show ([q1, q2, q3] : List FI).length = 3 from rfl, want_q, pg_ne]
  clear h hs H9
  go_wp2_with fail
  refine (aw_len H10.out.aw).mono ?_
  rintro e w11 ⟨rfl, rfl⟩
  rw [fms_q] at H10 ⊢
  go_wp2_with fail
  refine (aw_open H10.out.aw small_q).mono ?_
  rintro e w12 ⟨j', b', f', n, M', rfl, hp, hF, hs⟩
  obtain rfl := found_q hF
  have HB12 := hid (H10.out.below.trans (bl_below hs H10.out.below.size))
  have HP12 : Hid (PL (Bl w.heap.size) d m j' b' f' M' (frs (fms [q1, q2])) w12) := hid (by rw [fms_q2]; exact hp)
  have HH12 : Hid (Holds (fms [q1, q2]) M') := hid (by rw [fms_q2]; exact hF.holds)
  clear hp hF hs H10
  obtain ⟨M13, e13, hs13⟩ := get_holds HH12.out 3
  have hg := get_any HP12.out ((3 : Nat) : Int) (wf_of (by decide) (by decide))
  rw [e13, show ([q1, q2] : List FI).length = 2 from rfl, want_q2, pg_ne] at hg
  have HG := hid hg
  have HS13 := hid hs13
  clear e13 hs13 hg
  go_wp2_with fail
  refine HG.out.mono ?_
  rintro e w13 ⟨rfl, hp, hs⟩
  have HP13 := hid hp
  have HB13 := hid (HB12.out.trans (bl_below hs HB12.out.size))
  clear hp hs HG
  go_wp2_with fail
  refine (pages_any HP13.out).mono ?_
  rintro e w14 ⟨v, rfl, hpg⟩
  have HP14 := hid (HP13.out.on hpg.bel)
  have HB14 := hid (HB13.out.trans (hpg.bel.mono HB13.out.size))
  have hrow := hpg.row
  rw [fms_q2, pages_q] at hrow
  obtain ⟨g, cap, rfl, hcap, hg, hcell⟩ := int_at hrow (by decide)
  have g0 : w14.cell? ⟨g, 0, none⟩ = some (.int .i64 3) := hcell 0 (by decide)
  have g1 : w14.cell? ⟨g, 1, none⟩ = some (.int .i64 4) := hcell 1 (by decide)
  have hcap2 : (1 : Int) < (cap : Int) := by have : (2 : Nat) ≤ cap := hcap; omega
  have hcap1 : (0 : Int) < (cap : Int) := by have : (2 : Nat) ≤ cap := hcap; omega
  rw [show ([3, 4] : List Nat).length = 2 from rfl]
  have HS14 : Hid (M13.size ln = 3) := hid (holds_size (HH12.out.same HS13.out) (by decide))
  have HG0 : Hid (∀ wx, Below w14.heap.size w14 wx → wx.cell? ⟨g, 0, none⟩ = some (.int .i64 3) ∧ wx.cell? ⟨g, 1, none⟩ = some (.int .i64 4)) := hid (fun wx hx => ⟨(hx.cell (p := ⟨g, 0, none⟩) hg).trans g0, (hx.cell (p := ⟨g, 1, none⟩) hg).trans g1⟩)
  clear hrow hcell hcap hg g0 g1 hpg HS13 HH12 HB12 HB13 HP12 HP13
  go_wp2_with fail
  refine (HPG.out 3 _).mono ?_
  rintro e w15 ⟨rfl, hb⟩
  have HB15 := hid hb
  clear hb
  go_wp2_with fail
  refine (len_any (HP14.out.on HB15.out)).mono ?_
  rintro e w16 ⟨rfl, rfl⟩
  rw [show (frs (fms [q1, q2])).length = 2 by rw [frs_len]; rfl]
  go_wp2_with fail
  refine (HPG.out 1 _).mono ?_
  rintro e w17 ⟨rfl, hb⟩
  have HB17 := hid (HB15.out.trans (hb.mono HB15.out.size))
  obtain ⟨k0, k1⟩ := HG0.out w17 HB17.out
  clear hb
  go_wp2_with fail
  refine (HP14.out.on HB17.out).size_.mono ?_
  rintro e w18 ⟨rfl, rfl⟩
  rw [HS14.out]
  have HEND := hid (HB14.out.trans (HB17.out.mono HB14.out.size))
  go_wp2
  go_ret
  exact ⟨rfl, HEND.out⟩
end Lo
end Go.Proofs.YtgmbiiocjhkpdaaGreat
