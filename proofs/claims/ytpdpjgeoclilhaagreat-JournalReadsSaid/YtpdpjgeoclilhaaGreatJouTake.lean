/-
  Contract of take: whether what counts goes on with the next sector.
-/
import Derived.Test.YtpdpjgeoclilhaaGreatJouFoot
import Derived.Test.YtpdpjgeoclilhaaGreatGrpJSea
namespace Go.Proofs.YtpdpjgeoclilhaaGreat
open Go.RowKit Go.Shelf
namespace Jo
open Num (hid)
open Seal (wp_region_quiet_in open_any open_says open_seal open_size openV openE saysV zeroV part)
open Mem (Bs bs tS Chg ptr blk_cell blk_free blk_new blk_set blk_other blk_alloc row_kept row_shape row_type)
variable {p : Nat} {v : Value} {f : Fnd} {w w' : World}

theorem bs_list (l : Bs) : (bs l).data.toList = l := rfl
theorem bs_take (l : Bs) (n : Nat) : (bs l).extract 0 n = bs (l.take n) := by
  apply ByteArray.ext
  simp [bs, ByteArray.data_extract]
theorem kD_len {l : Bs} (h : okB l = true) : (kD l).length = 232 := by
  have := (okB_iff.1 h).1
  unfold kD
  rw [List.length_take]; omega
theorem kK_lt (l : Bs) : kK l < 4294967296 := Seal.numAt_lt l 232 4
theorem kN_lt (l : Bs) : kN l < 4294967296 := Seal.numAt_lt l 236 4
theorem open_ok {l : Bs} (h : okB l = true) : openV (bs l) = sV (kK l) (kN l) (kS l) (bs (kD l)) ∧ openE (bs l) = 0 := by
  obtain ⟨h1, h2⟩ := okB_iff.1 h
  have hs : (bs l).size = 256 := by show l.toArray.size = 256; simpa using h1
  obtain ⟨e1, e2⟩ := open_says hs (show Seal.right (bs l).data.toList from h2)
  refine ⟨?_, e2⟩
  rw [e1]
  unfold saysV sV kD
  rw [bs_take]
  rfl
theorem open_not {l : Bs} (h : okB l = false) : openV (bs l) = zeroV ∧ openE (bs l) ≠ 0 := by
  by_cases h1 : l.length = 256
  · have hs : (bs l).size = 256 := by show l.toArray.size = 256; simpa using h1
    have hr : ¬ Seal.right (bs l).data.toList := fun e => by rw [okB_iff.2 ⟨h1, e⟩] at h; cases h
    obtain ⟨e1, e2⟩ := open_seal hs hr
    exact ⟨e1, by rw [e2]; decide⟩
  · have hs : ¬ (bs l).size = 256 := fun e => h1 (by have : l.toArray.size = 256 := e; simpa using this)
    obtain ⟨e1, e2⟩ := open_size hs
    exact ⟨e1, by rw [e2]; decide⟩
/-- What a foot makes of it. -/
def footN (f : Fnd) (S N : Nat) (d : Bs) : Option Fnd := if rightNd f N d = false then none else some ⟨true, S, f.recs, f.above, f.feet + 1, footPd f d, f.recs.length⟩
theorem footN_is (f : Fnd) (l : Bs) : (if rightFoot f l = false then none else some ⟨true, kS l, f.recs, f.above, f.feet + 1, footP f l, f.recs.length⟩ : Option Fnd) = footN f (kS l) (kN l) (kD l) := by
  have hrn := right_nd f l
  have hfp : footP f l = footPd f (kD l) := by unfold footPd footP kD; rw [head_take]
  unfold footN
  rw [hrn, hfp]
/-- The first sector's salt. -/
theorem FB.begins (h : FB p v f w) (S : Nat) : FB p v ⟨true, S, f.recs, f.above, f.feet, f.pages, f.counted⟩ ((w.setCell ⟨p, 0, none⟩ (.bool true)).setCell ⟨p, 1, none⟩ (.int .u64 (S : Nat))) ∧ Chg (· = p) w ((w.setCell ⟨p, 0, none⟩ (.bool true)).setCell ⟨p, 1, none⟩ (.int .u64 (S : Nat))) := by
  have hs : Chg (· = p) w ((w.setCell ⟨p, 0, none⟩ (.bool true)).setCell ⟨p, 1, none⟩ (.int .u64 (S : Nat))) := ((Chg.refl (· = p) w).root 0 _).root 1 _
  refine ⟨⟨?_, row_kept h.row hs (fun g hg e => h.ne g hg e), h.ne⟩, hs⟩
  have := blk_set (blk_set h.box 0 (.bool true)) 1 (.int .u64 (S : Nat))
  simpa [fCells] using this
theorem Took.after {w1 : World} {g : Fnd} (hc : Chg (fT p v) w w1) (h : Took p v w1 g w') : Took p v w g w' := by
  obtain ⟨v', h1, h2, h3⟩ := h
  exact ⟨v', h1, hc.trans h2, fun k hk => (h3 k hk).imp_right fun e => Nat.le_trans hc.size e⟩
/-- What take gives: where it stops, what was found stays as it was but for the salt. -/
def TakeG (p : Nat) (v : Value) (w : World) (f : Fnd) (r : Option Fnd) (e : Ending) (w' : World) : Prop :=
  match r with
  | some g => e = .returned (.bool true) ∧ Took p v w g w'
  | none => e = .returned (.bool false) ∧ ∃ b s, Took p v w ⟨b, s, f.recs, f.above, f.feet, f.pages, f.counted⟩ w'
theorem TakeG.no {e : Ending} {b : Bool} {s : Nat} (he : e = .returned (.bool false)) (h : Took p v w ⟨b, s, f.recs, f.above, f.feet, f.pages, f.counted⟩ w') : TakeG p v w f none e w' := ⟨he, b, s, h⟩

set_option maxRecDepth 100000 in
set_option maxHeartbeats 2000000 in
theorem take_bad (h : FB p v f w) (l : Bs) (hok : okB l = false) : Calls Tryz.prog 47 #[ptr p, .string (bs l)] w fun e w' => e = .returned (.bool false) ∧ Took p v w f w' := by
  have ho := open_any (bs l)
  obtain ⟨e1, e2⟩ := open_not hok
  rw [e1] at ho
  have he : (openE (bs l) != 0) = true := by simp [e2]
  generalize openE (bs l) = r at *
  unfold zeroV at ho
  have HO := hid ho
  have H := hid h
  have E2 := hid e2
  clear ho h hok e1 e2
  go_enter Tryz.func47, Tryz.ntmps47
  go_wp2_with fail
  refine (HO.out _).mono ?_
  rintro e w1 ⟨rfl, hb1⟩
  have HB := hid hb1
  clear hb1
  go_wp2
  go_ret
  exact ⟨rfl, Took.stay H.out (HB.out.alloc HB.out.size _)⟩

set_option maxRecDepth 100000 in
set_option maxHeartbeats 4000000 in
theorem take_b_salt (h : FB p v f w) (hb : Bnd f) (l : Bs) (hok : okB l = true) (hbg : f.begun = true) (hs : kS l ≠ f.salt) :
    Calls Tryz.prog 47 #[ptr p, .string (bs l)] w (TakeG p v w f none) := by
  have ho := open_any (bs l)
  obtain ⟨e1, e2⟩ := open_ok hok
  rw [e1, e2] at ho
  have hdl := kD_len hok
  obtain ⟨K, hKe⟩ : ∃ x, kK l = x := ⟨_, rfl⟩
  obtain ⟨N, hNe⟩ : ∃ x, kN l = x := ⟨_, rfl⟩
  obtain ⟨S, hSe⟩ : ∃ x, kS l = x := ⟨_, rfl⟩
  obtain ⟨d, hde⟩ : ∃ x, kD l = x := ⟨_, rfl⟩
  rw [hKe, hNe, hSe, hde] at ho
  rw [hSe] at hs
  rw [hde] at hdl
  clear hKe hNe hSe hde e1 e2
  have hs1 : ((S : Int) != (f.salt : Int)) = true := by simp; omega
  unfold sV at ho
  have HO := hid ho
  have H := hid h
  have HBN := hid hb
  have HDL := hid hdl
  have HBG := hid hbg
  clear hs
  clear ho h hb hdl hok
  go_enter Tryz.func47, Tryz.ntmps47
  go_wp2_with fail
  refine (HO.out _).mono ?_
  rintro e w1 ⟨rfl, hb1⟩
  have hF0 := H.out.on hb1
  have hlp := lt_of_block hF0.box
  have c0 : w1.cell? ⟨p, 0, none⟩ = some (.bool true) := (blk_cell hF0.box 0).trans (by rw [← hbg]; rfl)
  have H1 := hid hF0
  have HB := hid hb1
  clear hb1 hF0
  go_upto_region 4 with fail
  obtain ⟨w2, hw2⟩ : ∃ x, w1.alloc (.cells #[.int .i64 (K : Nat), .int .i64 (N : Nat), .int .u64 (S : Nat), .string (bs d)] tSe) = x := ⟨_, rfl⟩
  have hq : w2.heap[w1.heap.size]? = some (.cells #[.int .i64 (K : Nat), .int .i64 (N : Nat), .int .u64 (S : Nat), .string (bs d)] tSe (0, 0)) := by rw [← hw2]; exact blk_new w1 _
  have hb2 : Below w1.heap.size w1 w2 := by rw [← hw2]; exact (Below.refl _ _).alloc (Nat.le_refl _) _
  rw [hw2]
  have H2 := hid (H1.out.on hb2)
  have HC2 := hid ((Chg.of_below (F := fT p v) HB.out).trans (Chg.of_below hb2))
  have c2 : w2.cell? ⟨p, 0, none⟩ = some (.bool true) := (blk_cell H2.out.box 0).trans (by rw [← hbg]; rfl)
  have s0 : w2.cell? ⟨w1.heap.size, 0, none⟩ = some (.int .i64 (K : Nat)) := blk_cell hq 0
  have s1 : w2.cell? ⟨w1.heap.size, 1, none⟩ = some (.int .i64 (N : Nat)) := blk_cell hq 1
  have s2 : w2.cell? ⟨w1.heap.size, 2, none⟩ = some (.int .u64 (S : Nat)) := blk_cell hq 2
  have s3 : w2.cell? ⟨w1.heap.size, 3, none⟩ = some (.string (bs d)) := blk_cell hq 3
  have d1 : w2.cell? ⟨p, 1, none⟩ = some (.int .u64 (f.salt : Nat)) := blk_cell H2.out.box 1
  clear hw2 hb2 hbg c0 hq
  go_upto_region 6 with fail
  go_cut [27] (fun x wx => x = .bool true ∧ ∃ q, wx = w2.drewN q)
  case first =>
    go_region
    all_goals
      go_wp2_with fail
      go_meet
      exact ⟨rfl, 1, rfl⟩
  case rest =>
  obtain ⟨rfl, q, rfl⟩ := hcut
  have hbq : Below w2.heap.size w2 (w2.drewN q) := below_drewN (Below.refl _ _) q
  have H5 := hid (H2.out.on hbq)
  have HC5 := hid (HC2.out.trans (Chg.of_below hbq))
  have t0 : (w2.drewN q).cell? ⟨w1.heap.size, 0, none⟩ = some (.int .i64 (K : Nat)) := s0
  have t1 : (w2.drewN q).cell? ⟨w1.heap.size, 1, none⟩ = some (.int .i64 (N : Nat)) := s1
  have t2 : (w2.drewN q).cell? ⟨w1.heap.size, 2, none⟩ = some (.int .u64 (S : Nat)) := s2
  have t3 : (w2.drewN q).cell? ⟨w1.heap.size, 3, none⟩ = some (.string (bs d)) := s3
  clear hbq s0 s1 s2 s3 d1 H2 HC2
  generalize w2.drewN q = w5 at *
  go_wp2
  go_ret
  exact TakeG.no rfl ⟨v, H5.out, HC5.out, fun _ hk => Or.inl hk⟩

set_option maxRecDepth 100000 in
set_option maxHeartbeats 4000000 in
theorem take_b_recno (h : FB p v f w) (hb : Bnd f) (l : Bs) (hok : okB l = true) (hbg : f.begun = true) (hs : kS l = f.salt) (hK : kK l = 2) (hN : 4096 ≤ kN l) :
    Calls Tryz.prog 47 #[ptr p, .string (bs l)] w (TakeG p v w f none) := by
  have ho := open_any (bs l)
  obtain ⟨e1, e2⟩ := open_ok hok
  rw [e1, e2] at ho
  have hdl := kD_len hok
  obtain ⟨K, hKe⟩ : ∃ x, kK l = x := ⟨_, rfl⟩
  obtain ⟨N, hNe⟩ : ∃ x, kN l = x := ⟨_, rfl⟩
  obtain ⟨S, hSe⟩ : ∃ x, kS l = x := ⟨_, rfl⟩
  obtain ⟨d, hde⟩ : ∃ x, kD l = x := ⟨_, rfl⟩
  rw [hKe, hNe, hSe, hde] at ho
  rw [hSe] at hs
  rw [hKe] at hK
  rw [hNe] at hN
  rw [hde] at hdl
  clear hKe hNe hSe hde e1 e2
  have hK1 : ((K : Int) == 2) = true := by simp; omega
  subst hs
  have hs1 : ((f.salt : Int) != (f.salt : Int)) = false := by simp
  unfold sV at ho
  have HO := hid ho
  have H := hid h
  have HBN := hid hb
  have HDL := hid hdl
  have HN := hid hN
  clear hN hK
  have HBG := hid hbg
  clear ho h hb hdl hok
  go_enter Tryz.func47, Tryz.ntmps47
  go_wp2_with fail
  refine (HO.out _).mono ?_
  rintro e w1 ⟨rfl, hb1⟩
  have hF0 := H.out.on hb1
  have hlp := lt_of_block hF0.box
  have c0 : w1.cell? ⟨p, 0, none⟩ = some (.bool true) := (blk_cell hF0.box 0).trans (by rw [← hbg]; rfl)
  have H1 := hid hF0
  have HB := hid hb1
  clear hb1 hF0
  go_upto_region 4 with fail
  obtain ⟨w2, hw2⟩ : ∃ x, w1.alloc (.cells #[.int .i64 (K : Nat), .int .i64 (N : Nat), .int .u64 (f.salt : Nat), .string (bs d)] tSe) = x := ⟨_, rfl⟩
  have hq : w2.heap[w1.heap.size]? = some (.cells #[.int .i64 (K : Nat), .int .i64 (N : Nat), .int .u64 (f.salt : Nat), .string (bs d)] tSe (0, 0)) := by rw [← hw2]; exact blk_new w1 _
  have hb2 : Below w1.heap.size w1 w2 := by rw [← hw2]; exact (Below.refl _ _).alloc (Nat.le_refl _) _
  rw [hw2]
  have H2 := hid (H1.out.on hb2)
  have HC2 := hid ((Chg.of_below (F := fT p v) HB.out).trans (Chg.of_below hb2))
  have c2 : w2.cell? ⟨p, 0, none⟩ = some (.bool true) := (blk_cell H2.out.box 0).trans (by rw [← hbg]; rfl)
  have s0 : w2.cell? ⟨w1.heap.size, 0, none⟩ = some (.int .i64 (K : Nat)) := blk_cell hq 0
  have s1 : w2.cell? ⟨w1.heap.size, 1, none⟩ = some (.int .i64 (N : Nat)) := blk_cell hq 1
  have s2 : w2.cell? ⟨w1.heap.size, 2, none⟩ = some (.int .u64 (f.salt : Nat)) := blk_cell hq 2
  have s3 : w2.cell? ⟨w1.heap.size, 3, none⟩ = some (.string (bs d)) := blk_cell hq 3
  have d1 : w2.cell? ⟨p, 1, none⟩ = some (.int .u64 (f.salt : Nat)) := blk_cell H2.out.box 1
  clear hw2 hb2 hbg c0 hq
  go_upto_region 6 with fail
  go_cut [27] (fun x wx => x = .bool false ∧ ∃ q, wx = w2.drewN q)
  case first =>
    go_region
    all_goals
      go_wp2_with fail
      go_meet
      exact ⟨rfl, 1, rfl⟩
  case rest =>
  obtain ⟨rfl, q, rfl⟩ := hcut
  have hbq : Below w2.heap.size w2 (w2.drewN q) := below_drewN (Below.refl _ _) q
  have H5 := hid (H2.out.on hbq)
  have HC5 := hid (HC2.out.trans (Chg.of_below hbq))
  have t0 : (w2.drewN q).cell? ⟨w1.heap.size, 0, none⟩ = some (.int .i64 (K : Nat)) := s0
  have t1 : (w2.drewN q).cell? ⟨w1.heap.size, 1, none⟩ = some (.int .i64 (N : Nat)) := s1
  have t2 : (w2.drewN q).cell? ⟨w1.heap.size, 2, none⟩ = some (.int .u64 (f.salt : Nat)) := s2
  have t3 : (w2.drewN q).cell? ⟨w1.heap.size, 3, none⟩ = some (.string (bs d)) := s3
  clear hbq s0 s1 s2 s3 d1 H2 HC2
  generalize w2.drewN q = w5 at *
  go_wp2_with fail
  refine (takeRec_no K N f.salt d HN.out _).mono ?_
  rintro e w6 ⟨rfl, hb6⟩
  have HT := hid (Took.after HC5.out (Took.stay H5.out hb6))
  clear hb6
  go_wp2
  go_ret
  exact TakeG.no rfl HT.out

set_option maxRecDepth 100000 in
set_option maxHeartbeats 4000000 in
theorem take_b_rec (h : FB p v f w) (hb : Bnd f) (l : Bs) (hok : okB l = true) (hbg : f.begun = true) (hs : kS l = f.salt) (hK : kK l = 2) (hN : kN l < 4096) :
    Calls Tryz.prog 47 #[ptr p, .string (bs l)] w (TakeG p v w f (some ⟨true, kS l, f.recs ++ [(kN l, kD l)], max f.above (kN l + 1), f.feet, f.pages, f.counted⟩)) := by
  have ho := open_any (bs l)
  obtain ⟨e1, e2⟩ := open_ok hok
  rw [e1, e2] at ho
  have hdl := kD_len hok
  obtain ⟨K, hKe⟩ : ∃ x, kK l = x := ⟨_, rfl⟩
  obtain ⟨N, hNe⟩ : ∃ x, kN l = x := ⟨_, rfl⟩
  obtain ⟨S, hSe⟩ : ∃ x, kS l = x := ⟨_, rfl⟩
  obtain ⟨d, hde⟩ : ∃ x, kD l = x := ⟨_, rfl⟩
  rw [hKe, hNe, hSe, hde] at ho
  rw [hSe] at hs
  rw [hKe] at hK
  rw [hNe] at hN
  rw [hde] at hdl
  rw [hNe, hSe, hde]
  clear hKe hNe hSe hde e1 e2
  have hK1 : ((K : Int) == 2) = true := by simp; omega
  subst hs
  have hs1 : ((f.salt : Int) != (f.salt : Int)) = false := by simp
  unfold sV at ho
  have HO := hid ho
  have H := hid h
  have HBN := hid hb
  have HDL := hid hdl
  have HN := hid hN
  clear hN hK
  have HBG := hid hbg
  clear ho h hb hdl hok
  go_enter Tryz.func47, Tryz.ntmps47
  go_wp2_with fail
  refine (HO.out _).mono ?_
  rintro e w1 ⟨rfl, hb1⟩
  have hF0 := H.out.on hb1
  have hlp := lt_of_block hF0.box
  have c0 : w1.cell? ⟨p, 0, none⟩ = some (.bool true) := (blk_cell hF0.box 0).trans (by rw [← hbg]; rfl)
  have H1 := hid hF0
  have HB := hid hb1
  clear hb1 hF0
  go_upto_region 4 with fail
  obtain ⟨w2, hw2⟩ : ∃ x, w1.alloc (.cells #[.int .i64 (K : Nat), .int .i64 (N : Nat), .int .u64 (f.salt : Nat), .string (bs d)] tSe) = x := ⟨_, rfl⟩
  have hq : w2.heap[w1.heap.size]? = some (.cells #[.int .i64 (K : Nat), .int .i64 (N : Nat), .int .u64 (f.salt : Nat), .string (bs d)] tSe (0, 0)) := by rw [← hw2]; exact blk_new w1 _
  have hb2 : Below w1.heap.size w1 w2 := by rw [← hw2]; exact (Below.refl _ _).alloc (Nat.le_refl _) _
  rw [hw2]
  have H2 := hid (H1.out.on hb2)
  have HC2 := hid ((Chg.of_below (F := fT p v) HB.out).trans (Chg.of_below hb2))
  have c2 : w2.cell? ⟨p, 0, none⟩ = some (.bool true) := (blk_cell H2.out.box 0).trans (by rw [← hbg]; rfl)
  have s0 : w2.cell? ⟨w1.heap.size, 0, none⟩ = some (.int .i64 (K : Nat)) := blk_cell hq 0
  have s1 : w2.cell? ⟨w1.heap.size, 1, none⟩ = some (.int .i64 (N : Nat)) := blk_cell hq 1
  have s2 : w2.cell? ⟨w1.heap.size, 2, none⟩ = some (.int .u64 (f.salt : Nat)) := blk_cell hq 2
  have s3 : w2.cell? ⟨w1.heap.size, 3, none⟩ = some (.string (bs d)) := blk_cell hq 3
  have d1 : w2.cell? ⟨p, 1, none⟩ = some (.int .u64 (f.salt : Nat)) := blk_cell H2.out.box 1
  clear hw2 hb2 hbg c0 hq
  go_upto_region 6 with fail
  go_cut [27] (fun x wx => x = .bool false ∧ ∃ q, wx = w2.drewN q)
  case first =>
    go_region
    all_goals
      go_wp2_with fail
      go_meet
      exact ⟨rfl, 1, rfl⟩
  case rest =>
  obtain ⟨rfl, q, rfl⟩ := hcut
  have hbq : Below w2.heap.size w2 (w2.drewN q) := below_drewN (Below.refl _ _) q
  have H5 := hid (H2.out.on hbq)
  have HC5 := hid (HC2.out.trans (Chg.of_below hbq))
  have t0 : (w2.drewN q).cell? ⟨w1.heap.size, 0, none⟩ = some (.int .i64 (K : Nat)) := s0
  have t1 : (w2.drewN q).cell? ⟨w1.heap.size, 1, none⟩ = some (.int .i64 (N : Nat)) := s1
  have t2 : (w2.drewN q).cell? ⟨w1.heap.size, 2, none⟩ = some (.int .u64 (f.salt : Nat)) := s2
  have t3 : (w2.drewN q).cell? ⟨w1.heap.size, 3, none⟩ = some (.string (bs d)) := s3
  clear hbq s0 s1 s2 s3 d1 H2 HC2
  generalize w2.drewN q = w5 at *
  go_wp2_with fail
  refine (takeRec_yes H5.out HBN.out.recs K N f.salt d HN.out).mono ?_
  rintro e w6 ⟨rfl, ht⟩
  have HT := hid (Took.after HC5.out ht)
  clear ht
  go_wp2
  go_ret
  have := HT.out
  rw [HBG.out] at this
  exact ⟨rfl, this⟩

set_option maxRecDepth 100000 in
set_option maxHeartbeats 4000000 in
theorem take_b_foot (h : FB p v f w) (hb : Bnd f) (l : Bs) (hok : okB l = true) (hbg : f.begun = true) (hs : kS l = f.salt) (hK : kK l = 3) :
    Calls Tryz.prog 47 #[ptr p, .string (bs l)] w (TakeG p v w f (footN f (kS l) (kN l) (kD l))) := by
  have ho := open_any (bs l)
  obtain ⟨e1, e2⟩ := open_ok hok
  rw [e1, e2] at ho
  have hdl := kD_len hok
  obtain ⟨K, hKe⟩ : ∃ x, kK l = x := ⟨_, rfl⟩
  obtain ⟨N, hNe⟩ : ∃ x, kN l = x := ⟨_, rfl⟩
  obtain ⟨S, hSe⟩ : ∃ x, kS l = x := ⟨_, rfl⟩
  obtain ⟨d, hde⟩ : ∃ x, kD l = x := ⟨_, rfl⟩
  rw [hKe, hNe, hSe, hde] at ho
  rw [hSe] at hs
  rw [hKe] at hK
  rw [hde] at hdl
  rw [hNe, hSe, hde]
  clear hKe hNe hSe hde e1 e2
  have hK1 : ((K : Int) == 2) = false := by simp; omega
  have hK2 : ((K : Int) == 3) = true := by simp; omega
  subst hs
  have hs1 : ((f.salt : Int) != (f.salt : Int)) = false := by simp
  unfold sV at ho
  have HO := hid ho
  have H := hid h
  have HBN := hid hb
  have HDL := hid hdl
  have HK := hid hK
  clear hK
  have HBG := hid hbg
  clear ho h hb hdl hok
  go_enter Tryz.func47, Tryz.ntmps47
  go_wp2_with fail
  refine (HO.out _).mono ?_
  rintro e w1 ⟨rfl, hb1⟩
  have hF0 := H.out.on hb1
  have hlp := lt_of_block hF0.box
  have c0 : w1.cell? ⟨p, 0, none⟩ = some (.bool true) := (blk_cell hF0.box 0).trans (by rw [← hbg]; rfl)
  have H1 := hid hF0
  have HB := hid hb1
  clear hb1 hF0
  go_upto_region 4 with fail
  obtain ⟨w2, hw2⟩ : ∃ x, w1.alloc (.cells #[.int .i64 (K : Nat), .int .i64 (N : Nat), .int .u64 (f.salt : Nat), .string (bs d)] tSe) = x := ⟨_, rfl⟩
  have hq : w2.heap[w1.heap.size]? = some (.cells #[.int .i64 (K : Nat), .int .i64 (N : Nat), .int .u64 (f.salt : Nat), .string (bs d)] tSe (0, 0)) := by rw [← hw2]; exact blk_new w1 _
  have hb2 : Below w1.heap.size w1 w2 := by rw [← hw2]; exact (Below.refl _ _).alloc (Nat.le_refl _) _
  rw [hw2]
  have H2 := hid (H1.out.on hb2)
  have HC2 := hid ((Chg.of_below (F := fT p v) HB.out).trans (Chg.of_below hb2))
  have c2 : w2.cell? ⟨p, 0, none⟩ = some (.bool true) := (blk_cell H2.out.box 0).trans (by rw [← hbg]; rfl)
  have s0 : w2.cell? ⟨w1.heap.size, 0, none⟩ = some (.int .i64 (K : Nat)) := blk_cell hq 0
  have s1 : w2.cell? ⟨w1.heap.size, 1, none⟩ = some (.int .i64 (N : Nat)) := blk_cell hq 1
  have s2 : w2.cell? ⟨w1.heap.size, 2, none⟩ = some (.int .u64 (f.salt : Nat)) := blk_cell hq 2
  have s3 : w2.cell? ⟨w1.heap.size, 3, none⟩ = some (.string (bs d)) := blk_cell hq 3
  have d1 : w2.cell? ⟨p, 1, none⟩ = some (.int .u64 (f.salt : Nat)) := blk_cell H2.out.box 1
  clear hw2 hb2 hbg c0 hq
  go_upto_region 6 with fail
  go_cut [27] (fun x wx => x = .bool false ∧ ∃ q, wx = w2.drewN q)
  case first =>
    go_region
    all_goals
      go_wp2_with fail
      go_meet
      exact ⟨rfl, 1, rfl⟩
  case rest =>
  obtain ⟨rfl, q, rfl⟩ := hcut
  have hbq : Below w2.heap.size w2 (w2.drewN q) := below_drewN (Below.refl _ _) q
  have H5 := hid (H2.out.on hbq)
  have HC5 := hid (HC2.out.trans (Chg.of_below hbq))
  have t0 : (w2.drewN q).cell? ⟨w1.heap.size, 0, none⟩ = some (.int .i64 (K : Nat)) := s0
  have t1 : (w2.drewN q).cell? ⟨w1.heap.size, 1, none⟩ = some (.int .i64 (N : Nat)) := s1
  have t2 : (w2.drewN q).cell? ⟨w1.heap.size, 2, none⟩ = some (.int .u64 (f.salt : Nat)) := s2
  have t3 : (w2.drewN q).cell? ⟨w1.heap.size, 3, none⟩ = some (.string (bs d)) := s3
  clear hbq s0 s1 s2 s3 d1 H2 HC2
  generalize w2.drewN q = w5 at *
  go_wp2_with fail
  have htf := takeFoot_any H5.out HBN.out HBG.out K N HK.out d HDL.out
  by_cases hr : rightNd f N d = false
  · rw [if_pos hr] at htf
    have HF := hid htf
    have HR := hid hr
    clear htf hr
    refine HF.out.mono ?_
    rintro e w6 ⟨rfl, ht⟩
    have HT := hid (Took.after HC5.out ht)
    clear ht
    go_wp2
    go_ret
    unfold footN
    rw [if_pos HR.out]
    exact TakeG.no rfl HT.out
  · rw [if_neg hr] at htf
    have HF := hid htf
    have HR := hid hr
    clear htf hr
    refine HF.out.mono ?_
    rintro e w6 ⟨rfl, ht⟩
    have HT := hid (Took.after HC5.out ht)
    clear ht
    go_wp2
    go_ret
    unfold footN
    rw [if_neg HR.out]
    exact ⟨rfl, HT.out⟩

set_option maxRecDepth 100000 in
set_option maxHeartbeats 4000000 in
theorem take_b_other (h : FB p v f w) (hb : Bnd f) (l : Bs) (hok : okB l = true) (hbg : f.begun = true) (hs : kS l = f.salt) (hK2 : kK l ≠ 2) (hK3 : kK l ≠ 3) :
    Calls Tryz.prog 47 #[ptr p, .string (bs l)] w (TakeG p v w f none) := by
  have ho := open_any (bs l)
  obtain ⟨e1, e2⟩ := open_ok hok
  rw [e1, e2] at ho
  have hdl := kD_len hok
  obtain ⟨K, hKe⟩ : ∃ x, kK l = x := ⟨_, rfl⟩
  obtain ⟨N, hNe⟩ : ∃ x, kN l = x := ⟨_, rfl⟩
  obtain ⟨S, hSe⟩ : ∃ x, kS l = x := ⟨_, rfl⟩
  obtain ⟨d, hde⟩ : ∃ x, kD l = x := ⟨_, rfl⟩
  rw [hKe, hNe, hSe, hde] at ho
  rw [hSe] at hs
  rw [hKe] at hK2 hK3
  rw [hde] at hdl
  clear hKe hNe hSe hde e1 e2
  have hK4 : ((K : Int) == 2) = false := by simp; omega
  have hK5 : ((K : Int) == 3) = false := by simp; omega
  clear hK2 hK3
  subst hs
  have hs1 : ((f.salt : Int) != (f.salt : Int)) = false := by simp
  unfold sV at ho
  have HO := hid ho
  have H := hid h
  have HBN := hid hb
  have HDL := hid hdl
  have HBG := hid hbg
  clear ho h hb hdl hok
  go_enter Tryz.func47, Tryz.ntmps47
  go_wp2_with fail
  refine (HO.out _).mono ?_
  rintro e w1 ⟨rfl, hb1⟩
  have hF0 := H.out.on hb1
  have hlp := lt_of_block hF0.box
  have c0 : w1.cell? ⟨p, 0, none⟩ = some (.bool true) := (blk_cell hF0.box 0).trans (by rw [← hbg]; rfl)
  have H1 := hid hF0
  have HB := hid hb1
  clear hb1 hF0
  go_upto_region 4 with fail
  obtain ⟨w2, hw2⟩ : ∃ x, w1.alloc (.cells #[.int .i64 (K : Nat), .int .i64 (N : Nat), .int .u64 (f.salt : Nat), .string (bs d)] tSe) = x := ⟨_, rfl⟩
  have hq : w2.heap[w1.heap.size]? = some (.cells #[.int .i64 (K : Nat), .int .i64 (N : Nat), .int .u64 (f.salt : Nat), .string (bs d)] tSe (0, 0)) := by rw [← hw2]; exact blk_new w1 _
  have hb2 : Below w1.heap.size w1 w2 := by rw [← hw2]; exact (Below.refl _ _).alloc (Nat.le_refl _) _
  rw [hw2]
  have H2 := hid (H1.out.on hb2)
  have HC2 := hid ((Chg.of_below (F := fT p v) HB.out).trans (Chg.of_below hb2))
  have c2 : w2.cell? ⟨p, 0, none⟩ = some (.bool true) := (blk_cell H2.out.box 0).trans (by rw [← hbg]; rfl)
  have s0 : w2.cell? ⟨w1.heap.size, 0, none⟩ = some (.int .i64 (K : Nat)) := blk_cell hq 0
  have s1 : w2.cell? ⟨w1.heap.size, 1, none⟩ = some (.int .i64 (N : Nat)) := blk_cell hq 1
  have s2 : w2.cell? ⟨w1.heap.size, 2, none⟩ = some (.int .u64 (f.salt : Nat)) := blk_cell hq 2
  have s3 : w2.cell? ⟨w1.heap.size, 3, none⟩ = some (.string (bs d)) := blk_cell hq 3
  have d1 : w2.cell? ⟨p, 1, none⟩ = some (.int .u64 (f.salt : Nat)) := blk_cell H2.out.box 1
  clear hw2 hb2 hbg c0 hq
  go_upto_region 6 with fail
  go_cut [27] (fun x wx => x = .bool false ∧ ∃ q, wx = w2.drewN q)
  case first =>
    go_region
    all_goals
      go_wp2_with fail
      go_meet
      exact ⟨rfl, 1, rfl⟩
  case rest =>
  obtain ⟨rfl, q, rfl⟩ := hcut
  have hbq : Below w2.heap.size w2 (w2.drewN q) := below_drewN (Below.refl _ _) q
  have H5 := hid (H2.out.on hbq)
  have HC5 := hid (HC2.out.trans (Chg.of_below hbq))
  have t0 : (w2.drewN q).cell? ⟨w1.heap.size, 0, none⟩ = some (.int .i64 (K : Nat)) := s0
  have t1 : (w2.drewN q).cell? ⟨w1.heap.size, 1, none⟩ = some (.int .i64 (N : Nat)) := s1
  have t2 : (w2.drewN q).cell? ⟨w1.heap.size, 2, none⟩ = some (.int .u64 (f.salt : Nat)) := s2
  have t3 : (w2.drewN q).cell? ⟨w1.heap.size, 3, none⟩ = some (.string (bs d)) := s3
  clear hbq s0 s1 s2 s3 d1 H2 HC2
  generalize w2.drewN q = w5 at *
  go_wp2
  go_ret
  exact TakeG.no rfl ⟨v, H5.out, HC5.out, fun _ hk => Or.inl hk⟩

set_option maxRecDepth 100000 in
set_option maxHeartbeats 4000000 in
theorem take_n_recno (h : FB p v f w) (hb : Bnd f) (l : Bs) (hok : okB l = true) (hbg : f.begun = false) (hK : kK l = 2) (hN : 4096 ≤ kN l) :
    Calls Tryz.prog 47 #[ptr p, .string (bs l)] w (TakeG p v w f none) := by
  have ho := open_any (bs l)
  obtain ⟨e1, e2⟩ := open_ok hok
  rw [e1, e2] at ho
  have hdl := kD_len hok
  obtain ⟨K, hKe⟩ : ∃ x, kK l = x := ⟨_, rfl⟩
  obtain ⟨N, hNe⟩ : ∃ x, kN l = x := ⟨_, rfl⟩
  obtain ⟨S, hSe⟩ : ∃ x, kS l = x := ⟨_, rfl⟩
  obtain ⟨d, hde⟩ : ∃ x, kD l = x := ⟨_, rfl⟩
  rw [hKe, hNe, hSe, hde] at ho
  rw [hKe] at hK
  rw [hNe] at hN
  rw [hde] at hdl
  clear hKe hNe hSe hde e1 e2
  have hK1 : ((K : Int) == 2) = true := by simp; omega
  have hs1 : ((S : Int) != (S : Int)) = false := by simp
  unfold sV at ho
  have HO := hid ho
  have H := hid h
  have HBN := hid hb
  have HDL := hid hdl
  have HN := hid hN
  clear hN hK
  clear ho h hb hdl hok
  go_enter Tryz.func47, Tryz.ntmps47
  go_wp2_with fail
  refine (HO.out _).mono ?_
  rintro e w1 ⟨rfl, hb1⟩
  have hF0 := H.out.on hb1
  have hlp := lt_of_block hF0.box
  have c0 : w1.cell? ⟨p, 0, none⟩ = some (.bool false) := (blk_cell hF0.box 0).trans (by rw [← hbg]; rfl)
  have H1 := hid hF0
  have HB := hid hb1
  clear hb1 hF0
  go_upto_region 4 with fail
  obtain ⟨w2, hw2⟩ : ∃ x, w1.alloc (.cells #[.int .i64 (K : Nat), .int .i64 (N : Nat), .int .u64 (S : Nat), .string (bs d)] tSe) = x := ⟨_, rfl⟩
  have hq : w2.heap[w1.heap.size]? = some (.cells #[.int .i64 (K : Nat), .int .i64 (N : Nat), .int .u64 (S : Nat), .string (bs d)] tSe (0, 0)) := by rw [← hw2]; exact blk_new w1 _
  have hb2 : Below w1.heap.size w1 w2 := by rw [← hw2]; exact (Below.refl _ _).alloc (Nat.le_refl _) _
  rw [hw2]
  have H2 := hid (H1.out.on hb2)
  have HC2 := hid ((Chg.of_below (F := fT p v) HB.out).trans (Chg.of_below hb2))
  have c2 : w2.cell? ⟨p, 0, none⟩ = some (.bool false) := (blk_cell H2.out.box 0).trans (by rw [← hbg]; rfl)
  have s0 : w2.cell? ⟨w1.heap.size, 0, none⟩ = some (.int .i64 (K : Nat)) := blk_cell hq 0
  have s1 : w2.cell? ⟨w1.heap.size, 1, none⟩ = some (.int .i64 (N : Nat)) := blk_cell hq 1
  have s2 : w2.cell? ⟨w1.heap.size, 2, none⟩ = some (.int .u64 (S : Nat)) := blk_cell hq 2
  have s3 : w2.cell? ⟨w1.heap.size, 3, none⟩ = some (.string (bs d)) := blk_cell hq 3
  have g0 : w2.frozen? ⟨p, 0, none⟩ = false := blk_free H2.out.box 0
  have g1 : w2.frozen? ⟨p, 1, none⟩ = false := blk_free H2.out.box 1
  have d1 : w2.cell? ⟨p, 1, none⟩ = some (.int .u64 (f.salt : Nat)) := blk_cell H2.out.box 1
  have hne : w1.heap.size ≠ p := by omega
  have hqx := lt_of_block hq
  clear hw2 hb2 hbg c0
  go_upto_region 5 with fail
  go_cut [] (fun wx => wx = ((w2.setCell ⟨p, 0, none⟩ (.bool true)).setCell ⟨p, 1, none⟩ (.int .u64 (S : Nat))).drew)
  case first =>
    go_region
    all_goals
      go_wp2_with fail
      go_meet
      rfl
  case rest =>
  subst hcut
  obtain ⟨r1, r2⟩ := H2.out.begins S
  have H3 := hid r1
  have HC3 := hid (HC2.out.trans (r2.mono (fun k _ e => (Or.inl e : fT p v k))))
  have hq3 := r2.at hq hne
  clear s0 s1 s2 s3 g0 g1 d1 c2
  generalize (w2.setCell ⟨p, 0, none⟩ (.bool true)).setCell ⟨p, 1, none⟩ (.int .u64 (S : Nat)) = wy at *
  have hby : Below wy.heap.size wy wy.drew := (Below.refl _ _).drew
  replace H3 := hid (H3.out.on hby)
  replace HC3 := hid (HC3.out.trans (Chg.of_below hby))
  replace hq3 : wy.drew.heap[w1.heap.size]? = _ := hq3
  generalize wy.drew = w3 at *
  have s0 : w3.cell? ⟨w1.heap.size, 0, none⟩ = some (.int .i64 (K : Nat)) := blk_cell hq3 0
  have s1 : w3.cell? ⟨w1.heap.size, 1, none⟩ = some (.int .i64 (N : Nat)) := blk_cell hq3 1
  have s2 : w3.cell? ⟨w1.heap.size, 2, none⟩ = some (.int .u64 (S : Nat)) := blk_cell hq3 2
  have s3 : w3.cell? ⟨w1.heap.size, 3, none⟩ = some (.string (bs d)) := blk_cell hq3 3
  have d1 : w3.cell? ⟨p, 1, none⟩ = some (.int .u64 (S : Nat)) := blk_cell H3.out.box 1
  clear r1 r2 hq hq3 HC2 H2 hby
  go_upto_region 6 with fail
  go_cut [27] (fun x wx => x = .bool false ∧ ∃ q, wx = w3.drewN q)
  case first =>
    go_region
    all_goals
      go_wp2_with fail
      go_meet
      exact ⟨rfl, 1, rfl⟩
  case rest =>
  obtain ⟨rfl, q, rfl⟩ := hcut
  have hbq : Below w3.heap.size w3 (w3.drewN q) := below_drewN (Below.refl _ _) q
  have H5 := hid (H3.out.on hbq)
  have HC5 := hid (HC3.out.trans (Chg.of_below hbq))
  have t0 : (w3.drewN q).cell? ⟨w1.heap.size, 0, none⟩ = some (.int .i64 (K : Nat)) := s0
  have t1 : (w3.drewN q).cell? ⟨w1.heap.size, 1, none⟩ = some (.int .i64 (N : Nat)) := s1
  have t2 : (w3.drewN q).cell? ⟨w1.heap.size, 2, none⟩ = some (.int .u64 (S : Nat)) := s2
  have t3 : (w3.drewN q).cell? ⟨w1.heap.size, 3, none⟩ = some (.string (bs d)) := s3
  clear hbq s0 s1 s2 s3 d1 H3 HC3
  generalize w3.drewN q = w5 at *
  go_wp2_with fail
  refine (takeRec_no K N S d HN.out _).mono ?_
  rintro e w6 ⟨rfl, hb6⟩
  have HT := hid (Took.after HC5.out (Took.stay H5.out hb6))
  clear hb6
  go_wp2
  go_ret
  exact TakeG.no rfl HT.out

set_option maxRecDepth 100000 in
set_option maxHeartbeats 4000000 in
theorem take_n_rec (h : FB p v f w) (hb : Bnd f) (l : Bs) (hok : okB l = true) (hbg : f.begun = false) (hK : kK l = 2) (hN : kN l < 4096) :
    Calls Tryz.prog 47 #[ptr p, .string (bs l)] w (TakeG p v w f (some ⟨true, kS l, f.recs ++ [(kN l, kD l)], max f.above (kN l + 1), f.feet, f.pages, f.counted⟩)) := by
  have ho := open_any (bs l)
  obtain ⟨e1, e2⟩ := open_ok hok
  rw [e1, e2] at ho
  have hdl := kD_len hok
  obtain ⟨K, hKe⟩ : ∃ x, kK l = x := ⟨_, rfl⟩
  obtain ⟨N, hNe⟩ : ∃ x, kN l = x := ⟨_, rfl⟩
  obtain ⟨S, hSe⟩ : ∃ x, kS l = x := ⟨_, rfl⟩
  obtain ⟨d, hde⟩ : ∃ x, kD l = x := ⟨_, rfl⟩
  rw [hKe, hNe, hSe, hde] at ho
  rw [hKe] at hK
  rw [hNe] at hN
  rw [hde] at hdl
  rw [hNe, hSe, hde]
  clear hKe hNe hSe hde e1 e2
  have hK1 : ((K : Int) == 2) = true := by simp; omega
  have hs1 : ((S : Int) != (S : Int)) = false := by simp
  unfold sV at ho
  have HO := hid ho
  have H := hid h
  have HBN := hid hb
  have HDL := hid hdl
  have HN := hid hN
  clear hN hK
  clear ho h hb hdl hok
  go_enter Tryz.func47, Tryz.ntmps47
  go_wp2_with fail
  refine (HO.out _).mono ?_
  rintro e w1 ⟨rfl, hb1⟩
  have hF0 := H.out.on hb1
  have hlp := lt_of_block hF0.box
  have c0 : w1.cell? ⟨p, 0, none⟩ = some (.bool false) := (blk_cell hF0.box 0).trans (by rw [← hbg]; rfl)
  have H1 := hid hF0
  have HB := hid hb1
  clear hb1 hF0
  go_upto_region 4 with fail
  obtain ⟨w2, hw2⟩ : ∃ x, w1.alloc (.cells #[.int .i64 (K : Nat), .int .i64 (N : Nat), .int .u64 (S : Nat), .string (bs d)] tSe) = x := ⟨_, rfl⟩
  have hq : w2.heap[w1.heap.size]? = some (.cells #[.int .i64 (K : Nat), .int .i64 (N : Nat), .int .u64 (S : Nat), .string (bs d)] tSe (0, 0)) := by rw [← hw2]; exact blk_new w1 _
  have hb2 : Below w1.heap.size w1 w2 := by rw [← hw2]; exact (Below.refl _ _).alloc (Nat.le_refl _) _
  rw [hw2]
  have H2 := hid (H1.out.on hb2)
  have HC2 := hid ((Chg.of_below (F := fT p v) HB.out).trans (Chg.of_below hb2))
  have c2 : w2.cell? ⟨p, 0, none⟩ = some (.bool false) := (blk_cell H2.out.box 0).trans (by rw [← hbg]; rfl)
  have s0 : w2.cell? ⟨w1.heap.size, 0, none⟩ = some (.int .i64 (K : Nat)) := blk_cell hq 0
  have s1 : w2.cell? ⟨w1.heap.size, 1, none⟩ = some (.int .i64 (N : Nat)) := blk_cell hq 1
  have s2 : w2.cell? ⟨w1.heap.size, 2, none⟩ = some (.int .u64 (S : Nat)) := blk_cell hq 2
  have s3 : w2.cell? ⟨w1.heap.size, 3, none⟩ = some (.string (bs d)) := blk_cell hq 3
  have g0 : w2.frozen? ⟨p, 0, none⟩ = false := blk_free H2.out.box 0
  have g1 : w2.frozen? ⟨p, 1, none⟩ = false := blk_free H2.out.box 1
  have d1 : w2.cell? ⟨p, 1, none⟩ = some (.int .u64 (f.salt : Nat)) := blk_cell H2.out.box 1
  have hne : w1.heap.size ≠ p := by omega
  have hqx := lt_of_block hq
  clear hw2 hb2 hbg c0
  go_upto_region 5 with fail
  go_cut [] (fun wx => wx = ((w2.setCell ⟨p, 0, none⟩ (.bool true)).setCell ⟨p, 1, none⟩ (.int .u64 (S : Nat))).drew)
  case first =>
    go_region
    all_goals
      go_wp2_with fail
      go_meet
      rfl
  case rest =>
  subst hcut
  obtain ⟨r1, r2⟩ := H2.out.begins S
  have H3 := hid r1
  have HC3 := hid (HC2.out.trans (r2.mono (fun k _ e => (Or.inl e : fT p v k))))
  have hq3 := r2.at hq hne
  clear s0 s1 s2 s3 g0 g1 d1 c2
  generalize (w2.setCell ⟨p, 0, none⟩ (.bool true)).setCell ⟨p, 1, none⟩ (.int .u64 (S : Nat)) = wy at *
  have hby : Below wy.heap.size wy wy.drew := (Below.refl _ _).drew
  replace H3 := hid (H3.out.on hby)
  replace HC3 := hid (HC3.out.trans (Chg.of_below hby))
  replace hq3 : wy.drew.heap[w1.heap.size]? = _ := hq3
  generalize wy.drew = w3 at *
  have s0 : w3.cell? ⟨w1.heap.size, 0, none⟩ = some (.int .i64 (K : Nat)) := blk_cell hq3 0
  have s1 : w3.cell? ⟨w1.heap.size, 1, none⟩ = some (.int .i64 (N : Nat)) := blk_cell hq3 1
  have s2 : w3.cell? ⟨w1.heap.size, 2, none⟩ = some (.int .u64 (S : Nat)) := blk_cell hq3 2
  have s3 : w3.cell? ⟨w1.heap.size, 3, none⟩ = some (.string (bs d)) := blk_cell hq3 3
  have d1 : w3.cell? ⟨p, 1, none⟩ = some (.int .u64 (S : Nat)) := blk_cell H3.out.box 1
  clear r1 r2 hq hq3 HC2 H2 hby
  go_upto_region 6 with fail
  go_cut [27] (fun x wx => x = .bool false ∧ ∃ q, wx = w3.drewN q)
  case first =>
    go_region
    all_goals
      go_wp2_with fail
      go_meet
      exact ⟨rfl, 1, rfl⟩
  case rest =>
  obtain ⟨rfl, q, rfl⟩ := hcut
  have hbq : Below w3.heap.size w3 (w3.drewN q) := below_drewN (Below.refl _ _) q
  have H5 := hid (H3.out.on hbq)
  have HC5 := hid (HC3.out.trans (Chg.of_below hbq))
  have t0 : (w3.drewN q).cell? ⟨w1.heap.size, 0, none⟩ = some (.int .i64 (K : Nat)) := s0
  have t1 : (w3.drewN q).cell? ⟨w1.heap.size, 1, none⟩ = some (.int .i64 (N : Nat)) := s1
  have t2 : (w3.drewN q).cell? ⟨w1.heap.size, 2, none⟩ = some (.int .u64 (S : Nat)) := s2
  have t3 : (w3.drewN q).cell? ⟨w1.heap.size, 3, none⟩ = some (.string (bs d)) := s3
  clear hbq s0 s1 s2 s3 d1 H3 HC3
  generalize w3.drewN q = w5 at *
  go_wp2_with fail
  refine (takeRec_yes H5.out HBN.out.recs K N S d HN.out).mono ?_
  rintro e w6 ⟨rfl, ht⟩
  have HT := hid (Took.after HC5.out ht)
  clear ht
  go_wp2
  go_ret
  exact ⟨rfl, HT.out⟩

set_option maxRecDepth 100000 in
set_option maxHeartbeats 4000000 in
theorem take_n_foot (h : FB p v f w) (hb : Bnd f) (l : Bs) (hok : okB l = true) (hbg : f.begun = false) (hK : kK l = 3) :
    Calls Tryz.prog 47 #[ptr p, .string (bs l)] w (TakeG p v w f (footN f (kS l) (kN l) (kD l))) := by
  have ho := open_any (bs l)
  obtain ⟨e1, e2⟩ := open_ok hok
  rw [e1, e2] at ho
  have hdl := kD_len hok
  obtain ⟨K, hKe⟩ : ∃ x, kK l = x := ⟨_, rfl⟩
  obtain ⟨N, hNe⟩ : ∃ x, kN l = x := ⟨_, rfl⟩
  obtain ⟨S, hSe⟩ : ∃ x, kS l = x := ⟨_, rfl⟩
  obtain ⟨d, hde⟩ : ∃ x, kD l = x := ⟨_, rfl⟩
  rw [hKe, hNe, hSe, hde] at ho
  rw [hKe] at hK
  rw [hde] at hdl
  rw [hNe, hSe, hde]
  clear hKe hNe hSe hde e1 e2
  have hK1 : ((K : Int) == 2) = false := by simp; omega
  have hK2 : ((K : Int) == 3) = true := by simp; omega
  have hs1 : ((S : Int) != (S : Int)) = false := by simp
  unfold sV at ho
  have HO := hid ho
  have H := hid h
  have HBN := hid hb
  have HDL := hid hdl
  have HK := hid hK
  clear hK
  clear ho h hb hdl hok
  go_enter Tryz.func47, Tryz.ntmps47
  go_wp2_with fail
  refine (HO.out _).mono ?_
  rintro e w1 ⟨rfl, hb1⟩
  have hF0 := H.out.on hb1
  have hlp := lt_of_block hF0.box
  have c0 : w1.cell? ⟨p, 0, none⟩ = some (.bool false) := (blk_cell hF0.box 0).trans (by rw [← hbg]; rfl)
  have H1 := hid hF0
  have HB := hid hb1
  clear hb1 hF0
  go_upto_region 4 with fail
  obtain ⟨w2, hw2⟩ : ∃ x, w1.alloc (.cells #[.int .i64 (K : Nat), .int .i64 (N : Nat), .int .u64 (S : Nat), .string (bs d)] tSe) = x := ⟨_, rfl⟩
  have hq : w2.heap[w1.heap.size]? = some (.cells #[.int .i64 (K : Nat), .int .i64 (N : Nat), .int .u64 (S : Nat), .string (bs d)] tSe (0, 0)) := by rw [← hw2]; exact blk_new w1 _
  have hb2 : Below w1.heap.size w1 w2 := by rw [← hw2]; exact (Below.refl _ _).alloc (Nat.le_refl _) _
  rw [hw2]
  have H2 := hid (H1.out.on hb2)
  have HC2 := hid ((Chg.of_below (F := fT p v) HB.out).trans (Chg.of_below hb2))
  have c2 : w2.cell? ⟨p, 0, none⟩ = some (.bool false) := (blk_cell H2.out.box 0).trans (by rw [← hbg]; rfl)
  have s0 : w2.cell? ⟨w1.heap.size, 0, none⟩ = some (.int .i64 (K : Nat)) := blk_cell hq 0
  have s1 : w2.cell? ⟨w1.heap.size, 1, none⟩ = some (.int .i64 (N : Nat)) := blk_cell hq 1
  have s2 : w2.cell? ⟨w1.heap.size, 2, none⟩ = some (.int .u64 (S : Nat)) := blk_cell hq 2
  have s3 : w2.cell? ⟨w1.heap.size, 3, none⟩ = some (.string (bs d)) := blk_cell hq 3
  have g0 : w2.frozen? ⟨p, 0, none⟩ = false := blk_free H2.out.box 0
  have g1 : w2.frozen? ⟨p, 1, none⟩ = false := blk_free H2.out.box 1
  have d1 : w2.cell? ⟨p, 1, none⟩ = some (.int .u64 (f.salt : Nat)) := blk_cell H2.out.box 1
  have hne : w1.heap.size ≠ p := by omega
  have hqx := lt_of_block hq
  clear hw2 hb2 hbg c0
  go_upto_region 5 with fail
  go_cut [] (fun wx => wx = ((w2.setCell ⟨p, 0, none⟩ (.bool true)).setCell ⟨p, 1, none⟩ (.int .u64 (S : Nat))).drew)
  case first =>
    go_region
    all_goals
      go_wp2_with fail
      go_meet
      rfl
  case rest =>
  subst hcut
  obtain ⟨r1, r2⟩ := H2.out.begins S
  have H3 := hid r1
  have HC3 := hid (HC2.out.trans (r2.mono (fun k _ e => (Or.inl e : fT p v k))))
  have hq3 := r2.at hq hne
  clear s0 s1 s2 s3 g0 g1 d1 c2
  generalize (w2.setCell ⟨p, 0, none⟩ (.bool true)).setCell ⟨p, 1, none⟩ (.int .u64 (S : Nat)) = wy at *
  have hby : Below wy.heap.size wy wy.drew := (Below.refl _ _).drew
  replace H3 := hid (H3.out.on hby)
  replace HC3 := hid (HC3.out.trans (Chg.of_below hby))
  replace hq3 : wy.drew.heap[w1.heap.size]? = _ := hq3
  generalize wy.drew = w3 at *
  have s0 : w3.cell? ⟨w1.heap.size, 0, none⟩ = some (.int .i64 (K : Nat)) := blk_cell hq3 0
  have s1 : w3.cell? ⟨w1.heap.size, 1, none⟩ = some (.int .i64 (N : Nat)) := blk_cell hq3 1
  have s2 : w3.cell? ⟨w1.heap.size, 2, none⟩ = some (.int .u64 (S : Nat)) := blk_cell hq3 2
  have s3 : w3.cell? ⟨w1.heap.size, 3, none⟩ = some (.string (bs d)) := blk_cell hq3 3
  have d1 : w3.cell? ⟨p, 1, none⟩ = some (.int .u64 (S : Nat)) := blk_cell H3.out.box 1
  clear r1 r2 hq hq3 HC2 H2 hby
  go_upto_region 6 with fail
  go_cut [27] (fun x wx => x = .bool false ∧ ∃ q, wx = w3.drewN q)
  case first =>
    go_region
    all_goals
      go_wp2_with fail
      go_meet
      exact ⟨rfl, 1, rfl⟩
  case rest =>
  obtain ⟨rfl, q, rfl⟩ := hcut
  have hbq : Below w3.heap.size w3 (w3.drewN q) := below_drewN (Below.refl _ _) q
  have H5 := hid (H3.out.on hbq)
  have HC5 := hid (HC3.out.trans (Chg.of_below hbq))
  have t0 : (w3.drewN q).cell? ⟨w1.heap.size, 0, none⟩ = some (.int .i64 (K : Nat)) := s0
  have t1 : (w3.drewN q).cell? ⟨w1.heap.size, 1, none⟩ = some (.int .i64 (N : Nat)) := s1
  have t2 : (w3.drewN q).cell? ⟨w1.heap.size, 2, none⟩ = some (.int .u64 (S : Nat)) := s2
  have t3 : (w3.drewN q).cell? ⟨w1.heap.size, 3, none⟩ = some (.string (bs d)) := s3
  clear hbq s0 s1 s2 s3 d1 H3 HC3
  generalize w3.drewN q = w5 at *
  go_wp2_with fail
  have htf := takeFoot_any H5.out (⟨HBN.out.counted, HBN.out.recs, HBN.out.feet, HBN.out.pages, HBN.out.above⟩ : Bnd ⟨true, S, f.recs, f.above, f.feet, f.pages, f.counted⟩) rfl K N HK.out d HDL.out
  have hrr : rightNd ⟨true, S, f.recs, f.above, f.feet, f.pages, f.counted⟩ N d = rightNd f N d := rfl
  rw [hrr] at htf
  by_cases hr : rightNd f N d = false
  · rw [if_pos hr] at htf
    have HF := hid htf
    have HR := hid hr
    clear htf hr
    refine HF.out.mono ?_
    rintro e w6 ⟨rfl, ht⟩
    have HT := hid (Took.after HC5.out ht)
    clear ht
    go_wp2
    go_ret
    unfold footN
    rw [if_pos HR.out]
    exact TakeG.no rfl HT.out
  · rw [if_neg hr] at htf
    have HF := hid htf
    have HR := hid hr
    clear htf hr
    refine HF.out.mono ?_
    rintro e w6 ⟨rfl, ht⟩
    have HT := hid (Took.after HC5.out ht)
    clear ht
    go_wp2
    go_ret
    unfold footN
    rw [if_neg HR.out]
    exact ⟨rfl, HT.out⟩

set_option maxRecDepth 100000 in
set_option maxHeartbeats 4000000 in
theorem take_n_other (h : FB p v f w) (hb : Bnd f) (l : Bs) (hok : okB l = true) (hbg : f.begun = false) (hK2 : kK l ≠ 2) (hK3 : kK l ≠ 3) :
    Calls Tryz.prog 47 #[ptr p, .string (bs l)] w (TakeG p v w f none) := by
  have ho := open_any (bs l)
  obtain ⟨e1, e2⟩ := open_ok hok
  rw [e1, e2] at ho
  have hdl := kD_len hok
  obtain ⟨K, hKe⟩ : ∃ x, kK l = x := ⟨_, rfl⟩
  obtain ⟨N, hNe⟩ : ∃ x, kN l = x := ⟨_, rfl⟩
  obtain ⟨S, hSe⟩ : ∃ x, kS l = x := ⟨_, rfl⟩
  obtain ⟨d, hde⟩ : ∃ x, kD l = x := ⟨_, rfl⟩
  rw [hKe, hNe, hSe, hde] at ho
  rw [hKe] at hK2 hK3
  rw [hde] at hdl
  clear hKe hNe hSe hde e1 e2
  have hK4 : ((K : Int) == 2) = false := by simp; omega
  have hK5 : ((K : Int) == 3) = false := by simp; omega
  clear hK2 hK3
  have hs1 : ((S : Int) != (S : Int)) = false := by simp
  unfold sV at ho
  have HO := hid ho
  have H := hid h
  have HBN := hid hb
  have HDL := hid hdl
  clear ho h hb hdl hok
  go_enter Tryz.func47, Tryz.ntmps47
  go_wp2_with fail
  refine (HO.out _).mono ?_
  rintro e w1 ⟨rfl, hb1⟩
  have hF0 := H.out.on hb1
  have hlp := lt_of_block hF0.box
  have c0 : w1.cell? ⟨p, 0, none⟩ = some (.bool false) := (blk_cell hF0.box 0).trans (by rw [← hbg]; rfl)
  have H1 := hid hF0
  have HB := hid hb1
  clear hb1 hF0
  go_upto_region 4 with fail
  obtain ⟨w2, hw2⟩ : ∃ x, w1.alloc (.cells #[.int .i64 (K : Nat), .int .i64 (N : Nat), .int .u64 (S : Nat), .string (bs d)] tSe) = x := ⟨_, rfl⟩
  have hq : w2.heap[w1.heap.size]? = some (.cells #[.int .i64 (K : Nat), .int .i64 (N : Nat), .int .u64 (S : Nat), .string (bs d)] tSe (0, 0)) := by rw [← hw2]; exact blk_new w1 _
  have hb2 : Below w1.heap.size w1 w2 := by rw [← hw2]; exact (Below.refl _ _).alloc (Nat.le_refl _) _
  rw [hw2]
  have H2 := hid (H1.out.on hb2)
  have HC2 := hid ((Chg.of_below (F := fT p v) HB.out).trans (Chg.of_below hb2))
  have c2 : w2.cell? ⟨p, 0, none⟩ = some (.bool false) := (blk_cell H2.out.box 0).trans (by rw [← hbg]; rfl)
  have s0 : w2.cell? ⟨w1.heap.size, 0, none⟩ = some (.int .i64 (K : Nat)) := blk_cell hq 0
  have s1 : w2.cell? ⟨w1.heap.size, 1, none⟩ = some (.int .i64 (N : Nat)) := blk_cell hq 1
  have s2 : w2.cell? ⟨w1.heap.size, 2, none⟩ = some (.int .u64 (S : Nat)) := blk_cell hq 2
  have s3 : w2.cell? ⟨w1.heap.size, 3, none⟩ = some (.string (bs d)) := blk_cell hq 3
  have g0 : w2.frozen? ⟨p, 0, none⟩ = false := blk_free H2.out.box 0
  have g1 : w2.frozen? ⟨p, 1, none⟩ = false := blk_free H2.out.box 1
  have d1 : w2.cell? ⟨p, 1, none⟩ = some (.int .u64 (f.salt : Nat)) := blk_cell H2.out.box 1
  have hne : w1.heap.size ≠ p := by omega
  have hqx := lt_of_block hq
  clear hw2 hb2 hbg c0
  go_upto_region 5 with fail
  go_cut [] (fun wx => wx = ((w2.setCell ⟨p, 0, none⟩ (.bool true)).setCell ⟨p, 1, none⟩ (.int .u64 (S : Nat))).drew)
  case first =>
    go_region
    all_goals
      go_wp2_with fail
      go_meet
      rfl
  case rest =>
  subst hcut
  obtain ⟨r1, r2⟩ := H2.out.begins S
  have H3 := hid r1
  have HC3 := hid (HC2.out.trans (r2.mono (fun k _ e => (Or.inl e : fT p v k))))
  have hq3 := r2.at hq hne
  clear s0 s1 s2 s3 g0 g1 d1 c2
  generalize (w2.setCell ⟨p, 0, none⟩ (.bool true)).setCell ⟨p, 1, none⟩ (.int .u64 (S : Nat)) = wy at *
  have hby : Below wy.heap.size wy wy.drew := (Below.refl _ _).drew
  replace H3 := hid (H3.out.on hby)
  replace HC3 := hid (HC3.out.trans (Chg.of_below hby))
  replace hq3 : wy.drew.heap[w1.heap.size]? = _ := hq3
  generalize wy.drew = w3 at *
  have s0 : w3.cell? ⟨w1.heap.size, 0, none⟩ = some (.int .i64 (K : Nat)) := blk_cell hq3 0
  have s1 : w3.cell? ⟨w1.heap.size, 1, none⟩ = some (.int .i64 (N : Nat)) := blk_cell hq3 1
  have s2 : w3.cell? ⟨w1.heap.size, 2, none⟩ = some (.int .u64 (S : Nat)) := blk_cell hq3 2
  have s3 : w3.cell? ⟨w1.heap.size, 3, none⟩ = some (.string (bs d)) := blk_cell hq3 3
  have d1 : w3.cell? ⟨p, 1, none⟩ = some (.int .u64 (S : Nat)) := blk_cell H3.out.box 1
  clear r1 r2 hq hq3 HC2 H2 hby
  go_upto_region 6 with fail
  go_cut [27] (fun x wx => x = .bool false ∧ ∃ q, wx = w3.drewN q)
  case first =>
    go_region
    all_goals
      go_wp2_with fail
      go_meet
      exact ⟨rfl, 1, rfl⟩
  case rest =>
  obtain ⟨rfl, q, rfl⟩ := hcut
  have hbq : Below w3.heap.size w3 (w3.drewN q) := below_drewN (Below.refl _ _) q
  have H5 := hid (H3.out.on hbq)
  have HC5 := hid (HC3.out.trans (Chg.of_below hbq))
  have t0 : (w3.drewN q).cell? ⟨w1.heap.size, 0, none⟩ = some (.int .i64 (K : Nat)) := s0
  have t1 : (w3.drewN q).cell? ⟨w1.heap.size, 1, none⟩ = some (.int .i64 (N : Nat)) := s1
  have t2 : (w3.drewN q).cell? ⟨w1.heap.size, 2, none⟩ = some (.int .u64 (S : Nat)) := s2
  have t3 : (w3.drewN q).cell? ⟨w1.heap.size, 3, none⟩ = some (.string (bs d)) := s3
  clear hbq s0 s1 s2 s3 d1 H3 HC3
  generalize w3.drewN q = w5 at *
  go_wp2
  go_ret
  exact TakeG.no rfl ⟨v, H5.out, HC5.out, fun _ hk => Or.inl hk⟩

/-- take, whatever bytes come. -/
theorem take_any (h : FB p v f w) (hb : Bnd f) (l : Bs) : Calls Tryz.prog 47 #[ptr p, .string (bs l)] w (TakeG p v w f (takeF f l)) := by
  cases hok : okB l with
  | false =>
    have e : takeF f l = none := by unfold takeF; rw [if_pos hok]
    rw [e]
    exact (take_bad h l hok).mono fun e w' ⟨he, ht⟩ => TakeG.no he ht
  | true =>
    unfold takeF
    rw [if_neg (by rw [hok]; decide)]
    have nos : ¬ (f.begun = true ∧ kS l ≠ f.salt) → Calls Tryz.prog 47 #[ptr p, .string (bs l)] w (TakeG p v w f (if kK l = 2 then (if 4096 ≤ kN l then none else some ⟨true, kS l, f.recs ++ [(kN l, kD l)], max f.above (kN l + 1), f.feet, f.pages, f.counted⟩) else if kK l = 3 then (if rightFoot f l = false then none else some ⟨true, kS l, f.recs, f.above, f.feet + 1, footP f l, f.recs.length⟩) else none)) := fun hn => by
      rw [footN_is]
      by_cases hK : kK l = 2
      · rw [if_pos hK]
        by_cases hN : 4096 ≤ kN l
        · rw [if_pos hN]
          cases hbg : f.begun with
          | true => exact take_b_recno h hb l hok hbg (by by_cases e : kS l = f.salt; · exact e
                                                          · exact absurd ⟨hbg, e⟩ hn) hK hN
          | false => exact take_n_recno h hb l hok hbg hK hN
        · rw [if_neg hN]
          cases hbg : f.begun with
          | true => exact take_b_rec h hb l hok hbg (by by_cases e : kS l = f.salt; · exact e
                                                        · exact absurd ⟨hbg, e⟩ hn) hK (by omega)
          | false => exact take_n_rec h hb l hok hbg hK (by omega)
      · rw [if_neg hK]
        by_cases hK3 : kK l = 3
        · rw [if_pos hK3]
          cases hbg : f.begun with
          | true => exact take_b_foot h hb l hok hbg (by by_cases e : kS l = f.salt; · exact e
                                                         · exact absurd ⟨hbg, e⟩ hn) hK3
          | false => exact take_n_foot h hb l hok hbg hK3
        · rw [if_neg hK3]
          cases hbg : f.begun with
          | true => exact take_b_other h hb l hok hbg (by by_cases e : kS l = f.salt; · exact e
                                                          · exact absurd ⟨hbg, e⟩ hn) hK hK3
          | false => exact take_n_other h hb l hok hbg hK hK3
    by_cases hs : f.begun = true ∧ kS l ≠ f.salt
    · rw [if_pos hs]
      exact take_b_salt h hb l hok hs.1 hs.2
    · rw [if_neg hs]
      exact nos hs

end Jo
end Go.Proofs.YtpdpjgeoclilhaaGreat
