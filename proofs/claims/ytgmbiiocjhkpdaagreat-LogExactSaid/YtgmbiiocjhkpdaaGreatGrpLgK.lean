/-
  Put together: LogExactKa, LogExactKb, LogExactKc.
-/
import Derived.Test.YtgmbiiocjhkpdaaGreatGrpLgX
/-
  LogExact's round: Add, Sync.
-/
namespace Go.Proofs.YtgmbiiocjhkpdaaGreat
open Go.RowKit Go.Shelf
namespace Lt
open Lo
open Num (hid)
open Disk (Mod Fil Sees Stays)
open Mem (Bs bs LAt tI ptr blk_cell blk_free blk_new blk_set blk_other blk_alloc row_kept row_shape row_type)
variable {w wr w2 wc : World} {d m r jj cc jj' cc' k nl : Nat} {E : Int} {o : Bool} {M : Mod} {fs : List Fr} {l : Lg} {xk xn : Int} {xf : UInt8} {xc : Bool} {xq : List Int} {fao : Option Addr} {fn fcap : Nat} {p0 p1 p2 p3 p4 p5 p6 p7 p8 p9 pa pb pc pd pe pf pg ph pi pj pk pl pm pn po pp pq pr ps pt pu pv pw px py pz p10 p11 p12 p13 p14 p15 p16 p17 p18 p19 p1a p1b p1c p1d p1e p1f p1g p1h p1i p1j p1k p1l p1m p1n p1o p1p p1q p1r p1s p1t p1u p1v p1w p1x p1y p1z p20 p21 p22 p23 p24 p25 p26 p27 p28 p29 p2a p2b p2c p2d p2e p2f p2g p2h p2i p2j p2k p2l p2m p2n p2o p2p p2q p2r p2s p2t p2u p2v p2w p2x p2y p2z p30 p31 p32 p33 p34 p35 p36 p37 p38 p39 p3a p3b p3c p3d p3e p3f p3g p3h p3i p3j p3k p3l p3m p3n p3o p3p p3q p3r p3s p3t p3u p3v p3w p3x p3y p3z p40 p41 p42 p43 p44 p45 p46 p47 p48 p49 p4a p4b p4c p4d p4e p4f p4g p4h p4i p4j p4k p4l p4m p4n p4o p4p p4q p4r p4s p4t p4u p4v p4w p4x p4y p4z p50 p51 p52 p53 p54 p55 p56 p57 p58 p59 p5a p5b p5c p5d p5e p5f p5g p5h p5i p5j p5k p5l p5m p5n p5o p5p p5q p5r p5s p5t p5u p5v p5w p5x p5y p5z p60 p61 p62 p63 p64 p65 p66 p67 p68 p69 p6a p6b p6c p6d p6e p6f p6g p6h p6i p6j p6k p6l p6m p6n p6o p6p p6q p6r p6s p6t p6u p6v p6w p6x p6y p6z p70 p71 p72 p73 p74 p75 : Value}
set_option maxRecDepth 100000 in
set_option maxHeartbeats 8000000 in
theorem sw_1 (code : Code) (hc : blkOf Tryz.f3 2 = some code) (K : Act → World → Prop) (Q2 : Exit → Act → World → Prop)
    (HEI : Hid (EI w d m r jj cc k false M fs l wr)) (HLT : Hid (k < nl ∧ k < 80)) (HB2 : Hid (Below wr.heap.size wr w2)) (HQ : Hid (w2.heap[wr.heap.size]? = some (obA 1 xn xf xc fao fn fcap))) (HK : HKp w wr w2 d m r k 1 (obA 1 xn xf xc fao fn fcap) K p0 p1 p6 p8 pa po pp pq pr ps pt pu pv pw px py pz p10 p11 p12 p13 p14 p15 p16 p17 p6u p6v p6w p6x p6y p6z p70 p71 p72 p73 p74 p75) :
    Code.wp Tryz.prog code (Exit.then K Q2) { tmps := #[p0,p1,p2,ptr d,Disk.ptr r,ptr jj,p6,ptr cc,p8,Value.bool false,pa,Value.pointer (some { block := wr.heap.size, off := 0 }),Value.int IntKind.i64 0,Value.int IntKind.i64 0,pe,pf,pg,ph,pi,pj,pk,pl,pm,pn,po,pp,pq,pr,ps,pt,pu,pv,pw,px,py,pz,p10,p11,p12,p13,p14,p15,p16,p17,p18,p19,p1a,p1b,p1c,p1d,p1e,p1f,p1g,p1h,p1i,p1j,p1k,p1l,p1m,p1n,p1o,p1p,p1q,p1r,p1s,p1t,p1u,p1v,p1w,p1x,Value.int IntKind.i64 1,p1z,p20,p21,p22,p23,p24,p25,p26,p27,p28,p29,p2a,p2b,p2c,p2d,p2e,p2f,p2g,p2h,p2i,p2j,p2k,p2l,p2m,p2n,p2o,p2p,p2q,p2r,p2s,p2t,p2u,p2v,p2w,p2x,p2y,p2z,p30,p31,p32,p33,p34,p35,p36,p37,p38,p39,p3a,p3b,p3c,p3d,p3e,p3f,p3g,p3h,p3i,p3j,p3k,p3l,p3m,p3n,p3o,p3p,p3q,p3r,p3s,p3t,p3u,p3v,p3w,p3x,p3y,p3z,p40,p41,p42,p43,p44,p45,p46,p47,p48,p49,p4a,p4b,p4c,p4d,p4e,p4f,p4g,p4h,p4i,p4j,p4k,p4l,p4m,p4n,p4o,p4p,p4q,p4r,p4s,p4t,p4u,p4v,p4w,p4x,p4y,p4z,p50,p51,p52,p53,p54,p55,p56,p57,p58,p59,p5a,p5b,p5c,p5d,p5e,p5f,p5g,p5h,p5i,p5j,p5k,p5l,p5m,p5n,p5o,p5p,p5q,p5r,p5s,p5t,p5u,p5v,p5w,p5x,p5y,p5z,p60,p61,p62,p63,p64,p65,p66,p67,p68,p69,p6a,p6b,p6c,p6d,p6e,p6f,p6g,p6h,p6i,p6j,p6k,p6l,p6m,p6n,p6o,p6p,p6q,p6r,p6s,p6t,p6u,p6v,p6w,p6x,p6y,p6z,p70,p71,p72,p73,p74,p75], defers := [] } w2 := by
  conv at hc => lhs; whnf
  injection hc with hc
  subst hc
  have CX : Hid (∀ wx, Below w2.heap.size w2 wx → wx.heap[wr.heap.size]? = some (obA 1 xn xf xc fao fn fcap)) := hid (fun wx hb => blk_below HQ.out hb)
  obtain ⟨E, M', fs', l', G, hP⟩ := ex_add HEI.out HLT.out.2 HB2.out HQ.out xn (pgL xf) xc
  have HP := hid hP
  clear hP
  go_upto_region 19 with fail
  refine Tail.wp_region_quiet_tail 8 (fun wx => Below w2.heap.size w2 wx) (by kernel_rfl) (by kernel_rfl) (below_dN (Below.refl _ w2) 1) ?_
  simp only [List.take_succ_cons, List.take_zero, List.drop_succ_cons, List.drop_zero]
  go_big_quiet_want
  go_big_quiet_op
  go_big_quiet_on
  go_big_quiet_want
  go_big_quiet_op
  apply Exists.intro
  refine ⟨fun _ _ => ?_, ?_⟩
  · with_reducible exact Eq.refl _
  go_big_quiet_on
  go_big_quiet_want
  go_big_quiet_op
  refine ⟨.int .i64 xn, fun wx hx => ?_, ?_⟩
  · have c : wx.cell? ⟨wr.heap.size, 1, none⟩ = some (.int .i64 xn) := blk_cell (CX.out wx hx) 1
    simp [go_sem, c]
  go_big_quiet_on
  go_big_quiet_want
  go_big_quiet_op
  apply Exists.intro
  refine ⟨fun _ _ => ?_, ?_⟩
  · with_reducible exact Eq.refl _
  go_big_quiet_on
  go_big_quiet_want
  go_big_quiet_op
  refine ⟨.int .u8 (xf.toNat : Int), fun wx hx => ?_, ?_⟩
  · have c : wx.cell? ⟨wr.heap.size, 2, none⟩ = some (.int .u8 (xf.toNat : Int)) := blk_cell (CX.out wx hx) 2
    simp [go_sem, c]
  go_big_quiet_on
  go_big_quiet_want
  go_big_quiet_op
  refine ⟨.string (bs (pgL xf)), fun wx hx => ?_, ?_⟩
  · refine (page14_any xf wx).mono ?_
    rintro e w9 ⟨rfl, hb9⟩
    exact ⟨rfl, hx.trans (hb9.mono hx.size)⟩
  go_big_quiet_on
  go_big_quiet_want
  go_big_quiet_op
  apply Exists.intro
  refine ⟨fun _ _ => ?_, ?_⟩
  · with_reducible exact Eq.refl _
  go_big_quiet_on
  go_big_quiet_want
  go_big_quiet_op
  refine ⟨.bool xc, fun wx hx => ?_, ?_⟩
  · have c : wx.cell? ⟨wr.heap.size, 3, none⟩ = some (.bool xc) := blk_cell (CX.out wx hx) 3
    simp [go_sem, c]
  go_big_quiet_on
  refine wpQuiet_nil ?_
  intro w3 hb3
  have HB3 := hid hb3
  clear hb3
  go_wp2_with fail
  refine (HP.out.one w3 HB3.out).mono ?_
  rintro e w4 ⟨rfl, h4⟩
  dsimp only
  have H4 := hid h4
  clear h4
  go_upto_region 20 with fail
  refine Tail.wp_region_quiet_tail 8 (fun wx => G wx) (by kernel_rfl) (by kernel_rfl) (HP.out.on _ _ H4.out (below_dN (Below.refl _ _) 1)) ?_
  simp only [List.take_succ_cons, List.take_zero, List.drop_succ_cons, List.drop_zero]
  go_big_quiet_want
  go_big_quiet_op
  go_big_quiet_on
  go_big_quiet_want
  go_big_quiet_op
  apply Exists.intro
  refine ⟨fun _ _ => ?_, ?_⟩
  · with_reducible exact Eq.refl _
  go_big_quiet_on
  go_big_quiet_want
  go_big_quiet_op
  refine ⟨.int .i64 xn, fun wx hx => ?_, ?_⟩
  · have c : wx.cell? ⟨wr.heap.size, 1, none⟩ = some (.int .i64 xn) := blk_cell (HP.out.blk wx hx) 1
    simp [go_sem, c]
  go_big_quiet_on
  go_big_quiet_want
  go_big_quiet_op
  apply Exists.intro
  refine ⟨fun _ _ => ?_, ?_⟩
  · with_reducible exact Eq.refl _
  go_big_quiet_on
  go_big_quiet_want
  go_big_quiet_op
  refine ⟨.int .u8 (xf.toNat : Int), fun wx hx => ?_, ?_⟩
  · have c : wx.cell? ⟨wr.heap.size, 2, none⟩ = some (.int .u8 (xf.toNat : Int)) := blk_cell (HP.out.blk wx hx) 2
    simp [go_sem, c]
  go_big_quiet_on
  go_big_quiet_want
  go_big_quiet_op
  refine ⟨.string (bs (pgL xf)), fun wx hx => ?_, ?_⟩
  · refine (page14_any xf wx).mono ?_
    rintro e w9 ⟨rfl, hb9⟩
    exact ⟨rfl, HP.out.on _ _ hx hb9⟩
  go_big_quiet_on
  go_big_quiet_want
  go_big_quiet_op
  apply Exists.intro
  refine ⟨fun _ _ => ?_, ?_⟩
  · with_reducible exact Eq.refl _
  go_big_quiet_on
  go_big_quiet_want
  go_big_quiet_op
  refine ⟨.bool xc, fun wx hx => ?_, ?_⟩
  · have c : wx.cell? ⟨wr.heap.size, 3, none⟩ = some (.bool xc) := blk_cell (HP.out.blk wx hx) 3
    simp [go_sem, c]
  go_big_quiet_on
  refine wpQuiet_nil ?_
  intro w5 hg5
  have H5 := hid hg5
  clear hg5
  go_wp2_with fail
  refine (HP.out.two _ H5.out).mono ?_
  rintro e w6 ⟨rfl, h6, hc6⟩
  dsimp only
  have HZ := hid h6
  have HC := hid hc6
  clear h6 hc6
  go_wp2_with fail
  exact HK.out jj cc E _ (hid ⟨_, _, _, HZ.out⟩) HC
set_option maxRecDepth 100000 in
set_option maxHeartbeats 8000000 in
theorem sw_2 (code : Code) (hc : blkOf Tryz.f3 2 = some code) (K : Act → World → Prop) (Q2 : Exit → Act → World → Prop)
    (HEI : Hid (EI w d m r jj cc k false M fs l wr)) (HB2 : Hid (Below wr.heap.size wr w2)) (HQ : Hid (w2.heap[wr.heap.size]? = some (obA 2 xn xf xc fao fn fcap))) (HK : HKp w wr w2 d m r k 2 (obA 2 xn xf xc fao fn fcap) K p0 p1 p6 p8 pa po pp pq pr ps pt pu pv pw px py pz p10 p11 p12 p13 p14 p15 p16 p17 p6u p6v p6w p6x p6y p6z p70 p71 p72 p73 p74 p75) :
    Code.wp Tryz.prog code (Exit.then K Q2) { tmps := #[p0,p1,p2,ptr d,Disk.ptr r,ptr jj,p6,ptr cc,p8,Value.bool false,pa,Value.pointer (some { block := wr.heap.size, off := 0 }),Value.int IntKind.i64 0,Value.int IntKind.i64 0,pe,pf,pg,ph,pi,pj,pk,pl,pm,pn,po,pp,pq,pr,ps,pt,pu,pv,pw,px,py,pz,p10,p11,p12,p13,p14,p15,p16,p17,p18,p19,p1a,p1b,p1c,p1d,p1e,p1f,p1g,p1h,p1i,p1j,p1k,p1l,p1m,p1n,p1o,p1p,p1q,p1r,p1s,p1t,p1u,p1v,p1w,p1x,Value.int IntKind.i64 2,p1z,p20,p21,p22,p23,p24,p25,p26,p27,p28,p29,p2a,p2b,p2c,p2d,p2e,p2f,p2g,p2h,p2i,p2j,p2k,p2l,p2m,p2n,p2o,p2p,p2q,p2r,p2s,p2t,p2u,p2v,p2w,p2x,p2y,p2z,p30,p31,p32,p33,p34,p35,p36,p37,p38,p39,p3a,p3b,p3c,p3d,p3e,p3f,p3g,p3h,p3i,p3j,p3k,p3l,p3m,p3n,p3o,p3p,p3q,p3r,p3s,p3t,p3u,p3v,p3w,p3x,p3y,p3z,p40,p41,p42,p43,p44,p45,p46,p47,p48,p49,p4a,p4b,p4c,p4d,p4e,p4f,p4g,p4h,p4i,p4j,p4k,p4l,p4m,p4n,p4o,p4p,p4q,p4r,p4s,p4t,p4u,p4v,p4w,p4x,p4y,p4z,p50,p51,p52,p53,p54,p55,p56,p57,p58,p59,p5a,p5b,p5c,p5d,p5e,p5f,p5g,p5h,p5i,p5j,p5k,p5l,p5m,p5n,p5o,p5p,p5q,p5r,p5s,p5t,p5u,p5v,p5w,p5x,p5y,p5z,p60,p61,p62,p63,p64,p65,p66,p67,p68,p69,p6a,p6b,p6c,p6d,p6e,p6f,p6g,p6h,p6i,p6j,p6k,p6l,p6m,p6n,p6o,p6p,p6q,p6r,p6s,p6t,p6u,p6v,p6w,p6x,p6y,p6z,p70,p71,p72,p73,p74,p75], defers := [] } w2 := by
  conv at hc => lhs; whnf
  injection hc with hc
  subst hc
  obtain ⟨E, M', G, hP⟩ := ex_sync HEI.out HB2.out HQ.out
  have HP := hid hP
  clear hP
  go_wp2_with fail
  refine (HP.out.one w2 (Below.refl _ _)).mono ?_
  rintro e w3 ⟨rfl, h3⟩
  dsimp only
  have H3 := hid h3
  clear h3
  go_wp2_with fail
  refine (HP.out.two _ H3.out).mono ?_
  rintro e w4 ⟨rfl, h4, hc4⟩
  dsimp only
  have HZ := hid h4
  have HC := hid hc4
  clear h4 hc4
  go_wp2_with fail
  exact HK.out jj cc E _ (hid ⟨_, _, _, HZ.out⟩) HC
end Lt
end Go.Proofs.YtgmbiiocjhkpdaaGreat

/-
  LogExact's round: Get, Back, End.
-/
namespace Go.Proofs.YtgmbiiocjhkpdaaGreat
open Go.RowKit Go.Shelf
namespace Lt
open Lo
open Num (hid)
open Disk (Mod Fil Sees Stays)
open Mem (Bs bs LAt tI ptr blk_cell blk_free blk_new blk_set blk_other blk_alloc row_kept row_shape row_type)
variable {w wr w2 wc : World} {d m r jj cc jj' cc' k nl : Nat} {E : Int} {o : Bool} {M : Mod} {fs : List Fr} {l : Lg} {xk xn : Int} {xf : UInt8} {xc : Bool} {xq : List Int} {fao : Option Addr} {fn fcap : Nat} {p0 p1 p2 p3 p4 p5 p6 p7 p8 p9 pa pb pc pd pe pf pg ph pi pj pk pl pm pn po pp pq pr ps pt pu pv pw px py pz p10 p11 p12 p13 p14 p15 p16 p17 p18 p19 p1a p1b p1c p1d p1e p1f p1g p1h p1i p1j p1k p1l p1m p1n p1o p1p p1q p1r p1s p1t p1u p1v p1w p1x p1y p1z p20 p21 p22 p23 p24 p25 p26 p27 p28 p29 p2a p2b p2c p2d p2e p2f p2g p2h p2i p2j p2k p2l p2m p2n p2o p2p p2q p2r p2s p2t p2u p2v p2w p2x p2y p2z p30 p31 p32 p33 p34 p35 p36 p37 p38 p39 p3a p3b p3c p3d p3e p3f p3g p3h p3i p3j p3k p3l p3m p3n p3o p3p p3q p3r p3s p3t p3u p3v p3w p3x p3y p3z p40 p41 p42 p43 p44 p45 p46 p47 p48 p49 p4a p4b p4c p4d p4e p4f p4g p4h p4i p4j p4k p4l p4m p4n p4o p4p p4q p4r p4s p4t p4u p4v p4w p4x p4y p4z p50 p51 p52 p53 p54 p55 p56 p57 p58 p59 p5a p5b p5c p5d p5e p5f p5g p5h p5i p5j p5k p5l p5m p5n p5o p5p p5q p5r p5s p5t p5u p5v p5w p5x p5y p5z p60 p61 p62 p63 p64 p65 p66 p67 p68 p69 p6a p6b p6c p6d p6e p6f p6g p6h p6i p6j p6k p6l p6m p6n p6o p6p p6q p6r p6s p6t p6u p6v p6w p6x p6y p6z p70 p71 p72 p73 p74 p75 : Value}
set_option maxRecDepth 100000 in
set_option maxHeartbeats 8000000 in
theorem sw_3 (code : Code) (hc : blkOf Tryz.f3 2 = some code) (K : Act → World → Prop) (Q2 : Exit → Act → World → Prop)
    (HEI : Hid (EI w d m r jj cc k false M fs l wr)) (HB2 : Hid (Below wr.heap.size wr w2)) (HQ : Hid (w2.heap[wr.heap.size]? = some (obA 3 xn xf xc fao fn fcap))) (HX : Hid (AcOk w.heap.size wr ⟨3, xn, xf, xc, .slice fao fn fcap, xq⟩)) (HK : HKp w wr w2 d m r k 3 (obA 3 xn xf xc fao fn fcap) K p0 p1 p6 p8 pa po pp pq pr ps pt pu pv pw px py pz p10 p11 p12 p13 p14 p15 p16 p17 p6u p6v p6w p6x p6y p6z p70 p71 p72 p73 p74 p75) :
    Code.wp Tryz.prog code (Exit.then K Q2) { tmps := #[p0,p1,p2,ptr d,Disk.ptr r,ptr jj,p6,ptr cc,p8,Value.bool false,pa,Value.pointer (some { block := wr.heap.size, off := 0 }),Value.int IntKind.i64 0,Value.int IntKind.i64 0,pe,pf,pg,ph,pi,pj,pk,pl,pm,pn,po,pp,pq,pr,ps,pt,pu,pv,pw,px,py,pz,p10,p11,p12,p13,p14,p15,p16,p17,p18,p19,p1a,p1b,p1c,p1d,p1e,p1f,p1g,p1h,p1i,p1j,p1k,p1l,p1m,p1n,p1o,p1p,p1q,p1r,p1s,p1t,p1u,p1v,p1w,p1x,Value.int IntKind.i64 3,p1z,p20,p21,p22,p23,p24,p25,p26,p27,p28,p29,p2a,p2b,p2c,p2d,p2e,p2f,p2g,p2h,p2i,p2j,p2k,p2l,p2m,p2n,p2o,p2p,p2q,p2r,p2s,p2t,p2u,p2v,p2w,p2x,p2y,p2z,p30,p31,p32,p33,p34,p35,p36,p37,p38,p39,p3a,p3b,p3c,p3d,p3e,p3f,p3g,p3h,p3i,p3j,p3k,p3l,p3m,p3n,p3o,p3p,p3q,p3r,p3s,p3t,p3u,p3v,p3w,p3x,p3y,p3z,p40,p41,p42,p43,p44,p45,p46,p47,p48,p49,p4a,p4b,p4c,p4d,p4e,p4f,p4g,p4h,p4i,p4j,p4k,p4l,p4m,p4n,p4o,p4p,p4q,p4r,p4s,p4t,p4u,p4v,p4w,p4x,p4y,p4z,p50,p51,p52,p53,p54,p55,p56,p57,p58,p59,p5a,p5b,p5c,p5d,p5e,p5f,p5g,p5h,p5i,p5j,p5k,p5l,p5m,p5n,p5o,p5p,p5q,p5r,p5s,p5t,p5u,p5v,p5w,p5x,p5y,p5z,p60,p61,p62,p63,p64,p65,p66,p67,p68,p69,p6a,p6b,p6c,p6d,p6e,p6f,p6g,p6h,p6i,p6j,p6k,p6l,p6m,p6n,p6o,p6p,p6q,p6r,p6s,p6t,p6u,p6v,p6w,p6x,p6y,p6z,p70,p71,p72,p73,p74,p75], defers := [] } w2 := by
  conv at hc => lhs; whnf
  injection hc with hc
  subst hc
  obtain ⟨S, I, E, M', G, hP⟩ := ex_get HEI.out HB2.out HQ.out xn (wf_of HX.out.wf HX.out.n)
  have HP := hid hP
  clear hP
  generalize hB : bs S = B at *
  clear hB
  have b1 : (B.toList == B.toList) = true := by simp
  have b2 : (I != I) = false := by cases I <;> rfl
  have b3 : (E != E) = false := by simp
  have c1 : w2.cell? ⟨wr.heap.size, 1, none⟩ = some (.int .i64 xn) := blk_cell HQ.out 1
  go_wp2_with fail
  refine (HP.out.one w2 (Below.refl _ _)).mono ?_
  rintro e w3 ⟨rfl, h3⟩
  dsimp only
  have H3 := hid h3
  clear h3
  have d1 : w3.cell? ⟨wr.heap.size, 1, none⟩ = some (.int .i64 xn) := blk_cell (HP.out.blk _ H3.out) 1
  go_wp2_with fail
  refine (HP.out.two _ H3.out).mono ?_
  rintro e w4 ⟨rfl, h4, hc4⟩
  dsimp only
  have HZ := hid h4
  have HC := hid hc4
  clear h4 hc4
  go_wp2_with fail
  exact HK.out jj cc E _ (hid ⟨_, _, _, HZ.out⟩) HC
set_option maxRecDepth 100000 in
set_option maxHeartbeats 8000000 in
theorem sw_4 (code : Code) (hc : blkOf Tryz.f3 2 = some code) (K : Act → World → Prop) (Q2 : Exit → Act → World → Prop)
    (HEI : Hid (EI w d m r jj cc k false M fs l wr)) (HLT : Hid (k < nl ∧ k < 80)) (HB2 : Hid (Below wr.heap.size wr w2)) (HQ : Hid (w2.heap[wr.heap.size]? = some (obA 4 xn xf xc fao fn fcap))) (HK : HKp w wr w2 d m r k 4 (obA 4 xn xf xc fao fn fcap) K p0 p1 p6 p8 pa po pp pq pr ps pt pu pv pw px py pz p10 p11 p12 p13 p14 p15 p16 p17 p6u p6v p6w p6x p6y p6z p70 p71 p72 p73 p74 p75) :
    Code.wp Tryz.prog code (Exit.then K Q2) { tmps := #[p0,p1,p2,ptr d,Disk.ptr r,ptr jj,p6,ptr cc,p8,Value.bool false,pa,Value.pointer (some { block := wr.heap.size, off := 0 }),Value.int IntKind.i64 0,Value.int IntKind.i64 0,pe,pf,pg,ph,pi,pj,pk,pl,pm,pn,po,pp,pq,pr,ps,pt,pu,pv,pw,px,py,pz,p10,p11,p12,p13,p14,p15,p16,p17,p18,p19,p1a,p1b,p1c,p1d,p1e,p1f,p1g,p1h,p1i,p1j,p1k,p1l,p1m,p1n,p1o,p1p,p1q,p1r,p1s,p1t,p1u,p1v,p1w,p1x,Value.int IntKind.i64 4,p1z,p20,p21,p22,p23,p24,p25,p26,p27,p28,p29,p2a,p2b,p2c,p2d,p2e,p2f,p2g,p2h,p2i,p2j,p2k,p2l,p2m,p2n,p2o,p2p,p2q,p2r,p2s,p2t,p2u,p2v,p2w,p2x,p2y,p2z,p30,p31,p32,p33,p34,p35,p36,p37,p38,p39,p3a,p3b,p3c,p3d,p3e,p3f,p3g,p3h,p3i,p3j,p3k,p3l,p3m,p3n,p3o,p3p,p3q,p3r,p3s,p3t,p3u,p3v,p3w,p3x,p3y,p3z,p40,p41,p42,p43,p44,p45,p46,p47,p48,p49,p4a,p4b,p4c,p4d,p4e,p4f,p4g,p4h,p4i,p4j,p4k,p4l,p4m,p4n,p4o,p4p,p4q,p4r,p4s,p4t,p4u,p4v,p4w,p4x,p4y,p4z,p50,p51,p52,p53,p54,p55,p56,p57,p58,p59,p5a,p5b,p5c,p5d,p5e,p5f,p5g,p5h,p5i,p5j,p5k,p5l,p5m,p5n,p5o,p5p,p5q,p5r,p5s,p5t,p5u,p5v,p5w,p5x,p5y,p5z,p60,p61,p62,p63,p64,p65,p66,p67,p68,p69,p6a,p6b,p6c,p6d,p6e,p6f,p6g,p6h,p6i,p6j,p6k,p6l,p6m,p6n,p6o,p6p,p6q,p6r,p6s,p6t,p6u,p6v,p6w,p6x,p6y,p6z,p70,p71,p72,p73,p74,p75], defers := [] } w2 := by
  conv at hc => lhs; whnf
  injection hc with hc
  subst hc
  obtain ⟨E, M', fs', l', G, hP⟩ := ex_back HEI.out HLT.out.2 HB2.out HQ.out xn
  have HP := hid hP
  clear hP
  have c1 : w2.cell? ⟨wr.heap.size, 1, none⟩ = some (.int .i64 xn) := blk_cell HQ.out 1
  go_wp2_with fail
  refine (HP.out.one w2 (Below.refl _ _)).mono ?_
  rintro e w3 ⟨rfl, h3⟩
  dsimp only
  have H3 := hid h3
  clear h3
  have d1 : w3.cell? ⟨wr.heap.size, 1, none⟩ = some (.int .i64 xn) := blk_cell (HP.out.blk _ H3.out) 1
  go_wp2_with fail
  refine (HP.out.two _ H3.out).mono ?_
  rintro e w4 ⟨rfl, h4, hc4⟩
  dsimp only
  have HZ := hid h4
  have HC := hid hc4
  clear h4 hc4
  go_wp2_with fail
  exact HK.out jj cc E _ (hid ⟨_, _, _, HZ.out⟩) HC
set_option maxRecDepth 100000 in
set_option maxHeartbeats 8000000 in
theorem sw_5 (code : Code) (hc : blkOf Tryz.f3 2 = some code) (K : Act → World → Prop) (Q2 : Exit → Act → World → Prop)
    (HEI : Hid (EI w d m r jj cc k false M fs l wr)) (HLT : Hid (k < nl ∧ k < 80)) (HB2 : Hid (Below wr.heap.size wr w2)) (HQ : Hid (w2.heap[wr.heap.size]? = some (obA 5 xn xf xc fao fn fcap))) (HK : HKp w wr w2 d m r k 5 (obA 5 xn xf xc fao fn fcap) K p0 p1 p6 p8 pa po pp pq pr ps pt pu pv pw px py pz p10 p11 p12 p13 p14 p15 p16 p17 p6u p6v p6w p6x p6y p6z p70 p71 p72 p73 p74 p75) :
    Code.wp Tryz.prog code (Exit.then K Q2) { tmps := #[p0,p1,p2,ptr d,Disk.ptr r,ptr jj,p6,ptr cc,p8,Value.bool false,pa,Value.pointer (some { block := wr.heap.size, off := 0 }),Value.int IntKind.i64 0,Value.int IntKind.i64 0,pe,pf,pg,ph,pi,pj,pk,pl,pm,pn,po,pp,pq,pr,ps,pt,pu,pv,pw,px,py,pz,p10,p11,p12,p13,p14,p15,p16,p17,p18,p19,p1a,p1b,p1c,p1d,p1e,p1f,p1g,p1h,p1i,p1j,p1k,p1l,p1m,p1n,p1o,p1p,p1q,p1r,p1s,p1t,p1u,p1v,p1w,p1x,Value.int IntKind.i64 5,p1z,p20,p21,p22,p23,p24,p25,p26,p27,p28,p29,p2a,p2b,p2c,p2d,p2e,p2f,p2g,p2h,p2i,p2j,p2k,p2l,p2m,p2n,p2o,p2p,p2q,p2r,p2s,p2t,p2u,p2v,p2w,p2x,p2y,p2z,p30,p31,p32,p33,p34,p35,p36,p37,p38,p39,p3a,p3b,p3c,p3d,p3e,p3f,p3g,p3h,p3i,p3j,p3k,p3l,p3m,p3n,p3o,p3p,p3q,p3r,p3s,p3t,p3u,p3v,p3w,p3x,p3y,p3z,p40,p41,p42,p43,p44,p45,p46,p47,p48,p49,p4a,p4b,p4c,p4d,p4e,p4f,p4g,p4h,p4i,p4j,p4k,p4l,p4m,p4n,p4o,p4p,p4q,p4r,p4s,p4t,p4u,p4v,p4w,p4x,p4y,p4z,p50,p51,p52,p53,p54,p55,p56,p57,p58,p59,p5a,p5b,p5c,p5d,p5e,p5f,p5g,p5h,p5i,p5j,p5k,p5l,p5m,p5n,p5o,p5p,p5q,p5r,p5s,p5t,p5u,p5v,p5w,p5x,p5y,p5z,p60,p61,p62,p63,p64,p65,p66,p67,p68,p69,p6a,p6b,p6c,p6d,p6e,p6f,p6g,p6h,p6i,p6j,p6k,p6l,p6m,p6n,p6o,p6p,p6q,p6r,p6s,p6t,p6u,p6v,p6w,p6x,p6y,p6z,p70,p71,p72,p73,p74,p75], defers := [] } w2 := by
  conv at hc => lhs; whnf
  injection hc with hc
  subst hc
  obtain ⟨E, M', fs', l', G, hP⟩ := ex_end HEI.out HLT.out.2 HB2.out HQ.out
  have HP := hid hP
  clear hP
  go_wp2_with fail
  refine (HP.out.one w2 (Below.refl _ _)).mono ?_
  rintro e w3 ⟨rfl, h3⟩
  dsimp only
  have H3 := hid h3
  clear h3
  go_wp2_with fail
  refine (HP.out.two _ H3.out).mono ?_
  rintro e w4 ⟨rfl, h4, hc4⟩
  dsimp only
  have HZ := hid h4
  have HC := hid hc4
  clear h4 hc4
  go_wp2_with fail
  exact HK.out jj cc E _ (hid ⟨_, _, _, HZ.out⟩) HC
end Lt
end Go.Proofs.YtgmbiiocjhkpdaaGreat

/-
  LogExact's round: Arm, nothing.
-/
namespace Go.Proofs.YtgmbiiocjhkpdaaGreat
open Go.RowKit Go.Shelf
namespace Lt
open Lo
open Num (hid)
open Disk (Mod Fil Sees Stays)
open Mem (Bs bs LAt tI ptr blk_cell blk_free blk_new blk_set blk_other blk_alloc row_kept row_shape row_type)
variable {w wr w2 wc : World} {d m r jj cc jj' cc' k nl : Nat} {E : Int} {o : Bool} {M : Mod} {fs : List Fr} {l : Lg} {xk xn : Int} {xf : UInt8} {xc : Bool} {xq : List Int} {fao : Option Addr} {fn fcap : Nat} {p0 p1 p2 p3 p4 p5 p6 p7 p8 p9 pa pb pc pd pe pf pg ph pi pj pk pl pm pn po pp pq pr ps pt pu pv pw px py pz p10 p11 p12 p13 p14 p15 p16 p17 p18 p19 p1a p1b p1c p1d p1e p1f p1g p1h p1i p1j p1k p1l p1m p1n p1o p1p p1q p1r p1s p1t p1u p1v p1w p1x p1y p1z p20 p21 p22 p23 p24 p25 p26 p27 p28 p29 p2a p2b p2c p2d p2e p2f p2g p2h p2i p2j p2k p2l p2m p2n p2o p2p p2q p2r p2s p2t p2u p2v p2w p2x p2y p2z p30 p31 p32 p33 p34 p35 p36 p37 p38 p39 p3a p3b p3c p3d p3e p3f p3g p3h p3i p3j p3k p3l p3m p3n p3o p3p p3q p3r p3s p3t p3u p3v p3w p3x p3y p3z p40 p41 p42 p43 p44 p45 p46 p47 p48 p49 p4a p4b p4c p4d p4e p4f p4g p4h p4i p4j p4k p4l p4m p4n p4o p4p p4q p4r p4s p4t p4u p4v p4w p4x p4y p4z p50 p51 p52 p53 p54 p55 p56 p57 p58 p59 p5a p5b p5c p5d p5e p5f p5g p5h p5i p5j p5k p5l p5m p5n p5o p5p p5q p5r p5s p5t p5u p5v p5w p5x p5y p5z p60 p61 p62 p63 p64 p65 p66 p67 p68 p69 p6a p6b p6c p6d p6e p6f p6g p6h p6i p6j p6k p6l p6m p6n p6o p6p p6q p6r p6s p6t p6u p6v p6w p6x p6y p6z p70 p71 p72 p73 p74 p75 : Value}
set_option maxRecDepth 100000 in
set_option maxHeartbeats 8000000 in
theorem sw_7 (code : Code) (hc : blkOf Tryz.f3 2 = some code) (K : Act → World → Prop) (Q2 : Exit → Act → World → Prop)
    (HEI : Hid (EI w d m r jj cc k false M fs l wr)) (HB2 : Hid (Below wr.heap.size wr w2)) (HQ : Hid (w2.heap[wr.heap.size]? = some (obA 7 xn xf xc fao fn fcap))) (HX : Hid (AcOk w.heap.size wr ⟨7, xn, xf, xc, .slice fao fn fcap, xq⟩)) (HK : HKp w wr w2 d m r k 7 (obA 7 xn xf xc fao fn fcap) K p0 p1 p6 p8 pa po pp pq pr ps pt pu pv pw px py pz p10 p11 p12 p13 p14 p15 p16 p17 p6u p6v p6w p6x p6y p6z p70 p71 p72 p73 p74 p75) :
    Code.wp Tryz.prog code (Exit.then K Q2) { tmps := #[p0,p1,p2,ptr d,Disk.ptr r,ptr jj,p6,ptr cc,p8,Value.bool false,pa,Value.pointer (some { block := wr.heap.size, off := 0 }),Value.int IntKind.i64 0,Value.int IntKind.i64 0,pe,pf,pg,ph,pi,pj,pk,pl,pm,pn,po,pp,pq,pr,ps,pt,pu,pv,pw,px,py,pz,p10,p11,p12,p13,p14,p15,p16,p17,p18,p19,p1a,p1b,p1c,p1d,p1e,p1f,p1g,p1h,p1i,p1j,p1k,p1l,p1m,p1n,p1o,p1p,p1q,p1r,p1s,p1t,p1u,p1v,p1w,p1x,Value.int IntKind.i64 7,p1z,p20,p21,p22,p23,p24,p25,p26,p27,p28,p29,p2a,p2b,p2c,p2d,p2e,p2f,p2g,p2h,p2i,p2j,p2k,p2l,p2m,p2n,p2o,p2p,p2q,p2r,p2s,p2t,p2u,p2v,p2w,p2x,p2y,p2z,p30,p31,p32,p33,p34,p35,p36,p37,p38,p39,p3a,p3b,p3c,p3d,p3e,p3f,p3g,p3h,p3i,p3j,p3k,p3l,p3m,p3n,p3o,p3p,p3q,p3r,p3s,p3t,p3u,p3v,p3w,p3x,p3y,p3z,p40,p41,p42,p43,p44,p45,p46,p47,p48,p49,p4a,p4b,p4c,p4d,p4e,p4f,p4g,p4h,p4i,p4j,p4k,p4l,p4m,p4n,p4o,p4p,p4q,p4r,p4s,p4t,p4u,p4v,p4w,p4x,p4y,p4z,p50,p51,p52,p53,p54,p55,p56,p57,p58,p59,p5a,p5b,p5c,p5d,p5e,p5f,p5g,p5h,p5i,p5j,p5k,p5l,p5m,p5n,p5o,p5p,p5q,p5r,p5s,p5t,p5u,p5v,p5w,p5x,p5y,p5z,p60,p61,p62,p63,p64,p65,p66,p67,p68,p69,p6a,p6b,p6c,p6d,p6e,p6f,p6g,p6h,p6i,p6j,p6k,p6l,p6m,p6n,p6o,p6p,p6q,p6r,p6s,p6t,p6u,p6v,p6w,p6x,p6y,p6z,p70,p71,p72,p73,p74,p75], defers := [] } w2 := by
  conv at hc => lhs; whnf
  injection hc with hc
  subst hc
  obtain ⟨M', G, hP⟩ := ex_arm HEI.out HB2.out HQ.out xn (xf.toNat : Int) HX.out.n
  have HP := hid hP
  clear hP
  have hcv : IntKind.i64.wrap (xf.toNat : Int) = (xf.toNat : Int) := wrap_u8 xf
  have c1 : w2.cell? ⟨wr.heap.size, 1, none⟩ = some (.int .i64 xn) := blk_cell HQ.out 1
  have c2 : w2.cell? ⟨wr.heap.size, 2, none⟩ = some (.int .u8 (xf.toNat : Int)) := blk_cell HQ.out 2
  go_wp2_with fail
  refine (HP.out.one w2 (Below.refl _ _)).mono ?_
  rintro e w3 ⟨rfl, h3⟩
  dsimp only
  have H3 := hid h3
  clear h3
  have d1 : w3.cell? ⟨wr.heap.size, 1, none⟩ = some (.int .i64 xn) := blk_cell (HP.out.blk _ H3.out) 1
  have d2 : w3.cell? ⟨wr.heap.size, 2, none⟩ = some (.int .u8 (xf.toNat : Int)) := blk_cell (HP.out.blk _ H3.out) 2
  go_wp2_with fail
  refine (HP.out.two _ H3.out).mono ?_
  rintro e w4 ⟨rfl, h4, hc4⟩
  dsimp only
  have HZ := hid h4
  have HC := hid hc4
  clear h4 hc4
  go_wp2_with fail
  exact HK.out jj cc 0 _ (hid ⟨_, _, _, HZ.out⟩) HC
set_option maxRecDepth 100000 in
set_option maxHeartbeats 8000000 in
theorem sw_0 (code : Code) (hc : blkOf Tryz.f3 2 = some code) (K : Act → World → Prop) (Q2 : Exit → Act → World → Prop)
    (HEI : Hid (EI w d m r jj cc k false M fs l wr)) (HB2 : Hid (Below wr.heap.size wr w2)) (HQ : Hid (w2.heap[wr.heap.size]? = some (obA xk xn xf xc fao fn fcap))) (n1 : (xk == 1) = false) (n2 : (xk == 2) = false) (n3 : (xk == 3) = false) (n4 : (xk == 4) = false) (n5 : (xk == 5) = false) (n7 : (xk == 7) = false) (n6 : (xk == 6) = false) (n8 : (xk == 8) = false) (HK : HKp w wr w2 d m r k xk (obA xk xn xf xc fao fn fcap) K p0 p1 p6 p8 pa po pp pq pr ps pt pu pv pw px py pz p10 p11 p12 p13 p14 p15 p16 p17 p6u p6v p6w p6x p6y p6z p70 p71 p72 p73 p74 p75) :
    Code.wp Tryz.prog code (Exit.then K Q2) { tmps := #[p0,p1,p2,ptr d,Disk.ptr r,ptr jj,p6,ptr cc,p8,Value.bool false,pa,Value.pointer (some { block := wr.heap.size, off := 0 }),Value.int IntKind.i64 0,Value.int IntKind.i64 0,pe,pf,pg,ph,pi,pj,pk,pl,pm,pn,po,pp,pq,pr,ps,pt,pu,pv,pw,px,py,pz,p10,p11,p12,p13,p14,p15,p16,p17,p18,p19,p1a,p1b,p1c,p1d,p1e,p1f,p1g,p1h,p1i,p1j,p1k,p1l,p1m,p1n,p1o,p1p,p1q,p1r,p1s,p1t,p1u,p1v,p1w,p1x,Value.int IntKind.i64 xk,p1z,p20,p21,p22,p23,p24,p25,p26,p27,p28,p29,p2a,p2b,p2c,p2d,p2e,p2f,p2g,p2h,p2i,p2j,p2k,p2l,p2m,p2n,p2o,p2p,p2q,p2r,p2s,p2t,p2u,p2v,p2w,p2x,p2y,p2z,p30,p31,p32,p33,p34,p35,p36,p37,p38,p39,p3a,p3b,p3c,p3d,p3e,p3f,p3g,p3h,p3i,p3j,p3k,p3l,p3m,p3n,p3o,p3p,p3q,p3r,p3s,p3t,p3u,p3v,p3w,p3x,p3y,p3z,p40,p41,p42,p43,p44,p45,p46,p47,p48,p49,p4a,p4b,p4c,p4d,p4e,p4f,p4g,p4h,p4i,p4j,p4k,p4l,p4m,p4n,p4o,p4p,p4q,p4r,p4s,p4t,p4u,p4v,p4w,p4x,p4y,p4z,p50,p51,p52,p53,p54,p55,p56,p57,p58,p59,p5a,p5b,p5c,p5d,p5e,p5f,p5g,p5h,p5i,p5j,p5k,p5l,p5m,p5n,p5o,p5p,p5q,p5r,p5s,p5t,p5u,p5v,p5w,p5x,p5y,p5z,p60,p61,p62,p63,p64,p65,p66,p67,p68,p69,p6a,p6b,p6c,p6d,p6e,p6f,p6g,p6h,p6i,p6j,p6k,p6l,p6m,p6n,p6o,p6p,p6q,p6r,p6s,p6t,p6u,p6v,p6w,p6x,p6y,p6z,p70,p71,p72,p73,p74,p75], defers := [] } w2 := by
  conv at hc => lhs; whnf
  injection hc with hc
  subst hc
  have HZ := hid (ex_none HEI.out HB2.out xk)
  have HC := HQ
  go_wp2_with fail
  exact HK.out jj cc 0 _ (hid ⟨_, _, _, HZ.out⟩) HC
end Lt
end Go.Proofs.YtgmbiiocjhkpdaaGreat
