/-
  Put together: LogExactKd, LogExactKe, LogExactKf, LogExactKg.
-/
import Derived.Test.YtgmbiiocjhkpdaaGreatGrpLgX
import Derived.Test.YtgmbiiocjhkpdaaGreatGrpLgK
import Derived.Deep.CutBlock
/-
  LogExact's round: the log opened anew, with or without a loss of power.
-/
namespace Go.Proofs.YtgmbiiocjhkpdaaGreat
open Go.RowKit Go.Shelf
namespace Lt
open Lo
open Num (hid)
open Disk (Mod Fil Sees Stays)
open Mem (Bs bs LAt tI ptr blk_cell blk_free blk_new blk_set blk_other blk_alloc row_kept row_shape row_type)
variable {w wr w2 wc : World} {d m r jj cc jj' cc' k nl : Nat} {E : Int} {o : Bool} {M : Mod} {fs : List Fr} {l : Lg} {xk xn : Int} {xf : UInt8} {xc : Bool} {xq : List Int} {fao : Option Addr} {fn fcap : Nat} {p0 p1 p2 p3 p4 p5 p6 p7 p8 p9 pa pb pc pd pe pf pg ph pi pj pk pl pm pn po pp pq pr ps pt pu pv pw px py pz p10 p11 p12 p13 p14 p15 p16 p17 p18 p19 p1a p1b p1c p1d p1e p1f p1g p1h p1i p1j p1k p1l p1m p1n p1o p1p p1q p1r p1s p1t p1u p1v p1w p1x p1y p1z p20 p21 p22 p23 p24 p25 p26 p27 p28 p29 p2a p2b p2c p2d p2e p2f p2g p2h p2i p2j p2k p2l p2m p2n p2o p2p p2q p2r p2s p2t p2u p2v p2w p2x p2y p2z p30 p31 p32 p33 p34 p35 p36 p37 p38 p39 p3a p3b p3c p3d p3e p3f p3g p3h p3i p3j p3k p3l p3m p3n p3o p3p p3q p3r p3s p3t p3u p3v p3w p3x p3y p3z p40 p41 p42 p43 p44 p45 p46 p47 p48 p49 p4a p4b p4c p4d p4e p4f p4g p4h p4i p4j p4k p4l p4m p4n p4o p4p p4q p4r p4s p4t p4u p4v p4w p4x p4y p4z p50 p51 p52 p53 p54 p55 p56 p57 p58 p59 p5a p5b p5c p5d p5e p5f p5g p5h p5i p5j p5k p5l p5m p5n p5o p5p p5q p5r p5s p5t p5u p5v p5w p5x p5y p5z p60 p61 p62 p63 p64 p65 p66 p67 p68 p69 p6a p6b p6c p6d p6e p6f p6g p6h p6i p6j p6k p6l p6m p6n p6o p6p p6q p6r p6s p6t p6u p6v p6w p6x p6y p6z p70 p71 p72 p73 p74 p75 : Value}
set_option maxRecDepth 100000 in
set_option maxHeartbeats 8000000 in
theorem sw_6 (code : Code) (hc : blkOf Tryz.f3 2 = some code) (K : Act → World → Prop) (Q2 : Exit → Act → World → Prop)
    (HEI : Hid (EI w d m r jj cc k o M fs l wr)) (HB2 : Hid (Below wr.heap.size wr w2)) (HQ : Hid (w2.heap[wr.heap.size]? = some (obA 6 xn xf xc fao fn fcap))) (HK : HKp w wr w2 d m r k 6 (obA 6 xn xf xc fao fn fcap) K p0 p1 p6 p8 pa po pp pq pr ps pt pu pv pw px py pz p10 p11 p12 p13 p14 p15 p16 p17 p6u p6v p6w p6x p6y p6z p70 p71 p72 p73 p74 p75) (HF : HFp w wr d m r k jj cc Q2 p0 p1 p6 p8 pa po pp pq pr ps pt pu pv pw px py pz p10 p11 p12 p13 p14 p15 p16 p17 p6u p6v p6w p6x p6y p6z p70 p71 p72 p73 p74 p75) :
    Code.wp Tryz.prog code (Exit.then K Q2) { tmps := #[p0,p1,p2,ptr d,Disk.ptr r,ptr jj,p6,ptr cc,p8,Value.bool o,pa,Value.pointer (some { block := wr.heap.size, off := 0 }),Value.int IntKind.i64 0,Value.int IntKind.i64 0,pe,pf,pg,ph,pi,pj,pk,pl,pm,pn,po,pp,pq,pr,ps,pt,pu,pv,pw,px,py,pz,p10,p11,p12,p13,p14,p15,p16,p17,p18,p19,p1a,p1b,p1c,p1d,p1e,p1f,p1g,p1h,p1i,p1j,p1k,p1l,p1m,p1n,p1o,p1p,p1q,p1r,p1s,p1t,p1u,p1v,p1w,p1x,Value.int IntKind.i64 6,p1z,p20,p21,p22,p23,p24,p25,p26,p27,p28,p29,p2a,p2b,p2c,p2d,p2e,p2f,p2g,p2h,p2i,p2j,p2k,p2l,p2m,p2n,p2o,p2p,p2q,p2r,p2s,p2t,p2u,p2v,p2w,p2x,p2y,p2z,p30,p31,p32,p33,p34,p35,p36,p37,p38,p39,p3a,p3b,p3c,p3d,p3e,p3f,p3g,p3h,p3i,p3j,p3k,p3l,p3m,p3n,p3o,p3p,p3q,p3r,p3s,p3t,p3u,p3v,p3w,p3x,p3y,p3z,p40,p41,p42,p43,p44,p45,p46,p47,p48,p49,p4a,p4b,p4c,p4d,p4e,p4f,p4g,p4h,p4i,p4j,p4k,p4l,p4m,p4n,p4o,p4p,p4q,p4r,p4s,p4t,p4u,p4v,p4w,p4x,p4y,p4z,p50,p51,p52,p53,p54,p55,p56,p57,p58,p59,p5a,p5b,p5c,p5d,p5e,p5f,p5g,p5h,p5i,p5j,p5k,p5l,p5m,p5n,p5o,p5p,p5q,p5r,p5s,p5t,p5u,p5v,p5w,p5x,p5y,p5z,p60,p61,p62,p63,p64,p65,p66,p67,p68,p69,p6a,p6b,p6c,p6d,p6e,p6f,p6g,p6h,p6i,p6j,p6k,p6l,p6m,p6n,p6o,p6p,p6q,p6r,p6s,p6t,p6u,p6v,p6w,p6x,p6y,p6z,p70,p71,p72,p73,p74,p75], defers := [] } w2 := by
  conv at hc => lhs; whnf
  injection hc with hc
  subst hc
  have c0 : w2.cell? ⟨wr.heap.size, 0, none⟩ = some (.int .i64 6) := blk_cell HQ.out 0
  have HOP := hid (ex_open (c := cc) (j := jj) (dx_start HEI.out.two HB2.out) HEI.out.dir (xb_in HQ.out) HQ.out 6)
  rcases HOP.out with ⟨E, G, M1, hE0, h1, h2⟩ | ⟨G, M1, fs1, l1, h1, h2⟩
  · have hE1 : (E != 0) = true := by simp [hE0]
    have hE2 : (E != E) = false := by simp
    have HO1 := hid h1
    have HO2 := hid h2
    clear h1 h2 hE0
    go_wp2_with fail
    refine HO1.out.mono ?_
    rintro e w8 ⟨rfl, h8⟩
    dsimp only
    have HO3 := hid (HO2.out _ h8)
    clear h8 HO1 HO2
    go_wp2_with fail
    refine HO3.out.mono ?_
    rintro e w9 ⟨p, rfl, h9⟩
    dsimp only
    have HZ := hid h9
    clear h9 HO3
    go_wp2_with fail
    exact HF.out _ (hid ⟨_, _, _, HZ.out⟩)
  · have HO1 := hid h1
    have HO2 := hid h2
    clear h1 h2
    go_wp2_with fail
    refine HO1.out.mono ?_
    rintro e w8 ⟨jn, rfl, h8⟩
    dsimp only
    have HO3 := hid (HO2.out _ _ h8)
    clear h8 HO1 HO2
    go_wp2_with fail
    refine HO3.out.mono ?_
    rintro e w9 ⟨cn, rfl, h9, hc9⟩
    dsimp only
    have HZ := hid h9
    have HC := hid hc9
    clear h9 hc9 HO3
    go_wp2_with fail
    exact HK.out jn cn 0 _ (hid ⟨_, _, _, HZ.out⟩) HC
set_option maxRecDepth 100000 in
set_option maxHeartbeats 8000000 in
theorem sw_8 (code : Code) (hc : blkOf Tryz.f3 2 = some code) (K : Act → World → Prop) (Q2 : Exit → Act → World → Prop)
    (HEI : Hid (EI w d m r jj cc k o M fs l wr)) (HB2 : Hid (Below wr.heap.size wr w2)) (HQ : Hid (w2.heap[wr.heap.size]? = some (obA 8 xn xf xc fao fn fcap))) (HA0 : Hid (AcOk w.heap.size w ⟨8, xn, xf, xc, .slice fao fn fcap, xq⟩)) (HK : HKp w wr w2 d m r k 8 (obA 8 xn xf xc fao fn fcap) K p0 p1 p6 p8 pa po pp pq pr ps pt pu pv pw px py pz p10 p11 p12 p13 p14 p15 p16 p17 p6u p6v p6w p6x p6y p6z p70 p71 p72 p73 p74 p75) (HF : HFp w wr d m r k jj cc Q2 p0 p1 p6 p8 pa po pp pq pr ps pt pu pv pw px py pz p10 p11 p12 p13 p14 p15 p16 p17 p6u p6v p6w p6x p6y p6z p70 p71 p72 p73 p74 p75) :
    Code.wp Tryz.prog code (Exit.then K Q2) { tmps := #[p0,p1,p2,ptr d,Disk.ptr r,ptr jj,p6,ptr cc,p8,Value.bool o,pa,Value.pointer (some { block := wr.heap.size, off := 0 }),Value.int IntKind.i64 0,Value.int IntKind.i64 0,pe,pf,pg,ph,pi,pj,pk,pl,pm,pn,po,pp,pq,pr,ps,pt,pu,pv,pw,px,py,pz,p10,p11,p12,p13,p14,p15,p16,p17,p18,p19,p1a,p1b,p1c,p1d,p1e,p1f,p1g,p1h,p1i,p1j,p1k,p1l,p1m,p1n,p1o,p1p,p1q,p1r,p1s,p1t,p1u,p1v,p1w,p1x,Value.int IntKind.i64 8,p1z,p20,p21,p22,p23,p24,p25,p26,p27,p28,p29,p2a,p2b,p2c,p2d,p2e,p2f,p2g,p2h,p2i,p2j,p2k,p2l,p2m,p2n,p2o,p2p,p2q,p2r,p2s,p2t,p2u,p2v,p2w,p2x,p2y,p2z,p30,p31,p32,p33,p34,p35,p36,p37,p38,p39,p3a,p3b,p3c,p3d,p3e,p3f,p3g,p3h,p3i,p3j,p3k,p3l,p3m,p3n,p3o,p3p,p3q,p3r,p3s,p3t,p3u,p3v,p3w,p3x,p3y,p3z,p40,p41,p42,p43,p44,p45,p46,p47,p48,p49,p4a,p4b,p4c,p4d,p4e,p4f,p4g,p4h,p4i,p4j,p4k,p4l,p4m,p4n,p4o,p4p,p4q,p4r,p4s,p4t,p4u,p4v,p4w,p4x,p4y,p4z,p50,p51,p52,p53,p54,p55,p56,p57,p58,p59,p5a,p5b,p5c,p5d,p5e,p5f,p5g,p5h,p5i,p5j,p5k,p5l,p5m,p5n,p5o,p5p,p5q,p5r,p5s,p5t,p5u,p5v,p5w,p5x,p5y,p5z,p60,p61,p62,p63,p64,p65,p66,p67,p68,p69,p6a,p6b,p6c,p6d,p6e,p6f,p6g,p6h,p6i,p6j,p6k,p6l,p6m,p6n,p6o,p6p,p6q,p6r,p6s,p6t,p6u,p6v,p6w,p6x,p6y,p6z,p70,p71,p72,p73,p74,p75], defers := [] } w2 := by
  conv at hc => lhs; whnf
  injection hc with hc
  subst hc
  have c0 : w2.cell? ⟨wr.heap.size, 0, none⟩ = some (.int .i64 8) := blk_cell HQ.out 0
  obtain ⟨G1, G2, G3, hW⟩ := ex_wake HEI.out.two HB2.out HQ.out HA0.out
  have HW := hid hW
  have HOP : Hid (∀ wx, DX w (XB wr w2) d m r (M.off.on xq) (M.off.on xq) wx → wx.heap[wr.heap.size]? = some (obA 8 xn xf xc fao fn fcap) → _ ∨ _) := hid (fun wx h hc => ex_open (c := cc) (j := jj) h (wake_dir HEI.out.dir xq) (xb_in HQ.out) hc 8)
  clear hW
  go_wp2_with fail
  refine HW.out.one.mono ?_
  rintro e w3 ⟨rfl, h3⟩
  dsimp only
  have H3 := hid h3
  clear h3
  go_wp2_with fail
  refine (HW.out.two _ H3.out).mono ?_
  rintro e w4 ⟨rfl, h4⟩
  dsimp only
  have H4 := hid h4
  have d4 : w4.cell? ⟨wr.heap.size, 4, none⟩ = some (.slice fao fn fcap) := blk_cell (HW.out.blk2 _ h4) 4
  clear h4
  go_wp2_with fail
  refine (HW.out.three _ H4.out).mono ?_
  rintro e w5 ⟨rfl, h5⟩
  dsimp only
  have H5 := hid h5
  have d5 : w5.cell? ⟨wr.heap.size, 4, none⟩ = some (.slice fao fn fcap) := blk_cell (HW.out.blk3 _ h5) 4
  clear h5 d4
  go_wp2_with fail
  refine (HW.out.four _ H5.out).mono ?_
  rintro e w6 ⟨rfl, h6, hc6⟩
  dsimp only
  have HO := hid (HOP.out _ h6 hc6)
  clear h6 hc6 d5 HOP HW
  rcases HO.out with ⟨E, G, M1, hE0, h1, h2⟩ | ⟨G, M1, fs1, l1, h1, h2⟩
  · have hE1 : (E != 0) = true := by simp [hE0]
    have hE2 : (E != E) = false := by simp
    have HO1 := hid h1
    have HO2 := hid h2
    clear h1 h2 hE0
    go_wp2_with fail
    refine HO1.out.mono ?_
    rintro e w8 ⟨rfl, h8⟩
    dsimp only
    have HO3 := hid (HO2.out _ h8)
    clear h8 HO1 HO2
    go_wp2_with fail
    refine HO3.out.mono ?_
    rintro e w9 ⟨p, rfl, h9⟩
    dsimp only
    have HZ := hid h9
    clear h9 HO3
    go_wp2_with fail
    exact HF.out _ (hid ⟨_, _, _, HZ.out⟩)
  · have HO1 := hid h1
    have HO2 := hid h2
    clear h1 h2
    go_wp2_with fail
    refine HO1.out.mono ?_
    rintro e w8 ⟨jn, rfl, h8⟩
    dsimp only
    have HO3 := hid (HO2.out _ _ h8)
    clear h8 HO1 HO2
    go_wp2_with fail
    refine HO3.out.mono ?_
    rintro e w9 ⟨cn, rfl, h9, hc9⟩
    dsimp only
    have HZ := hid h9
    have HC := hid hc9
    clear h9 hc9 HO3
    go_wp2_with fail
    exact HK.out jn cn 0 _ (hid ⟨_, _, _, HZ.out⟩) HC
end Lt
end Go.Proofs.YtgmbiiocjhkpdaaGreat

/-
  LogExact's round: what is asked behind each call.
-/
namespace Go.Proofs.YtgmbiiocjhkpdaaGreat
open Go.RowKit Go.Shelf
namespace Lt
open Lo
open Num (hid)
open Disk (Mod Fil Sees Stays)
open Mem (Bs bs LAt tI ptr blk_cell blk_free blk_new blk_set blk_other blk_alloc row_kept row_shape row_type)
variable {w wr w2 wc : World} {d m r jj cc jj' cc' k nl : Nat} {E : Int} {o : Bool} {M : Mod} {fs : List Fr} {l : Lg} {xk xn : Int} {xf : UInt8} {xc : Bool} {xq : List Int} {fao : Option Addr} {fn fcap : Nat} {p0 p1 p2 p3 p4 p5 p6 p7 p8 p9 pa pb pc pd pe pf pg ph pi pj pk pl pm pn po pp pq pr ps pt pu pv pw px py pz p10 p11 p12 p13 p14 p15 p16 p17 p18 p19 p1a p1b p1c p1d p1e p1f p1g p1h p1i p1j p1k p1l p1m p1n p1o p1p p1q p1r p1s p1t p1u p1v p1w p1x p1y p1z p20 p21 p22 p23 p24 p25 p26 p27 p28 p29 p2a p2b p2c p2d p2e p2f p2g p2h p2i p2j p2k p2l p2m p2n p2o p2p p2q p2r p2s p2t p2u p2v p2w p2x p2y p2z p30 p31 p32 p33 p34 p35 p36 p37 p38 p39 p3a p3b p3c p3d p3e p3f p3g p3h p3i p3j p3k p3l p3m p3n p3o p3p p3q p3r p3s p3t p3u p3v p3w p3x p3y p3z p40 p41 p42 p43 p44 p45 p46 p47 p48 p49 p4a p4b p4c p4d p4e p4f p4g p4h p4i p4j p4k p4l p4m p4n p4o p4p p4q p4r p4s p4t p4u p4v p4w p4x p4y p4z p50 p51 p52 p53 p54 p55 p56 p57 p58 p59 p5a p5b p5c p5d p5e p5f p5g p5h p5i p5j p5k p5l p5m p5n p5o p5p p5q p5r p5s p5t p5u p5v p5w p5x p5y p5z p60 p61 p62 p63 p64 p65 p66 p67 p68 p69 p6a p6b p6c p6d p6e p6f p6g p6h p6i p6j p6k p6l p6m p6n p6o p6p p6q p6r p6s p6t p6u p6v p6w p6x p6y p6z p70 p71 p72 p73 p74 p75 : Value}
set_option maxRecDepth 100000 in
set_option maxHeartbeats 8000000 in
theorem rest_any (code : Code) (hc : seqOf Tryz.f3 55 = some code) (Q2 : Exit → Act → World → Prop)
    (HJ : Hid (∃ M fs l, EJ w (XB wr w2) d m r jj' cc' k xk E M fs l wc)) (HQC : Hid (wc.heap[wr.heap.size]? = some (obA xk xn xf xc fao fn fcap))) (HO : HEp w wr d m r k jj' cc' E Q2 p0 p1 p6 p8 pa pe pf pg ph pi pj pk pl pm pn po pp pq pr ps pt pu pv pw px py pz p10 p11 p12 p13 p14 p15 p16 p17 p6u p6v p6w p6x p6y p6z p70 p71 p72 p73 p74 p75) :
    Code.wp Tryz.prog code Q2 { tmps := #[p0,p1,p2,ptr d,Disk.ptr r,ptr jj',p6,ptr cc',p8,Value.bool false,pa,Value.pointer (some { block := wr.heap.size, off := 0 }),Value.int IntKind.i64 E,Value.int IntKind.i64 E,pe,pf,pg,ph,pi,pj,pk,pl,pm,pn,po,pp,pq,pr,ps,pt,pu,pv,pw,px,py,pz,p10,p11,p12,p13,p14,p15,p16,p17,p18,p19,p1a,p1b,p1c,p1d,p1e,p1f,p1g,p1h,p1i,p1j,p1k,p1l,p1m,p1n,p1o,p1p,p1q,p1r,p1s,p1t,p1u,p1v,p1w,p1x,p1y,p1z,p20,p21,p22,p23,p24,p25,p26,p27,p28,p29,p2a,p2b,p2c,p2d,p2e,p2f,p2g,p2h,p2i,p2j,p2k,p2l,p2m,p2n,p2o,p2p,p2q,p2r,p2s,p2t,p2u,p2v,p2w,p2x,p2y,p2z,p30,p31,p32,p33,p34,p35,p36,p37,p38,p39,p3a,p3b,p3c,p3d,p3e,p3f,p3g,p3h,p3i,p3j,p3k,p3l,p3m,p3n,p3o,p3p,p3q,p3r,p3s,p3t,p3u,p3v,p3w,p3x,p3y,p3z,p40,p41,p42,p43,p44,p45,p46,p47,p48,p49,p4a,p4b,p4c,p4d,p4e,p4f,p4g,p4h,p4i,p4j,p4k,p4l,p4m,p4n,p4o,p4p,p4q,p4r,p4s,p4t,p4u,p4v,p4w,p4x,p4y,p4z,p50,p51,p52,p53,p54,p55,p56,p57,p58,p59,p5a,p5b,p5c,p5d,p5e,p5f,p5g,p5h,p5i,p5j,p5k,p5l,p5m,p5n,p5o,p5p,p5q,p5r,p5s,p5t,p5u,p5v,p5w,p5x,p5y,p5z,p60,p61,p62,p63,p64,p65,p66,p67,p68,p69,p6a,p6b,p6c,p6d,p6e,p6f,p6g,p6h,p6i,p6j,p6k,p6l,p6m,p6n,p6o,p6p,p6q,p6r,p6s,p6t,p6u,p6v,p6w,p6x,p6y,p6z,p70,p71,p72,p73,p74,p75], defers := [] } wc := by
  conv at hc => lhs; whnf
  injection hc with hc
  subst hc
  obtain ⟨M', fs', l', hJ⟩ := HJ.out
  have HEJ := hid hJ
  clear hJ HJ
  have HLN := hid (lg_len HEJ.out.lx.logs)
  have hnl2 : l'.ns.length = fs'.length := by rw [HEJ.out.ns, List.length_map]
  have hrl := lg_rlen HEJ.out.lx.logs
  rw [hnl2] at hrl
  have HRL := hid hrl
  clear hrl hnl2
  obtain ⟨flen, hfl⟩ : ∃ x, fs'.length = x := ⟨_, rfl⟩
  rw [hfl] at HLN HRL
  clear hfl
  have z0 : (E != E) = false := by simp
  have z4 : ((flen : Int) != (flen : Int)) = false := by simp
  obtain ⟨q, hq⟩ : ∃ q, pagesM (fs'.map (·.1)) = q := ⟨_, rfl⟩
  have HPF : Hid (q.length ≤ 4096) := hid (by subst hq; exact pages_few4 _)
  have HQN : Hid (pagesM l'.ns = q) := hid (by rw [HEJ.out.ns]; exact hq)
  have hpg := lg_pages HEJ.out.lx.logs
  rw [hq] at hpg
  have HPG := hid hpg
  clear hq hpg
  go_wp2_with fail
  refine HLN.out.mono ?_
  rintro e w14 ⟨rfl, rfl⟩
  go_wp2_with fail
  refine HRL.out.mono ?_
  rintro e w15 ⟨rfl, rfl⟩
  clear HLN HRL
  go_wp2_with fail
  refine HPG.out.mono ?_
  rintro e w16 ⟨v1, rfl, hn1, hb16⟩
  have HN1 := hid hn1
  have H16 := hid (HEJ.out.on hb16)
  have HC16 := hid (blk_below HQC.out hb16)
  obtain ⟨ap1, cp1, hv1, -⟩ := hn1
  clear hb16 HEJ HPG HQC
  subst hv1
  have hrp := lg_rpages H16.out.lx.logs
  rw [HQN.out] at hrp
  have HRP := hid hrp
  clear hrp
  go_wp2_with fail
  refine HRP.out.mono ?_
  rintro e w17 ⟨v2, rfl, hn2, hb17, -⟩
  have HN2 := hid hn2
  have HN17 := hid (HN1.out.on hb17)
  have H17 := hid (H16.out.on hb17)
  have HC17 := hid (blk_below HC16.out hb17)
  obtain ⟨ap2, cp2, hv2, -⟩ := hn2
  clear hb17 H16 HRP HN1 HC16
  subst hv2
  have HSM := hid (same14_any (by have := HPF.out; omega) HN17.out HN2.out)
  go_wp2_with fail
  refine HSM.out.mono ?_
  rintro e w18 ⟨rfl, hb18⟩
  have H18 := hid (H17.out.on hb18)
  have HC18 := hid (blk_below HC17.out hb18)
  clear hb18 H17 HC17 HN2 HN17 HSM
  have HP1 := hid (lg_ops H18.out.lx.logs)
  have HP2 := hid (lg_rops H18.out.lx.logs)
  obtain ⟨ops, hops⟩ : ∃ x, M'.c.ops = x := ⟨_, rfl⟩
  rw [hops] at HP1 HP2
  clear hops
  have z5 : (ops != ops) = false := by simp
  go_wp2_with fail
  refine HP1.out.mono ?_
  rintro e w19 ⟨rfl, rfl⟩
  go_wp2_with fail
  refine HP2.out.mono ?_
  rintro e w20 ⟨rfl, rfl⟩
  clear HP1 HP2 z0 z4 z5
  have f0 : w18.cell? ⟨wr.heap.size, 0, none⟩ = some (.int .i64 xk) := blk_cell HC18.out 0
  by_cases e10 : E = 10
  · subst e10
    go_wp2_with fail
    exact HO.out _ true (hid ⟨_, _, _, ej_true H18.out (Or.inl rfl)⟩)
  have y10 : (E == 10) = false := by simp [e10]
  by_cases e0 : E = 0
  · subst e0
    go_wp2_with fail
    exact HO.out _ false (hid ⟨_, _, _, ej_false H18.out over0⟩)
  have y0 : (E != 0) = true := by simp [e0]
  by_cases e1 : E = 1
  · subst e1
    go_wp2_with fail
    exact HO.out _ false (hid ⟨_, _, _, ej_false H18.out over1⟩)
  have y1 : (E != 1) = true := by simp [e1]
  by_cases k1 : xk = 1
  · subst k1
    have HOV := hid (over_of (kd := 1) e0 e1 (by simp))
    clear e10 e0 e1
    go_wp2_with fail
    exact HO.out _ true (hid ⟨_, _, _, ej_true H18.out HOV.out⟩)
  have g1 : (xk == 1) = false := by simp [k1]
  by_cases k4 : xk = 4
  · subst k4
    have HOV := hid (over_of (kd := 4) e0 e1 (by simp))
    clear e10 e0 e1
    go_wp2_with fail
    exact HO.out _ true (hid ⟨_, _, _, ej_true H18.out HOV.out⟩)
  have g4 : (xk == 4) = false := by simp [k4]
  by_cases k5 : xk = 5
  · subst k5
    have HOV := hid (over_of (kd := 5) e0 e1 (by simp))
    clear e10 e0 e1
    go_wp2_with fail
    exact HO.out _ true (hid ⟨_, _, _, ej_true H18.out HOV.out⟩)
  have g5 : (xk == 5) = false := by simp [k5]
  have HOV := hid (not_over e10 k1 k4 k5)
  clear e10 e0 e1 k1 k4 k5
  go_wp2_with fail
  exact HO.out _ false (hid ⟨_, _, _, ej_false H18.out HOV.out⟩)
end Lt
end Go.Proofs.YtgmbiiocjhkpdaaGreat

/-
  LogExact's round: its switch, whatever the call.
-/
namespace Go.Proofs.YtgmbiiocjhkpdaaGreat
open Go.RowKit Go.Shelf
namespace Lt
open Lo
open Num (hid)
open Disk (Mod Fil Sees Stays)
open Mem (Bs bs LAt tI ptr blk_cell blk_free blk_new blk_set blk_other blk_alloc row_kept row_shape row_type)
variable {w wr w2 wc : World} {d m r jj cc jj' cc' k nl : Nat} {E : Int} {o : Bool} {M : Mod} {fs : List Fr} {l : Lg} {xk xn : Int} {xf : UInt8} {xc : Bool} {xq : List Int} {fao : Option Addr} {fn fcap : Nat} {p0 p1 p2 p3 p4 p5 p6 p7 p8 p9 pa pb pc pd pe pf pg ph pi pj pk pl pm pn po pp pq pr ps pt pu pv pw px py pz p10 p11 p12 p13 p14 p15 p16 p17 p18 p19 p1a p1b p1c p1d p1e p1f p1g p1h p1i p1j p1k p1l p1m p1n p1o p1p p1q p1r p1s p1t p1u p1v p1w p1x p1y p1z p20 p21 p22 p23 p24 p25 p26 p27 p28 p29 p2a p2b p2c p2d p2e p2f p2g p2h p2i p2j p2k p2l p2m p2n p2o p2p p2q p2r p2s p2t p2u p2v p2w p2x p2y p2z p30 p31 p32 p33 p34 p35 p36 p37 p38 p39 p3a p3b p3c p3d p3e p3f p3g p3h p3i p3j p3k p3l p3m p3n p3o p3p p3q p3r p3s p3t p3u p3v p3w p3x p3y p3z p40 p41 p42 p43 p44 p45 p46 p47 p48 p49 p4a p4b p4c p4d p4e p4f p4g p4h p4i p4j p4k p4l p4m p4n p4o p4p p4q p4r p4s p4t p4u p4v p4w p4x p4y p4z p50 p51 p52 p53 p54 p55 p56 p57 p58 p59 p5a p5b p5c p5d p5e p5f p5g p5h p5i p5j p5k p5l p5m p5n p5o p5p p5q p5r p5s p5t p5u p5v p5w p5x p5y p5z p60 p61 p62 p63 p64 p65 p66 p67 p68 p69 p6a p6b p6c p6d p6e p6f p6g p6h p6i p6j p6k p6l p6m p6n p6o p6p p6q p6r p6s p6t p6u p6v p6w p6x p6y p6z p70 p71 p72 p73 p74 p75 : Value}
set_option maxRecDepth 100000 in
set_option maxHeartbeats 8000000 in
theorem sw_any (code : Code) (hc : blkOf Tryz.f3 2 = some code) (K : Act → World → Prop) (Q2 : Exit → Act → World → Prop)
    (HEI : Hid (EI w d m r jj cc k o M fs l wr)) (HLT : Hid (k < nl ∧ k < 80)) (HB2 : Hid (Below wr.heap.size wr w2)) (HQ : Hid (w2.heap[wr.heap.size]? = some (obA xk xn xf xc fao fn fcap))) (HX : Hid (AcOk w.heap.size wr ⟨xk, xn, xf, xc, .slice fao fn fcap, xq⟩)) (HA0 : Hid (AcOk w.heap.size w ⟨xk, xn, xf, xc, .slice fao fn fcap, xq⟩)) (HSK : Hid (o = true → xk = 6 ∨ xk = 8))
    (HK : HKp w wr w2 d m r k xk (obA xk xn xf xc fao fn fcap) K p0 p1 p6 p8 pa po pp pq pr ps pt pu pv pw px py pz p10 p11 p12 p13 p14 p15 p16 p17 p6u p6v p6w p6x p6y p6z p70 p71 p72 p73 p74 p75) (HF : HFp w wr d m r k jj cc Q2 p0 p1 p6 p8 pa po pp pq pr ps pt pu pv pw px py pz p10 p11 p12 p13 p14 p15 p16 p17 p6u p6v p6w p6x p6y p6z p70 p71 p72 p73 p74 p75) :
    Code.wp Tryz.prog code (Exit.then K Q2) { tmps := #[p0,p1,p2,ptr d,Disk.ptr r,ptr jj,p6,ptr cc,p8,Value.bool o,pa,Value.pointer (some { block := wr.heap.size, off := 0 }),Value.int IntKind.i64 0,Value.int IntKind.i64 0,pe,pf,pg,ph,pi,pj,pk,pl,pm,pn,po,pp,pq,pr,ps,pt,pu,pv,pw,px,py,pz,p10,p11,p12,p13,p14,p15,p16,p17,p18,p19,p1a,p1b,p1c,p1d,p1e,p1f,p1g,p1h,p1i,p1j,p1k,p1l,p1m,p1n,p1o,p1p,p1q,p1r,p1s,p1t,p1u,p1v,p1w,p1x,Value.int IntKind.i64 xk,p1z,p20,p21,p22,p23,p24,p25,p26,p27,p28,p29,p2a,p2b,p2c,p2d,p2e,p2f,p2g,p2h,p2i,p2j,p2k,p2l,p2m,p2n,p2o,p2p,p2q,p2r,p2s,p2t,p2u,p2v,p2w,p2x,p2y,p2z,p30,p31,p32,p33,p34,p35,p36,p37,p38,p39,p3a,p3b,p3c,p3d,p3e,p3f,p3g,p3h,p3i,p3j,p3k,p3l,p3m,p3n,p3o,p3p,p3q,p3r,p3s,p3t,p3u,p3v,p3w,p3x,p3y,p3z,p40,p41,p42,p43,p44,p45,p46,p47,p48,p49,p4a,p4b,p4c,p4d,p4e,p4f,p4g,p4h,p4i,p4j,p4k,p4l,p4m,p4n,p4o,p4p,p4q,p4r,p4s,p4t,p4u,p4v,p4w,p4x,p4y,p4z,p50,p51,p52,p53,p54,p55,p56,p57,p58,p59,p5a,p5b,p5c,p5d,p5e,p5f,p5g,p5h,p5i,p5j,p5k,p5l,p5m,p5n,p5o,p5p,p5q,p5r,p5s,p5t,p5u,p5v,p5w,p5x,p5y,p5z,p60,p61,p62,p63,p64,p65,p66,p67,p68,p69,p6a,p6b,p6c,p6d,p6e,p6f,p6g,p6h,p6i,p6j,p6k,p6l,p6m,p6n,p6o,p6p,p6q,p6r,p6s,p6t,p6u,p6v,p6w,p6x,p6y,p6z,p70,p71,p72,p73,p74,p75], defers := [] } w2 := by
  by_cases k6 : xk = 6
  · subst k6
    exact sw_6 code hc K Q2 HEI HB2 HQ HK HF
  by_cases k8 : xk = 8
  · subst k8
    exact sw_8 code hc K Q2 HEI HB2 HQ HA0 HK HF
  have ho : o = false := by
    cases o with
    | false => rfl
    | true => exact absurd (HSK.out rfl) (by omega)
  subst ho
  by_cases k1 : xk = 1
  · subst k1
    exact sw_1 code hc K Q2 HEI HLT HB2 HQ HK
  by_cases k2 : xk = 2
  · subst k2
    exact sw_2 code hc K Q2 HEI HB2 HQ HK
  by_cases k3 : xk = 3
  · subst k3
    exact sw_3 code hc K Q2 HEI HB2 HQ HX HK
  by_cases k4 : xk = 4
  · subst k4
    exact sw_4 code hc K Q2 HEI HLT HB2 HQ HK
  by_cases k5 : xk = 5
  · subst k5
    exact sw_5 code hc K Q2 HEI HLT HB2 HQ HK
  by_cases k7 : xk = 7
  · subst k7
    exact sw_7 code hc K Q2 HEI HB2 HQ HX HK
  exact sw_0 code hc K Q2 HEI HB2 HQ (by simp [k1]) (by simp [k2]) (by simp [k3]) (by simp [k4]) (by simp [k5]) (by simp [k7]) (by simp [k6]) (by simp [k8]) HK
end Lt
end Go.Proofs.YtgmbiiocjhkpdaaGreat

/-
  LogExact's round from its test on.
-/
namespace Go.Proofs.YtgmbiiocjhkpdaaGreat
open Go.RowKit Go.Shelf
namespace Lt
open Lo
open Num (hid)
open Disk (Mod Fil Sees Stays)
open Mem (Bs bs LAt tI ptr blk_cell blk_free blk_new blk_set blk_other blk_alloc row_kept row_shape row_type)
variable {w wr w2 wc : World} {d m r jj cc jj' cc' k nl : Nat} {E : Int} {o : Bool} {M : Mod} {fs : List Fr} {l : Lg} {xk xn : Int} {xf : UInt8} {xc : Bool} {xq : List Int} {fao : Option Addr} {fn fcap : Nat} {p0 p1 p2 p3 p4 p5 p6 p7 p8 p9 pa pb pc pd pe pf pg ph pi pj pk pl pm pn po pp pq pr ps pt pu pv pw px py pz p10 p11 p12 p13 p14 p15 p16 p17 p18 p19 p1a p1b p1c p1d p1e p1f p1g p1h p1i p1j p1k p1l p1m p1n p1o p1p p1q p1r p1s p1t p1u p1v p1w p1x p1y p1z p20 p21 p22 p23 p24 p25 p26 p27 p28 p29 p2a p2b p2c p2d p2e p2f p2g p2h p2i p2j p2k p2l p2m p2n p2o p2p p2q p2r p2s p2t p2u p2v p2w p2x p2y p2z p30 p31 p32 p33 p34 p35 p36 p37 p38 p39 p3a p3b p3c p3d p3e p3f p3g p3h p3i p3j p3k p3l p3m p3n p3o p3p p3q p3r p3s p3t p3u p3v p3w p3x p3y p3z p40 p41 p42 p43 p44 p45 p46 p47 p48 p49 p4a p4b p4c p4d p4e p4f p4g p4h p4i p4j p4k p4l p4m p4n p4o p4p p4q p4r p4s p4t p4u p4v p4w p4x p4y p4z p50 p51 p52 p53 p54 p55 p56 p57 p58 p59 p5a p5b p5c p5d p5e p5f p5g p5h p5i p5j p5k p5l p5m p5n p5o p5p p5q p5r p5s p5t p5u p5v p5w p5x p5y p5z p60 p61 p62 p63 p64 p65 p66 p67 p68 p69 p6a p6b p6c p6d p6e p6f p6g p6h p6i p6j p6k p6l p6m p6n p6o p6p p6q p6r p6s p6t p6u p6v p6w p6x p6y p6z p70 p71 p72 p73 p74 p75 : Value}
set_option maxRecDepth 100000 in
set_option maxHeartbeats 8000000 in
theorem round_any (code : Code) (hc : seqOf Tryz.f3 16 = some code) (Q2 : Exit → Act → World → Prop)
    (HEI : Hid (EI w d m r jj cc k o M fs l wr)) (HLT : Hid (k < nl ∧ k < 80)) (HB2 : Hid (Below wr.heap.size wr w2)) (HQ : Hid (w2.heap[wr.heap.size]? = some (obA xk xn xf xc fao fn fcap))) (HX : Hid (AcOk w.heap.size wr ⟨xk, xn, xf, xc, .slice fao fn fcap, xq⟩)) (HA0 : Hid (AcOk w.heap.size w ⟨xk, xn, xf, xc, .slice fao fn fcap, xq⟩))
    (HO : HOp w wr d m r k Q2 p0 p1 p6 p8 pa po pp pq pr ps pt pu pv pw px py pz p10 p11 p12 p13 p14 p15 p16 p17 p6u p6v p6w p6x p6y p6z p70 p71 p72 p73 p74 p75) (HF : HFp w wr d m r k jj cc Q2 p0 p1 p6 p8 pa po pp pq pr ps pt pu pv pw px py pz p10 p11 p12 p13 p14 p15 p16 p17 p6u p6v p6w p6x p6y p6z p70 p71 p72 p73 p74 p75) :
    Code.wp Tryz.prog code Q2 { tmps := #[p0,p1,p2,ptr d,Disk.ptr r,ptr jj,p6,ptr cc,p8,Value.bool o,pa,Value.pointer (some { block := wr.heap.size, off := 0 }),Value.int IntKind.i64 0,Value.int IntKind.i64 0,pe,pf,pg,ph,pi,pj,pk,pl,pm,pn,po,pp,pq,pr,ps,pt,pu,pv,pw,px,py,pz,p10,p11,p12,p13,p14,p15,p16,p17,p18,p19,p1a,p1b,p1c,p1d,p1e,p1f,p1g,p1h,p1i,p1j,p1k,p1l,p1m,p1n,p1o,p1p,p1q,p1r,p1s,p1t,p1u,p1v,p1w,p1x,p1y,p1z,p20,p21,p22,p23,p24,p25,p26,p27,p28,p29,p2a,p2b,p2c,p2d,p2e,p2f,p2g,p2h,p2i,p2j,p2k,p2l,p2m,p2n,p2o,p2p,p2q,p2r,p2s,p2t,p2u,p2v,p2w,p2x,p2y,p2z,p30,p31,p32,p33,p34,p35,p36,p37,p38,p39,p3a,p3b,p3c,p3d,p3e,p3f,p3g,p3h,p3i,p3j,p3k,p3l,p3m,p3n,p3o,p3p,p3q,p3r,p3s,p3t,p3u,p3v,p3w,p3x,p3y,p3z,p40,p41,p42,p43,p44,p45,p46,p47,p48,p49,p4a,p4b,p4c,p4d,p4e,p4f,p4g,p4h,p4i,p4j,p4k,p4l,p4m,p4n,p4o,p4p,p4q,p4r,p4s,p4t,p4u,p4v,p4w,p4x,p4y,p4z,p50,p51,p52,p53,p54,p55,p56,p57,p58,p59,p5a,p5b,p5c,p5d,p5e,p5f,p5g,p5h,p5i,p5j,p5k,p5l,p5m,p5n,p5o,p5p,p5q,p5r,p5s,p5t,p5u,p5v,p5w,p5x,p5y,p5z,p60,p61,p62,p63,p64,p65,p66,p67,p68,p69,p6a,p6b,p6c,p6d,p6e,p6f,p6g,p6h,p6i,p6j,p6k,p6l,p6m,p6n,p6o,p6p,p6q,p6r,p6s,p6t,p6u,p6v,p6w,p6x,p6y,p6z,p70,p71,p72,p73,p74,p75], defers := [] } w2 := by
  conv at hc => lhs; whnf
  injection hc with hc
  subst hc
  have c0 : w2.cell? ⟨wr.heap.size, 0, none⟩ = some (.int .i64 xk) := blk_cell HQ.out 0
  by_cases hsk : o = true ∧ xk ≠ 6 ∧ xk ≠ 8
  · obtain ⟨rfl, h6, h8⟩ := hsk
    have n6 : (xk != 6) = true := by simp [h6]
    have n8 : (xk != 8) = true := by simp [h8]
    go_wp2_with fail
    exact HF.out _ (hid ⟨M, fs, l, ei_skip (HEI.out.on HB2.out)⟩)
  · have HSK : Hid (o = true → xk = 6 ∨ xk = 8) := hid (skip_ways hsk)
    clear hsk
    cases o with
    | false =>
      go_upto_block 2 with fail
      rename_i K hK
      refine sw_any _ (by rfl) K _ HEI HLT HB2 HQ HX HA0 HSK ⟨?_⟩ ⟨?_⟩
      · intros
        rename_i jj' cc' E wx HJ HC
        refine hK _ _ ?_
        refine rest_any _ (by rfl) _ HJ HC ⟨?_⟩
        intros
        rename_i wy o' HI
        exact HO.out jj' cc' wy o' HI
      · intros
        rename_i wx h
        exact HF.out wx h
    | true =>
      rcases HSK.out rfl with rfl | rfl
      · go_upto_block 2 with fail
        rename_i K hK
        refine sw_any _ (by rfl) K _ HEI HLT HB2 HQ HX HA0 HSK ⟨?_⟩ ⟨?_⟩
        · intros
          rename_i jj' cc' E wx HJ HC
          refine hK _ _ ?_
          refine rest_any _ (by rfl) _ HJ HC ⟨?_⟩
          intros
          rename_i wy o' HI
          exact HO.out jj' cc' wy o' HI
        · intros
          rename_i wx h
          exact HF.out wx h
      · go_upto_block 2 with fail
        rename_i K hK
        refine sw_any _ (by rfl) K _ HEI HLT HB2 HQ HX HA0 HSK ⟨?_⟩ ⟨?_⟩
        · intros
          rename_i jj' cc' E wx HJ HC
          refine hK _ _ ?_
          refine rest_any _ (by rfl) _ HJ HC ⟨?_⟩
          intros
          rename_i wy o' HI
          exact HO.out jj' cc' wy o' HI
        · intros
          rename_i wx h
          exact HF.out wx h
end Lt
end Go.Proofs.YtgmbiiocjhkpdaaGreat
