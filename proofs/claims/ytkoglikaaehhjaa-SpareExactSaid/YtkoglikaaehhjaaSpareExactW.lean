/-
  SpareExact: the walk of the statement.
-/
import Derived.Test.YtkoglikaaehhjaaSpareExactD
import Derived.Deep.RegionHeld3
import Derived.Deep.CutBlock
import Derived.Deep.CutRange
namespace Go.Proofs.Ytkoglikaaehhjaa
open Go.RowKit
namespace spareExact
open Sp
open Num (hid)
open Mem (Bs bs ptr Chg Row IAt LAt tI tIs tS tSs blk_cell blk_free blk_new blk_set blk_other blk_alloc row_kept)
theorem pgs_ways {w : World} {x : Value} {l : List PgM} (h : PAt w x l) : ∃ ao cap, x = .slice ao l.length cap ∧ l.length ≤ maxLen ∧ ∀ j (hj : j < l.length), ∃ b o, ao = some ⟨b, o, none⟩ ∧ b < w.heap.size ∧ w.cell? ⟨b, o + j * 2, none⟩ = some (.int .i64 l[j].n) ∧ w.cell? ⟨b, o + j * 2 + 1, none⟩ = some (.string l[j].data) := by
  obtain ⟨ao, cap, h1, h2, h3, h4⟩ := LAt.ways h
  refine ⟨ao, cap, h1, h2, fun j hj => ?_⟩
  obtain ⟨b, o, e1, e2, e3⟩ := h4 j hj
  exact ⟨b, o, e1, e2, e3 0 (by decide), e3 1 (by decide)⟩
theorem cell_on {w w' : World} {N b i : Nat} {v : Value} (hb : Below N w w') (h : b < N) (hc : w.cell? ⟨b, i, none⟩ = some v) : w'.cell? ⟨b, i, none⟩ = some v := (World.cell?_of_block (hb.block b h)).trans hc
theorem new_on (w : World) (o : Obj) : Below w.heap.size w (w.alloc o) := (Below.refl _ _).alloc (Nat.le_refl _) _
theorem new_drew (w : World) (o : Obj) : Below w.heap.size w (w.alloc o).drew := ((Below.refl _ _).alloc (Nat.le_refl _) _).drew
theorem ge_seven {R2 : Nat → Prop} {N d b u bh cnt g q i : Nat} {h x : Hd} {B1 B2 : Book} {l : Int} {w0 w : World} {v : Value} (k : GE R2 N d b u bh cnt h B1 B2 l w0 g x w) (hq : q < N) (hv : w0.cell? ⟨q, i, none⟩ = some v) :
    w.cell? ⟨bh, 0, none⟩ = some (.int .i64 h.mode) ∧ w.cell? ⟨bh, 1, none⟩ = some (.int .i64 h.pages) ∧ w.cell? ⟨bh, 2, none⟩ = some (.int .i64 h.trunk) ∧ w.cell? ⟨bh, 3, none⟩ = some (.int .i64 h.spare) ∧ w.cell? ⟨bh, 4, none⟩ = some (.int .i64 h.root) ∧ w.cell? ⟨bh, 5, none⟩ = some (.int .u64 (h.change : Nat)) ∧ w.cell? ⟨q, i, none⟩ = some v := by
  obtain ⟨O, hd⟩ := k.duo
  exact hd.seven hq hv
theorem re_seven {N d b u bh cnt g1 g2 q i : Nat} {h x : Hd} {B1 B2 : Book} {l : Int} {w0 w : World} {v : Value} (k : RE N d b u bh cnt h B1 B2 l w0 g1 g2 x w) (hq : q < N) (hv : w0.cell? ⟨q, i, none⟩ = some v) :
    w.cell? ⟨bh, 0, none⟩ = some (.int .i64 h.mode) ∧ w.cell? ⟨bh, 1, none⟩ = some (.int .i64 h.pages) ∧ w.cell? ⟨bh, 2, none⟩ = some (.int .i64 h.trunk) ∧ w.cell? ⟨bh, 3, none⟩ = some (.int .i64 h.spare) ∧ w.cell? ⟨bh, 4, none⟩ = some (.int .i64 h.root) ∧ w.cell? ⟨bh, 5, none⟩ = some (.int .u64 (h.change : Nat)) ∧ w.cell? ⟨q, i, none⟩ = some v := by
  obtain ⟨O, R2, hd⟩ := k.duo
  exact hd.seven hq hv
theorem drew_off {w w' : World} (hb : Below w.drew.heap.size w.drew w') : Below w.heap.size w w' := (Below.refl _ w).drew.trans hb
theorem five_on {w : World} {d u gg gg2 k : Nat} {x0 x1 x2 x3 x4 : Value} (h0 : w.cell? ⟨d, 0, none⟩ = some x0) (h1 : w.cell? ⟨u, 0, none⟩ = some x1) (h2 : w.cell? ⟨u, 1, none⟩ = some x2) (h3 : w.cell? ⟨gg, k, none⟩ = some x3) (h4 : w.cell? ⟨gg2, k, none⟩ = some x4) (hd : d < w.heap.size) (hu : u < w.heap.size) (hg : gg < w.heap.size) (hg2 : gg2 < w.heap.size) :
    ∀ w', Below w.heap.size w w' → w'.cell? ⟨d, 0, none⟩ = some x0 ∧ w'.cell? ⟨u, 0, none⟩ = some x1 ∧ w'.cell? ⟨u, 1, none⟩ = some x2 ∧ w'.cell? ⟨gg, k, none⟩ = some x3 ∧ w'.cell? ⟨gg2, k, none⟩ = some x4 := fun _ hb =>
  ⟨cell_on hb hd h0, cell_on hb hu h1, cell_on hb hu h2, cell_on hb hg h3, cell_on hb hg2 h4⟩
set_option maxRecDepth 100000 in
set_option maxHeartbeats 16000000 in
theorem walk (h0 : Hd) (v1 : Value) (l1 : List PgM) (v2 : Value) (l2 : List Int) (w : World) (hP : PAt w v1 l1) (hI : IAt w v2 l2) :
    Calls Try.prog 4 #[hV h0, v1, v2] w fun e w' => e = .returned (.bool true) ∧ Below w.heap.size w w' := by
  obtain ⟨ao1, cap1, rfl, hml1, hc1⟩ := pgs_ways hP
  obtain ⟨ao2, cap2, rfl, hml2, -, hc2⟩ := hI.ways1
  have HML1 := hid hml1
  have HML2 := hid hml2
  have HC1 := hid hc1
  have HC2 := hid hc2
  have G1 := hid (Hb.new h0 w)
  have B1 := hid ((Below.refl w.heap.size w).alloc (Nat.le_refl _) (hObj h0))
  have HF := hid (fun w => rfit_any h0 w)
  unfold hV at HF ⊢
  clear hml1 hml2 hc1 hc2 hP hI
  go_enter Try.func4, Try.ntmps4
  go_upto_region 1 with fail
  generalize w.alloc (.cells #[.int .i64 h0.mode, .int .i64 h0.pages, .int .i64 h0.trunk, .int .i64 h0.spare, .int .i64 h0.root, .int .u64 (h0.change : Nat)] tH) = w1 at *
  obtain ⟨bh, hbh⟩ : ∃ bh, bh = w.heap.size := ⟨_, rfl⟩
  rw [← hbh] at G1
  have HBH := hid hbh
  go_wp2_with fail
  refine (awake_any _).mono ?_
  rintro e w2 ⟨rfl, hb2⟩
  have G2 := hid (G1.out.on hb2)
  have B2 := hid (B1.out.trans (hb2.mono B1.out.size))
  clear hb2 G1 B1
  obtain ⟨a0, a1, a2, a3, a4, a5⟩ := G2.out.cells
  have al := G2.out.lt
  rw [← hbh]
  clear hbh
  go_wp2_with fail
  refine (HF.out _).mono ?_
  rintro e w3 ⟨rfl, hb3⟩
  have G3 := hid (G2.out.on hb3)
  have B3 := hid (B2.out.trans (hb3.mono B2.out.size))
  clear hb3 G2 B2 a0 a1 a2 a3 a4 a5 al HF
  by_cases hfit : Fit h0
  · have hfb : fitB h0 = true := decide_eq_true hfit
    have HFIT := hid hfit
    clear hfit
    go_wp2_with fail
    refine (fresh_any w3).mono ?_
    rintro e w4 ⟨rfl, hs, hb, -⟩
    obtain ⟨O1, R1, hD⟩ := duo_new (h := h0) (by have := HBH.out; omega) G3.out B3.out hs hb
    have D5 := hid hD
    generalize w3.heap.size + 1 = d at *
    generalize w3.heap.size = b at *
    clear hs hb hD
    go_upto_region 7 with fail
    generalize w4.alloc (.cells #[.slice none 0 0, .slice none 0 0] tBk) = w5 at *
    generalize w4.heap.size = u at *
    go_upto_block 0 with fail
    go_cut [] from 30 to 73 (fun wc => ∃ (O R2 : Nat → Prop) (B : Book) (l : Int), Hid (Duo O R2 w.heap.size d b u bh (22 + 2 * 0) h0 B B l w wc) ∧ Hid ((B.map (·.1)).Nodup))
    case first =>
      go_wp2_with fail
      go_loopw [9] (fun i wr => ∃ (m : Nat) (O R2 : Nat → Prop) (B : Book) (l : Int), m ≤ l1.length ∧ m ≤ 20 ∧ i = .int .i64 m ∧ Hid (Duo O R2 w.heap.size d b u bh (m + 1) h0 B B l w wr) ∧ Hid ((B.map (·.1)).Nodup)) (fun i _ => 20 - (intOf i).toNat)
      case atStart => exact ⟨0, O1, R1, [], -1, Nat.zero_le _, Nat.zero_le _, rfl, D5, hid List.nodup_nil⟩
      case round =>
        obtain ⟨m, O, R2, B, l, hm1, hm2, rfl, HD, HNK⟩ := hrel
        by_cases hlt : m < l1.length ∧ m < 20
        · obtain ⟨hlt1, hlt2⟩ := hlt
          have hle1 : (m : Int) < l1.length := by omega
          have hle2 : (m : Int) < 20 := by omega
          obtain ⟨p0, o0, rfl, hp0, hx0, hx1⟩ := HC1.out m hlt1
          generalize l1[m] = x at *
          have HX0 := hid hx0
          have HX1 := hid hx1
          have HP0 := hid hp0
          have hx0 := cell_on HD.out.lab.be hp0 hx0
          have hx1 := cell_on HD.out.lab.be hp0 hx1
          have hlb : p0 < wr.heap.size := Nat.lt_of_lt_of_le hp0 HD.out.lab.size
          clear hp0
          by_cases hsz : x.data.size = 232
          · have hne : ((x.data.size : Int) != 232) = false := by rw [hsz]; rfl
            have HPD := hid ((HD.out.kept (Below.refl wr.heap.size wr).drew).dput (by omega) x.n (bl x.data))
            rw [bs_bl] at HPD
            clear hsz
            go_upto_region 12 with fail
            have D1 := hid (HD.out.kept (Below.refl wr.heap.size wr).drew)
            have J0 := hid (And.intro D1.out.desk.1 (And.intro (cell_on D1.out.lab.be HP0.out HX0.out) (cell_on D1.out.lab.be HP0.out HX1.out)))
            go_region_held3 (fun W => W.cell? ⟨d, 0, none⟩ = some (ptr b) ∧ W.cell? ⟨p0, o0 + m * 2, none⟩ = some (.int .i64 x.n) ∧ W.cell? ⟨p0, o0 + m * 2 + 1, none⟩ = some (.string x.data))
              (first | with_reducible exact J0.out | with_reducible exact J1.out)
              (first
                | go_at_call 16; refine HPD.out.mono ?_; rintro e w6 ⟨rfl, hd6⟩; have D6 := hid hd6; have J1 := hid (And.intro D6.out.desk.1 (And.intro (cell_on D6.out.lab.be HP0.out HX0.out) (cell_on D6.out.lab.be HP0.out HX1.out))); clear hd6)
            clear hx0 hx1 hlb HPD
            have hlb : p0 < w6.heap.size := Nat.lt_of_lt_of_le HP0.out D6.out.lab.size
            have HPU := hid ((D6.out.kept (Below.refl w6.heap.size w6).drew).uput (by have := HD.out.few; omega) x.n (bl x.data))
            rw [bs_bl] at HPU
            go_upto_region 13 with fail
            have D7 := hid (D6.out.kept (Below.refl w6.heap.size w6).drew)
            have J2 := hid (And.intro (cell_on D7.out.lab.be HP0.out HX0.out) (cell_on D7.out.lab.be HP0.out HX1.out))
            go_region_held3 (fun W => W.cell? ⟨p0, o0 + m * 2, none⟩ = some (.int .i64 x.n) ∧ W.cell? ⟨p0, o0 + m * 2 + 1, none⟩ = some (.string x.data))
              (first | with_reducible exact J2.out | with_reducible exact J3.out)
              (first
                | go_at_call 16; refine HPU.out.mono ?_; rintro e w8 ⟨rfl, O8, R8, hd8⟩; have D8 := hid hd8; have J3 := hid (And.intro (cell_on D8.out.lab.be HP0.out HX0.out) (cell_on D8.out.lab.be HP0.out HX1.out)); clear hd8)
            clear HPU hlb
            have HNK2 := hid (put_keys (n := x.n) (d := bl x.data) HNK.out)
            go_wp2
            go_roundw
            case rel => exact ⟨m + 1, O8, R8, putB B x.n (bl x.data), l, hlt1, hlt2, by go_num, D8, HNK2⟩
            case measure => simp [intOf]; omega
          · have hne : ((x.data.size : Int) != 232) = true := by simp; omega
            clear hsz
            go_wp2
            go_ret
            exact ⟨rfl, HD.out.lab.be⟩
        · have hstop : ¬ ((m : Int) < (l1.length : Int)) ∨ (((m : Int) < (l1.length : Int)) ∧ ¬ ((m : Int) < 20)) := by
            by_cases h1' : m < l1.length
            · exact Or.inr ⟨by omega, fun h2' => hlt ⟨h1', by omega⟩⟩
            · exact Or.inl (by omega)
          have HD2 := hid (HD.out.more (show m + 1 ≤ 22 + 2 * 0 by omega))
          clear hlt
          rcases hstop with hs1 | ⟨hs1, hs2⟩
          all_goals
            go_wp2_with fail
            go_meet
            case rel => exact ⟨O, R2, B, l, HD2, HNK⟩
    case rest =>
      obtain ⟨O, R2, B, l, HD2, HNK⟩ := hcut
      go_wp2_with fail
      go_loopw [10] (fun i wr => ∃ (n : Nat) (O R2 : Nat → Prop) (h : Hd) (B : Book) (l : Int), n ≤ l2.length ∧ n ≤ 200 ∧ i = .int .i64 n ∧ Hid (Duo O R2 w.heap.size d b u bh (22 + 2 * n) h B B l w wr) ∧ Hid ((B.map (·.1)).Nodup) ∧ Hid (Fit h)) (fun i _ => 200 - (intOf i).toNat)
      case atStart => exact ⟨0, O, R2, h0, B, l, Nat.zero_le _, Nat.zero_le _, rfl, HD2, HNK, HFIT⟩
      case round =>
        clear HD2 HNK HFIT
        obtain ⟨n, O, R2, h, B, l, hn1, hn2, rfl, HD, HNK, HFIT⟩ := hrel
        by_cases hlt : n < l2.length ∧ n < 200
        · obtain ⟨hlt1, hlt2⟩ := hlt
          have hle1 : (n : Int) < l2.length := by omega
          have hle2 : (n : Int) < 200 := by omega
          obtain ⟨q0, o2, hao, hq0, hx0⟩ := HC2.out n hlt1
          subst hao
          generalize l2[n] = x at *
          have HX0 := hid hx0
          have HQ0 := hid hq0
          have hx0 := cell_on HD.out.lab.be hq0 hx0
          have hlq : q0 < wr.heap.size := Nat.lt_of_lt_of_le hq0 HD.out.lab.size
          clear hq0
          have hfew := HD.out.few
          by_cases hx : x = 0
          · have hxe : (x == 0) = true := by simpa using hx
            obtain ⟨a0, a1, a2, a3, a4, a5⟩ := HD.out.lab.hb.cells
            have al := HD.out.lab.hb.lt
            have HT := hid (HD.out.take HFIT.out (by omega))
            have HKN := hid (keys_take (h := h) HNK.out)
            have HRT := hid (fun (wx : World) (l' : Int) (k : Duo O R2 w.heap.size d b u bh (22 + 2 * n + 2) h (rTake h B).2 B l' w wx) => k.rtake HFIT.out (by omega))
            have HHF := hid (fun w => rfit_any h w)
            generalize rTake h B = X at *
            obtain ⟨⟨xa, xh, xe⟩, XB⟩ := X
            have HXF := hid (fun w => rfit_any xh w)
            unfold takeV hV at HT HRT
            unfold hV at HHF HXF
            simp only at HT HRT HKN
            clear hx hfew
            go_wp2_with fail
            refine HT.out.mono ?_
            rintro e w3 ⟨rfl, ⟨l3, hd3⟩, -⟩
            have hba : Below w3.heap.size w3 (w3.alloc (hObj xh)) := (Below.refl w3.heap.size w3).alloc (Nat.le_refl _) _
            have D4 := hid (hd3.kept hba)
            have G4 := hid (Hb.new xh w3)
            have N4 : Hid (¬ R2 w3.heap.size) := hid (fun e => by have := (hd3.sub _ e).2.2.2; omega)
            clear hd3 hba a0 a1 a2 a3 a4 a5 al HT hx0 hlq
            go_upto_region 19 with fail
            generalize w3.alloc (.cells #[.int .i64 xh.mode, .int .i64 xh.pages, .int .i64 xh.trunk, .int .i64 xh.spare, .int .i64 xh.root, .int .u64 (xh.change : Nat)] tH) = w4 at *
            generalize w3.heap.size = g1 at *
            obtain ⟨a0, a1, a2, a3, a4, a5⟩ := D4.out.lab.hb.cells
            have al := D4.out.lab.hb.lt
            go_wp2_with fail
            refine (HRT.out w4 l3 D4.out).mono ?_
            rintro e w5 ⟨rfl, O5, R5, hd5, hkeep, -⟩
            have hba : Below w5.heap.size w5 (w5.alloc (hObj xh)) := (Below.refl w5.heap.size w5).alloc (Nat.le_refl _) _
            have D6 := hid (hd5.kept hba)
            have G6 := hid ((hkeep g1 xh G4.out N4.out).1.on hba)
            have G7 := hid (Hb.new xh w5)
            clear hd5 hkeep hba a0 a1 a2 a3 a4 a5 al HRT D4 G4 N4 HD
            go_upto_region 20 with fail
            generalize w5.alloc (.cells #[.int .i64 xh.mode, .int .i64 xh.pages, .int .i64 xh.trunk, .int .i64 xh.spare, .int .i64 xh.root, .int .u64 (xh.change : Nat)] tH) = w6 at *
            generalize w5.heap.size = g2 at *
            obtain ⟨b0, b1, b2, b3, b4, b5⟩ := G6.out.cells
            obtain ⟨c0, c1, c2, c3, c4, c5⟩ := G7.out.cells
            have bl1 := G6.out.lt
            have cl1 := G7.out.lt
            by_cases he : xe = 0
            · as_aux_lemma =>
              subst he
              have D7 := hid (D6.out.put xh)
              obtain ⟨a0, a1, a2, a3, a4, a5⟩ := D6.out.lab.hb.cells
              obtain ⟨f0, f1, f2, f3, f4, f5⟩ := D6.out.lab.hb.free
              have al := D6.out.lab.hb.lt
              unfold put6 at D7
              go_upto_region 30 with fail
              clear a0 a1 a2 a3 a4 a5 f0 f1 f2 f3 f4 f5 al b0 b1 b2 b3 b4 b5 c0 c1 c2 c3 c4 c5 bl1 cl1 G6 G7 D6
              generalize (((((w6.setCell ⟨bh, 0, none⟩ (.int .i64 xh.mode)).setCell ⟨bh, 1, none⟩ (.int .i64 xh.pages)).setCell ⟨bh, 2, none⟩ (.int .i64 xh.trunk)).setCell ⟨bh, 3, none⟩ (.int .i64 xh.spare)).setCell ⟨bh, 4, none⟩ (.int .i64 xh.root)).setCell ⟨bh, 5, none⟩ (.int .u64 (xh.change : Nat)) = w7 at *
              generalize xh = hh at *
              have hfw := D7.out.few
              go_wp2_with fail
              go_loopw [21] (fun i wr3 => ∃ k : Nat, k ≤ XB.length ∧ i = .int .i64 k ∧ Hid (Below w7.heap.size w7 wr3)) (fun i _ => XB.length - (intOf i).toNat)
              case atStart => exact ⟨0, Nat.zero_le _, rfl, hid (Below.refl _ _)⟩
              case round =>
                obtain ⟨k, hk, rfl, HB⟩ := hrel
                have D8 := hid (D7.out.kept HB.out)
                obtain ⟨ao5, cap5, ao6, cap6, u0, u1, ul, hrow⟩ := D8.out.rows
                by_cases hlk : k < XB.length
                · have hlk2 : (k : Int) < (XB.length : Int) := by omega
                  obtain ⟨gg, gg2, rfl, rfl, gl1, gl2, e1, e2⟩ := hrow k hlk
                  have HG := hid (dget (D8.out.kept (Below.refl wr.heap.size wr).drew) (by omega) XB[k].1)
                  rw [Sp.get_at XB k hlk HKN.out] at HG
                  have dd := D8.out.desk
                  obtain ⟨dd1, dd2⟩ := dd
                  generalize XB[k].1 = ky at *
                  generalize bs XB[k].2 = dt at *
                  clear hrow
                  go_upto_region 33 with fail
                  have J0 := hid (And.intro (show wr.drew.cell? ⟨d, 0, none⟩ = _ from dd1) (And.intro (show wr.drew.cell? ⟨u, 0, none⟩ = _ from u0) (And.intro (show wr.drew.cell? ⟨u, 1, none⟩ = _ from u1) (And.intro (show wr.drew.cell? ⟨gg, k, none⟩ = _ from e1) (show wr.drew.cell? ⟨gg2, k, none⟩ = _ from e2)))))
                  have H5 := hid (five_on (w := wr) dd1 u0 u1 e1 e2 dd2 ul gl1 gl2)
                  go_region_held3 (fun W => W.cell? ⟨d, 0, none⟩ = some (ptr b) ∧ W.cell? ⟨u, 0, none⟩ = some (.slice (some ⟨gg, 0, none⟩) XB.length cap5) ∧ W.cell? ⟨u, 1, none⟩ = some (.slice (some ⟨gg2, 0, none⟩) XB.length cap6) ∧ W.cell? ⟨gg, k, none⟩ = some (.int .i64 ky) ∧ W.cell? ⟨gg2, k, none⟩ = some (.string dt))
                    (first | with_reducible exact J0.out | with_reducible exact J1.out)
                    (first
                      | go_at_call 21; refine HG.out.mono ?_; rintro e w8 ⟨rfl, hb8⟩; have hb9 := drew_off hb8; have J1 := hid (H5.out w8 hb9); have HB2 := hid (HB.out.trans (hb9.mono HB.out.size)); clear hb8 hb9)
                  go_wp2
                  go_roundw
                  case rel => exact ⟨k + 1, by omega, by go_num, HB2⟩
                  case measure => simp [intOf]; omega
                · have hlk2 : ¬ (k : Int) < (XB.length : Int) := by omega
                  obtain ⟨a0, a1, a2, a3, a4, a5⟩ := D8.out.lab.hb.cells
                  have al := D8.out.lab.hb.lt
                  by_cases hft : Fit hh
                  · have hfb : fitB hh = true := decide_eq_true hft
                    have HFT := hid hft
                    clear hft
                    go_wp2_with fail
                    refine (HXF.out _).mono ?_
                    rintro e w9 ⟨rfl, hb9⟩
                    have D9 := hid (D8.out.kept hb9)
                    have e3m : 22 + 2 * n + 2 = 22 + 2 * (n + 1) := by omega
                    rw [e3m] at D9
                    clear hb9 e3m hlk
                    go_wp2
                    go_roundw
                    case rel => exact ⟨n + 1, O5, R5, hh, XB, l3, hlt1, hlt2, by go_num, D9, HKN, HFT⟩
                    case measure => simp [intOf]; omega
                  · have hfb : fitB hh = false := decide_eq_false hft
                    clear hft
                    go_wp2_with fail
                    refine (HXF.out _).mono ?_
                    rintro e w9 ⟨rfl, hb9⟩
                    have D9 := hid (D8.out.kept hb9)
                    clear hb9
                    go_wp2
                    go_ret
                    exact ⟨rfl, D9.out.lab.be⟩
            · as_aux_lemma =>
              have he2 : (xe == 0) = false := by simpa using he
              have D7 := D6
              generalize w6 = w7 at *
              clear HXF
              have HXF := HHF
              go_upto_region 30 with fail
              clear b0 b1 b2 b3 b4 b5 c0 c1 c2 c3 c4 c5 bl1 cl1 G6 G7 D6 he
              generalize h = hh at *
              have hfw := D7.out.few
              go_wp2_with fail
              go_loopw [21] (fun i wr3 => ∃ k : Nat, k ≤ XB.length ∧ i = .int .i64 k ∧ Hid (Below w7.heap.size w7 wr3)) (fun i _ => XB.length - (intOf i).toNat)
              case atStart => exact ⟨0, Nat.zero_le _, rfl, hid (Below.refl _ _)⟩
              case round =>
                obtain ⟨k, hk, rfl, HB⟩ := hrel
                have D8 := hid (D7.out.kept HB.out)
                obtain ⟨ao5, cap5, ao6, cap6, u0, u1, ul, hrow⟩ := D8.out.rows
                by_cases hlk : k < XB.length
                · have hlk2 : (k : Int) < (XB.length : Int) := by omega
                  obtain ⟨gg, gg2, rfl, rfl, gl1, gl2, e1, e2⟩ := hrow k hlk
                  have HG := hid (dget (D8.out.kept (Below.refl wr.heap.size wr).drew) (by omega) XB[k].1)
                  rw [Sp.get_at XB k hlk HKN.out] at HG
                  have dd := D8.out.desk
                  obtain ⟨dd1, dd2⟩ := dd
                  generalize XB[k].1 = ky at *
                  generalize bs XB[k].2 = dt at *
                  clear hrow
                  go_upto_region 33 with fail
                  have J0 := hid (And.intro (show wr.drew.cell? ⟨d, 0, none⟩ = _ from dd1) (And.intro (show wr.drew.cell? ⟨u, 0, none⟩ = _ from u0) (And.intro (show wr.drew.cell? ⟨u, 1, none⟩ = _ from u1) (And.intro (show wr.drew.cell? ⟨gg, k, none⟩ = _ from e1) (show wr.drew.cell? ⟨gg2, k, none⟩ = _ from e2)))))
                  have H5 := hid (five_on (w := wr) dd1 u0 u1 e1 e2 dd2 ul gl1 gl2)
                  go_region_held3 (fun W => W.cell? ⟨d, 0, none⟩ = some (ptr b) ∧ W.cell? ⟨u, 0, none⟩ = some (.slice (some ⟨gg, 0, none⟩) XB.length cap5) ∧ W.cell? ⟨u, 1, none⟩ = some (.slice (some ⟨gg2, 0, none⟩) XB.length cap6) ∧ W.cell? ⟨gg, k, none⟩ = some (.int .i64 ky) ∧ W.cell? ⟨gg2, k, none⟩ = some (.string dt))
                    (first | with_reducible exact J0.out | with_reducible exact J1.out)
                    (first
                      | go_at_call 21; refine HG.out.mono ?_; rintro e w8 ⟨rfl, hb8⟩; have hb9 := drew_off hb8; have J1 := hid (H5.out w8 hb9); have HB2 := hid (HB.out.trans (hb9.mono HB.out.size)); clear hb8 hb9)
                  go_wp2
                  go_roundw
                  case rel => exact ⟨k + 1, by omega, by go_num, HB2⟩
                  case measure => simp [intOf]; omega
                · have hlk2 : ¬ (k : Int) < (XB.length : Int) := by omega
                  obtain ⟨a0, a1, a2, a3, a4, a5⟩ := D8.out.lab.hb.cells
                  have al := D8.out.lab.hb.lt
                  by_cases hft : Fit hh
                  · have hfb : fitB hh = true := decide_eq_true hft
                    have HFT := hid hft
                    clear hft
                    go_wp2_with fail
                    refine (HXF.out _).mono ?_
                    rintro e w9 ⟨rfl, hb9⟩
                    have D9 := hid (D8.out.kept hb9)
                    have e3m : 22 + 2 * n + 2 = 22 + 2 * (n + 1) := by omega
                    rw [e3m] at D9
                    clear hb9 e3m hlk
                    go_wp2
                    go_roundw
                    case rel => exact ⟨n + 1, O5, R5, hh, XB, l3, hlt1, hlt2, by go_num, D9, HKN, HFT⟩
                    case measure => simp [intOf]; omega
                  · have hfb : fitB hh = false := decide_eq_false hft
                    clear hft
                    go_wp2_with fail
                    refine (HXF.out _).mono ?_
                    rintro e w9 ⟨rfl, hb9⟩
                    have D9 := hid (D8.out.kept hb9)
                    clear hb9
                    go_wp2
                    go_ret
                    exact ⟨rfl, D9.out.lab.be⟩
          · have hxe : (x == 0) = false := by simpa using hx
            have HKN := hid (keys_give (h := h) (n := x) HNK.out)
            have HGA := hid ((HD.out.kept (Below.refl wr.heap.size wr).drew).give HFIT.out (by omega) x)
            obtain ⟨OB, hDB, hOB, hRB⟩ := HD.out.boxed zObj
            have HGB := hid (hDB.give HFIT.out (by omega) x)
            have HOB := hid hOB
            have HRB := hid hRB
            have HLT := hid (show bh < wr.heap.size from HD.out.lab.hb.lt)
            have JA := hid ((HD.out.kept (Below.refl wr.heap.size wr).drew).seven HQ0.out HX0.out)
            have JB := hid (hDB.seven HQ0.out HX0.out)
            have HGT := hid (fun (wx : World) (O' : Nat → Prop) (l' : Int) (k : Duo O' R2 w.heap.size d b u bh (22 + 2 * n + 2) h (rGive h B x).2 B l' w wx) => k.rgive HFIT.out (by omega) x)
            have HHF := hid (fun w => rfit_any h w)
            generalize rGive h B x = X at *
            obtain ⟨⟨xh, xe⟩, XB⟩ := X
            have HXF := hid (fun w => rfit_any xh w)
            unfold giveV hV at HGA HGB HGT
            unfold hV at HHF HXF
            simp only at HGA HGB HGT HKN
            clear hx hDB hOB hRB
            go_upto_region 24 with fail
            go_region_held3 (fun W => W.cell? ⟨bh, 0, none⟩ = some (.int .i64 h.mode) ∧ W.cell? ⟨bh, 1, none⟩ = some (.int .i64 h.pages) ∧ W.cell? ⟨bh, 2, none⟩ = some (.int .i64 h.trunk) ∧ W.cell? ⟨bh, 3, none⟩ = some (.int .i64 h.spare) ∧ W.cell? ⟨bh, 4, none⟩ = some (.int .i64 h.root) ∧ W.cell? ⟨bh, 5, none⟩ = some (.int .u64 (h.change : Nat)) ∧ W.cell? ⟨q0, o2 + n, none⟩ = some (.int .i64 x))
              (first | with_reducible exact JA.out | with_reducible exact JB.out | with_reducible exact J3.out | with_reducible exact J4.out | with_reducible exact J5.out)
              (first
                | go_at_call 19; (with_reducible refine HGA.out.mono ?_); rintro e w3 ⟨rfl, ⟨l3, hd3⟩, -⟩; have FG := hid (ge_A hd3 xh); have J3 := hid (hd3.seven HQ0.out HX0.out); have J4 := hid ((hd3.kept (new_on w3 zObj)).seven HQ0.out HX0.out); have J5 := hid ((hd3.kept (new_on w3 (hObj xh))).seven HQ0.out HX0.out); clear hd3
                | go_at_call 19; (with_reducible refine HGB.out.mono ?_); rintro e w3 ⟨rfl, ⟨l3, hd3⟩, hst⟩; have hz := hst.hb (show Hb wr.heap.size hd0 (wr.alloc zObj).drew from blk_new wr zObj) HOB.out; have FG := hid (ge_B hd3 HOB.out HRB.out hz HLT.out xh); have J3 := hid (hd3.seven HQ0.out HX0.out); have J5 := hid (ge_seven FG.out HQ0.out HX0.out); obtain ⟨x0, x1, x2, x3, x4, x5⟩ := hz.cells; obtain ⟨z0, z1, z2, z3, z4, z5⟩ := hz.free; have hxl := hz.lt; clear hd3 hst hz)
            · generalize hgg : w3.heap.size = g1 at *
              generalize w3.alloc (.cells #[.int .i64 xh.mode, .int .i64 xh.pages, .int .i64 xh.trunk, .int .i64 xh.spare, .int .i64 xh.root, .int .u64 (xh.change : Nat)] tH) = w4 at *
              clear hgg J3 J4 J5
              clear HGA HGB JA JB HOB HRB hx0 hlq HLT
              obtain ⟨O4, hd4⟩ := FG.out.duo
              have G4 := hid FG.out.box
              have N4 := hid FG.out.nr
              have HLT := hid (And.intro (show bh < w4.heap.size from hd4.lab.hb.lt) G4.out.lt)
              have HRA := hid (HGT.out _ O4 l3 (hd4.kept (Below.refl w4.heap.size w4).drew))
              obtain ⟨OB, hDB, hOB, hRB⟩ := hd4.boxed zObj
              have HRB := hid (HGT.out _ OB l3 hDB)
              have HOB := hid hOB
              have HNB := hid hRB
              have JA := hid ((hd4.kept (Below.refl w4.heap.size w4).drew).seven HQ0.out HX0.out)
              have JB := hid (hDB.seven HQ0.out HX0.out)
              have hlq : q0 < w4.heap.size := Nat.lt_of_lt_of_le HQ0.out hd4.lab.size
              clear hd4 hDB hOB hRB HGT FG HD
              go_upto_region 25 with fail
              go_region_held3 (fun W => W.cell? ⟨bh, 0, none⟩ = some (.int .i64 h.mode) ∧ W.cell? ⟨bh, 1, none⟩ = some (.int .i64 h.pages) ∧ W.cell? ⟨bh, 2, none⟩ = some (.int .i64 h.trunk) ∧ W.cell? ⟨bh, 3, none⟩ = some (.int .i64 h.spare) ∧ W.cell? ⟨bh, 4, none⟩ = some (.int .i64 h.root) ∧ W.cell? ⟨bh, 5, none⟩ = some (.int .u64 (h.change : Nat)) ∧ W.cell? ⟨q0, o2 + n, none⟩ = some (.int .i64 x))
                (first | with_reducible exact JA.out | with_reducible exact JB.out | with_reducible exact J3.out | with_reducible exact J4.out | with_reducible exact J5.out)
                (first
                  | go_at_call 20; (with_reducible refine HRA.out.mono ?_); rintro e w5 ⟨rfl, O5, R5, hd5, hkeep, -⟩; have FE := hid (re_A hd5 (hkeep g1 xh (G4.out.on (Below.refl w4.heap.size w4).drew) N4.out).1); have J3 := hid (hd5.seven HQ0.out HX0.out); have J4 := hid ((hd5.kept (new_on w5 zObj)).seven HQ0.out HX0.out); have J5 := hid ((hd5.kept (new_on w5 (hObj xh))).seven HQ0.out HX0.out); clear hd5 hkeep
                  | go_at_call 20; (with_reducible refine HRB.out.mono ?_); rintro e w5 ⟨rfl, O5, R5, hd5, hkeep, hgo⟩; have hz := hkeep w4.heap.size hd0 (show Hb w4.heap.size hd0 (w4.alloc zObj).drew from blk_new w4 zObj) HNB.out; have FE := hid (re_B hd5 (hkeep g1 xh (G4.out.on (new_drew w4 zObj)) N4.out).1 (hgo _ HOB.out) hz.2 hz.1 HLT.out.1 HLT.out.2); have J3 := hid (hd5.seven HQ0.out HX0.out); have J5 := hid (re_seven FE.out HQ0.out HX0.out); obtain ⟨x0, x1, x2, x3, x4, x5⟩ := hz.1.cells; obtain ⟨z0, z1, z2, z3, z4, z5⟩ := hz.1.free; have hxl := hz.1.lt; clear hd5 hkeep hgo hz)
              · generalize hgg : w5.heap.size = g2 at *
                generalize w5.alloc (.cells #[.int .i64 xh.mode, .int .i64 xh.pages, .int .i64 xh.trunk, .int .i64 xh.spare, .int .i64 xh.root, .int .u64 (xh.change : Nat)] tH) = w6 at *
                clear hgg J3 J4 J5
                obtain ⟨O5, R5, hd6⟩ := FE.out.duo
                have D6 := hid hd6
                have G6 := hid FE.out.one
                have G7 := hid FE.out.two
                clear hd6 FE HRA HRB JA JB HOB HNB HLT N4 G4 hlq
                obtain ⟨b0, b1, b2, b3, b4, b5⟩ := G6.out.cells
                obtain ⟨c0, c1, c2, c3, c4, c5⟩ := G7.out.cells
                have bl1 := G6.out.lt
                have cl1 := G7.out.lt
                by_cases he : xe = 0
                · as_aux_lemma =>
                  subst he
                  have D7 := hid (D6.out.put xh)
                  obtain ⟨a0, a1, a2, a3, a4, a5⟩ := D6.out.lab.hb.cells
                  obtain ⟨f0, f1, f2, f3, f4, f5⟩ := D6.out.lab.hb.free
                  have al := D6.out.lab.hb.lt
                  unfold put6 at D7
                  go_upto_region 30 with fail
                  clear a0 a1 a2 a3 a4 a5 f0 f1 f2 f3 f4 f5 al b0 b1 b2 b3 b4 b5 c0 c1 c2 c3 c4 c5 bl1 cl1 G6 G7 D6
                  generalize (((((w6.setCell ⟨bh, 0, none⟩ (.int .i64 xh.mode)).setCell ⟨bh, 1, none⟩ (.int .i64 xh.pages)).setCell ⟨bh, 2, none⟩ (.int .i64 xh.trunk)).setCell ⟨bh, 3, none⟩ (.int .i64 xh.spare)).setCell ⟨bh, 4, none⟩ (.int .i64 xh.root)).setCell ⟨bh, 5, none⟩ (.int .u64 (xh.change : Nat)) = w7 at *
                  generalize xh = hh at *
                  have hfw := D7.out.few
                  go_wp2_with fail
                  go_loopw [21] (fun i wr3 => ∃ k : Nat, k ≤ XB.length ∧ i = .int .i64 k ∧ Hid (Below w7.heap.size w7 wr3)) (fun i _ => XB.length - (intOf i).toNat)
                  case atStart => exact ⟨0, Nat.zero_le _, rfl, hid (Below.refl _ _)⟩
                  case round =>
                    obtain ⟨k, hk, rfl, HB⟩ := hrel
                    have D8 := hid (D7.out.kept HB.out)
                    obtain ⟨ao5, cap5, ao6, cap6, u0, u1, ul, hrow⟩ := D8.out.rows
                    by_cases hlk : k < XB.length
                    · have hlk2 : (k : Int) < (XB.length : Int) := by omega
                      obtain ⟨gg, gg2, rfl, rfl, gl1, gl2, e1, e2⟩ := hrow k hlk
                      have HG := hid (dget (D8.out.kept (Below.refl wr.heap.size wr).drew) (by omega) XB[k].1)
                      rw [Sp.get_at XB k hlk HKN.out] at HG
                      have dd := D8.out.desk
                      obtain ⟨dd1, dd2⟩ := dd
                      generalize XB[k].1 = ky at *
                      generalize bs XB[k].2 = dt at *
                      clear hrow
                      go_upto_region 33 with fail
                      have J0 := hid (And.intro (show wr.drew.cell? ⟨d, 0, none⟩ = _ from dd1) (And.intro (show wr.drew.cell? ⟨u, 0, none⟩ = _ from u0) (And.intro (show wr.drew.cell? ⟨u, 1, none⟩ = _ from u1) (And.intro (show wr.drew.cell? ⟨gg, k, none⟩ = _ from e1) (show wr.drew.cell? ⟨gg2, k, none⟩ = _ from e2)))))
                      have H5 := hid (five_on (w := wr) dd1 u0 u1 e1 e2 dd2 ul gl1 gl2)
                      go_region_held3 (fun W => W.cell? ⟨d, 0, none⟩ = some (ptr b) ∧ W.cell? ⟨u, 0, none⟩ = some (.slice (some ⟨gg, 0, none⟩) XB.length cap5) ∧ W.cell? ⟨u, 1, none⟩ = some (.slice (some ⟨gg2, 0, none⟩) XB.length cap6) ∧ W.cell? ⟨gg, k, none⟩ = some (.int .i64 ky) ∧ W.cell? ⟨gg2, k, none⟩ = some (.string dt))
                        (first | with_reducible exact J0.out | with_reducible exact J1.out)
                        (first
                          | go_at_call 21; refine HG.out.mono ?_; rintro e w8 ⟨rfl, hb8⟩; have hb9 := drew_off hb8; have J1 := hid (H5.out w8 hb9); have HB2 := hid (HB.out.trans (hb9.mono HB.out.size)); clear hb8 hb9)
                      go_wp2
                      go_roundw
                      case rel => exact ⟨k + 1, by omega, by go_num, HB2⟩
                      case measure => simp [intOf]; omega
                    · have hlk2 : ¬ (k : Int) < (XB.length : Int) := by omega
                      obtain ⟨a0, a1, a2, a3, a4, a5⟩ := D8.out.lab.hb.cells
                      have al := D8.out.lab.hb.lt
                      by_cases hft : Fit hh
                      · have hfb : fitB hh = true := decide_eq_true hft
                        have HFT := hid hft
                        clear hft
                        go_wp2_with fail
                        refine (HXF.out _).mono ?_
                        rintro e w9 ⟨rfl, hb9⟩
                        have D9 := hid (D8.out.kept hb9)
                        have e3m : 22 + 2 * n + 2 = 22 + 2 * (n + 1) := by omega
                        rw [e3m] at D9
                        clear hb9 e3m hlk
                        go_wp2
                        go_roundw
                        case rel => exact ⟨n + 1, O5, R5, hh, XB, l3, hlt1, hlt2, by go_num, D9, HKN, HFT⟩
                        case measure => simp [intOf]; omega
                      · have hfb : fitB hh = false := decide_eq_false hft
                        clear hft
                        go_wp2_with fail
                        refine (HXF.out _).mono ?_
                        rintro e w9 ⟨rfl, hb9⟩
                        have D9 := hid (D8.out.kept hb9)
                        clear hb9
                        go_wp2
                        go_ret
                        exact ⟨rfl, D9.out.lab.be⟩
                · as_aux_lemma =>
                  have he2 : (xe == 0) = false := by simpa using he
                  have D7 := D6
                  generalize w6 = w7 at *
                  clear HXF
                  have HXF := HHF
                  go_upto_region 30 with fail
                  clear b0 b1 b2 b3 b4 b5 c0 c1 c2 c3 c4 c5 bl1 cl1 G6 G7 D6 he
                  generalize h = hh at *
                  have hfw := D7.out.few
                  go_wp2_with fail
                  go_loopw [21] (fun i wr3 => ∃ k : Nat, k ≤ XB.length ∧ i = .int .i64 k ∧ Hid (Below w7.heap.size w7 wr3)) (fun i _ => XB.length - (intOf i).toNat)
                  case atStart => exact ⟨0, Nat.zero_le _, rfl, hid (Below.refl _ _)⟩
                  case round =>
                    obtain ⟨k, hk, rfl, HB⟩ := hrel
                    have D8 := hid (D7.out.kept HB.out)
                    obtain ⟨ao5, cap5, ao6, cap6, u0, u1, ul, hrow⟩ := D8.out.rows
                    by_cases hlk : k < XB.length
                    · have hlk2 : (k : Int) < (XB.length : Int) := by omega
                      obtain ⟨gg, gg2, rfl, rfl, gl1, gl2, e1, e2⟩ := hrow k hlk
                      have HG := hid (dget (D8.out.kept (Below.refl wr.heap.size wr).drew) (by omega) XB[k].1)
                      rw [Sp.get_at XB k hlk HKN.out] at HG
                      have dd := D8.out.desk
                      obtain ⟨dd1, dd2⟩ := dd
                      generalize XB[k].1 = ky at *
                      generalize bs XB[k].2 = dt at *
                      clear hrow
                      go_upto_region 33 with fail
                      have J0 := hid (And.intro (show wr.drew.cell? ⟨d, 0, none⟩ = _ from dd1) (And.intro (show wr.drew.cell? ⟨u, 0, none⟩ = _ from u0) (And.intro (show wr.drew.cell? ⟨u, 1, none⟩ = _ from u1) (And.intro (show wr.drew.cell? ⟨gg, k, none⟩ = _ from e1) (show wr.drew.cell? ⟨gg2, k, none⟩ = _ from e2)))))
                      have H5 := hid (five_on (w := wr) dd1 u0 u1 e1 e2 dd2 ul gl1 gl2)
                      go_region_held3 (fun W => W.cell? ⟨d, 0, none⟩ = some (ptr b) ∧ W.cell? ⟨u, 0, none⟩ = some (.slice (some ⟨gg, 0, none⟩) XB.length cap5) ∧ W.cell? ⟨u, 1, none⟩ = some (.slice (some ⟨gg2, 0, none⟩) XB.length cap6) ∧ W.cell? ⟨gg, k, none⟩ = some (.int .i64 ky) ∧ W.cell? ⟨gg2, k, none⟩ = some (.string dt))
                        (first | with_reducible exact J0.out | with_reducible exact J1.out)
                        (first
                          | go_at_call 21; refine HG.out.mono ?_; rintro e w8 ⟨rfl, hb8⟩; have hb9 := drew_off hb8; have J1 := hid (H5.out w8 hb9); have HB2 := hid (HB.out.trans (hb9.mono HB.out.size)); clear hb8 hb9)
                      go_wp2
                      go_roundw
                      case rel => exact ⟨k + 1, by omega, by go_num, HB2⟩
                      case measure => simp [intOf]; omega
                    · have hlk2 : ¬ (k : Int) < (XB.length : Int) := by omega
                      obtain ⟨a0, a1, a2, a3, a4, a5⟩ := D8.out.lab.hb.cells
                      have al := D8.out.lab.hb.lt
                      by_cases hft : Fit hh
                      · have hfb : fitB hh = true := decide_eq_true hft
                        have HFT := hid hft
                        clear hft
                        go_wp2_with fail
                        refine (HXF.out _).mono ?_
                        rintro e w9 ⟨rfl, hb9⟩
                        have D9 := hid (D8.out.kept hb9)
                        have e3m : 22 + 2 * n + 2 = 22 + 2 * (n + 1) := by omega
                        rw [e3m] at D9
                        clear hb9 e3m hlk
                        go_wp2
                        go_roundw
                        case rel => exact ⟨n + 1, O5, R5, hh, XB, l3, hlt1, hlt2, by go_num, D9, HKN, HFT⟩
                        case measure => simp [intOf]; omega
                      · have hfb : fitB hh = false := decide_eq_false hft
                        clear hft
                        go_wp2_with fail
                        refine (HXF.out _).mono ?_
                        rintro e w9 ⟨rfl, hb9⟩
                        have D9 := hid (D8.out.kept hb9)
                        clear hb9
                        go_wp2
                        go_ret
                        exact ⟨rfl, D9.out.lab.be⟩
              · unfold put6 at FE J5
                generalize hgg : w4.heap.size = g2 at *
                clear x0 x1 x2 x3 x4 x5 z0 z1 z2 z3 z4 z5 hxl
                generalize (((((w5.setCell ⟨g2, 0, none⟩ (.int .i64 xh.mode)).setCell ⟨g2, 1, none⟩ (.int .i64 xh.pages)).setCell ⟨g2, 2, none⟩ (.int .i64 xh.trunk)).setCell ⟨g2, 3, none⟩ (.int .i64 xh.spare)).setCell ⟨g2, 4, none⟩ (.int .i64 xh.root)).setCell ⟨g2, 5, none⟩ (.int .u64 (xh.change : Nat)) = w6 at *
                clear hgg J3 J5
                obtain ⟨O5, R5, hd6⟩ := FE.out.duo
                have D6 := hid hd6
                have G6 := hid FE.out.one
                have G7 := hid FE.out.two
                clear hd6 FE HRA HRB JA JB HOB HNB HLT N4 G4 hlq
                obtain ⟨b0, b1, b2, b3, b4, b5⟩ := G6.out.cells
                obtain ⟨c0, c1, c2, c3, c4, c5⟩ := G7.out.cells
                have bl1 := G6.out.lt
                have cl1 := G7.out.lt
                by_cases he : xe = 0
                · as_aux_lemma =>
                  subst he
                  have D7 := hid (D6.out.put xh)
                  obtain ⟨a0, a1, a2, a3, a4, a5⟩ := D6.out.lab.hb.cells
                  obtain ⟨f0, f1, f2, f3, f4, f5⟩ := D6.out.lab.hb.free
                  have al := D6.out.lab.hb.lt
                  unfold put6 at D7
                  go_upto_region 30 with fail
                  clear a0 a1 a2 a3 a4 a5 f0 f1 f2 f3 f4 f5 al b0 b1 b2 b3 b4 b5 c0 c1 c2 c3 c4 c5 bl1 cl1 G6 G7 D6
                  generalize (((((w6.setCell ⟨bh, 0, none⟩ (.int .i64 xh.mode)).setCell ⟨bh, 1, none⟩ (.int .i64 xh.pages)).setCell ⟨bh, 2, none⟩ (.int .i64 xh.trunk)).setCell ⟨bh, 3, none⟩ (.int .i64 xh.spare)).setCell ⟨bh, 4, none⟩ (.int .i64 xh.root)).setCell ⟨bh, 5, none⟩ (.int .u64 (xh.change : Nat)) = w7 at *
                  generalize xh = hh at *
                  have hfw := D7.out.few
                  go_wp2_with fail
                  go_loopw [21] (fun i wr3 => ∃ k : Nat, k ≤ XB.length ∧ i = .int .i64 k ∧ Hid (Below w7.heap.size w7 wr3)) (fun i _ => XB.length - (intOf i).toNat)
                  case atStart => exact ⟨0, Nat.zero_le _, rfl, hid (Below.refl _ _)⟩
                  case round =>
                    obtain ⟨k, hk, rfl, HB⟩ := hrel
                    have D8 := hid (D7.out.kept HB.out)
                    obtain ⟨ao5, cap5, ao6, cap6, u0, u1, ul, hrow⟩ := D8.out.rows
                    by_cases hlk : k < XB.length
                    · have hlk2 : (k : Int) < (XB.length : Int) := by omega
                      obtain ⟨gg, gg2, rfl, rfl, gl1, gl2, e1, e2⟩ := hrow k hlk
                      have HG := hid (dget (D8.out.kept (Below.refl wr.heap.size wr).drew) (by omega) XB[k].1)
                      rw [Sp.get_at XB k hlk HKN.out] at HG
                      have dd := D8.out.desk
                      obtain ⟨dd1, dd2⟩ := dd
                      generalize XB[k].1 = ky at *
                      generalize bs XB[k].2 = dt at *
                      clear hrow
                      go_upto_region 33 with fail
                      have J0 := hid (And.intro (show wr.drew.cell? ⟨d, 0, none⟩ = _ from dd1) (And.intro (show wr.drew.cell? ⟨u, 0, none⟩ = _ from u0) (And.intro (show wr.drew.cell? ⟨u, 1, none⟩ = _ from u1) (And.intro (show wr.drew.cell? ⟨gg, k, none⟩ = _ from e1) (show wr.drew.cell? ⟨gg2, k, none⟩ = _ from e2)))))
                      have H5 := hid (five_on (w := wr) dd1 u0 u1 e1 e2 dd2 ul gl1 gl2)
                      go_region_held3 (fun W => W.cell? ⟨d, 0, none⟩ = some (ptr b) ∧ W.cell? ⟨u, 0, none⟩ = some (.slice (some ⟨gg, 0, none⟩) XB.length cap5) ∧ W.cell? ⟨u, 1, none⟩ = some (.slice (some ⟨gg2, 0, none⟩) XB.length cap6) ∧ W.cell? ⟨gg, k, none⟩ = some (.int .i64 ky) ∧ W.cell? ⟨gg2, k, none⟩ = some (.string dt))
                        (first | with_reducible exact J0.out | with_reducible exact J1.out)
                        (first
                          | go_at_call 21; refine HG.out.mono ?_; rintro e w8 ⟨rfl, hb8⟩; have hb9 := drew_off hb8; have J1 := hid (H5.out w8 hb9); have HB2 := hid (HB.out.trans (hb9.mono HB.out.size)); clear hb8 hb9)
                      go_wp2
                      go_roundw
                      case rel => exact ⟨k + 1, by omega, by go_num, HB2⟩
                      case measure => simp [intOf]; omega
                    · have hlk2 : ¬ (k : Int) < (XB.length : Int) := by omega
                      obtain ⟨a0, a1, a2, a3, a4, a5⟩ := D8.out.lab.hb.cells
                      have al := D8.out.lab.hb.lt
                      by_cases hft : Fit hh
                      · have hfb : fitB hh = true := decide_eq_true hft
                        have HFT := hid hft
                        clear hft
                        go_wp2_with fail
                        refine (HXF.out _).mono ?_
                        rintro e w9 ⟨rfl, hb9⟩
                        have D9 := hid (D8.out.kept hb9)
                        have e3m : 22 + 2 * n + 2 = 22 + 2 * (n + 1) := by omega
                        rw [e3m] at D9
                        clear hb9 e3m hlk
                        go_wp2
                        go_roundw
                        case rel => exact ⟨n + 1, O5, R5, hh, XB, l3, hlt1, hlt2, by go_num, D9, HKN, HFT⟩
                        case measure => simp [intOf]; omega
                      · have hfb : fitB hh = false := decide_eq_false hft
                        clear hft
                        go_wp2_with fail
                        refine (HXF.out _).mono ?_
                        rintro e w9 ⟨rfl, hb9⟩
                        have D9 := hid (D8.out.kept hb9)
                        clear hb9
                        go_wp2
                        go_ret
                        exact ⟨rfl, D9.out.lab.be⟩
                · as_aux_lemma =>
                  have he2 : (xe == 0) = false := by simpa using he
                  have D7 := D6
                  generalize w6 = w7 at *
                  clear HXF
                  have HXF := HHF
                  go_upto_region 30 with fail
                  clear b0 b1 b2 b3 b4 b5 c0 c1 c2 c3 c4 c5 bl1 cl1 G6 G7 D6 he
                  generalize h = hh at *
                  have hfw := D7.out.few
                  go_wp2_with fail
                  go_loopw [21] (fun i wr3 => ∃ k : Nat, k ≤ XB.length ∧ i = .int .i64 k ∧ Hid (Below w7.heap.size w7 wr3)) (fun i _ => XB.length - (intOf i).toNat)
                  case atStart => exact ⟨0, Nat.zero_le _, rfl, hid (Below.refl _ _)⟩
                  case round =>
                    obtain ⟨k, hk, rfl, HB⟩ := hrel
                    have D8 := hid (D7.out.kept HB.out)
                    obtain ⟨ao5, cap5, ao6, cap6, u0, u1, ul, hrow⟩ := D8.out.rows
                    by_cases hlk : k < XB.length
                    · have hlk2 : (k : Int) < (XB.length : Int) := by omega
                      obtain ⟨gg, gg2, rfl, rfl, gl1, gl2, e1, e2⟩ := hrow k hlk
                      have HG := hid (dget (D8.out.kept (Below.refl wr.heap.size wr).drew) (by omega) XB[k].1)
                      rw [Sp.get_at XB k hlk HKN.out] at HG
                      have dd := D8.out.desk
                      obtain ⟨dd1, dd2⟩ := dd
                      generalize XB[k].1 = ky at *
                      generalize bs XB[k].2 = dt at *
                      clear hrow
                      go_upto_region 33 with fail
                      have J0 := hid (And.intro (show wr.drew.cell? ⟨d, 0, none⟩ = _ from dd1) (And.intro (show wr.drew.cell? ⟨u, 0, none⟩ = _ from u0) (And.intro (show wr.drew.cell? ⟨u, 1, none⟩ = _ from u1) (And.intro (show wr.drew.cell? ⟨gg, k, none⟩ = _ from e1) (show wr.drew.cell? ⟨gg2, k, none⟩ = _ from e2)))))
                      have H5 := hid (five_on (w := wr) dd1 u0 u1 e1 e2 dd2 ul gl1 gl2)
                      go_region_held3 (fun W => W.cell? ⟨d, 0, none⟩ = some (ptr b) ∧ W.cell? ⟨u, 0, none⟩ = some (.slice (some ⟨gg, 0, none⟩) XB.length cap5) ∧ W.cell? ⟨u, 1, none⟩ = some (.slice (some ⟨gg2, 0, none⟩) XB.length cap6) ∧ W.cell? ⟨gg, k, none⟩ = some (.int .i64 ky) ∧ W.cell? ⟨gg2, k, none⟩ = some (.string dt))
                        (first | with_reducible exact J0.out | with_reducible exact J1.out)
                        (first
                          | go_at_call 21; refine HG.out.mono ?_; rintro e w8 ⟨rfl, hb8⟩; have hb9 := drew_off hb8; have J1 := hid (H5.out w8 hb9); have HB2 := hid (HB.out.trans (hb9.mono HB.out.size)); clear hb8 hb9)
                      go_wp2
                      go_roundw
                      case rel => exact ⟨k + 1, by omega, by go_num, HB2⟩
                      case measure => simp [intOf]; omega
                    · have hlk2 : ¬ (k : Int) < (XB.length : Int) := by omega
                      obtain ⟨a0, a1, a2, a3, a4, a5⟩ := D8.out.lab.hb.cells
                      have al := D8.out.lab.hb.lt
                      by_cases hft : Fit hh
                      · have hfb : fitB hh = true := decide_eq_true hft
                        have HFT := hid hft
                        clear hft
                        go_wp2_with fail
                        refine (HXF.out _).mono ?_
                        rintro e w9 ⟨rfl, hb9⟩
                        have D9 := hid (D8.out.kept hb9)
                        have e3m : 22 + 2 * n + 2 = 22 + 2 * (n + 1) := by omega
                        rw [e3m] at D9
                        clear hb9 e3m hlk
                        go_wp2
                        go_roundw
                        case rel => exact ⟨n + 1, O5, R5, hh, XB, l3, hlt1, hlt2, by go_num, D9, HKN, HFT⟩
                        case measure => simp [intOf]; omega
                      · have hfb : fitB hh = false := decide_eq_false hft
                        clear hft
                        go_wp2_with fail
                        refine (HXF.out _).mono ?_
                        rintro e w9 ⟨rfl, hb9⟩
                        have D9 := hid (D8.out.kept hb9)
                        clear hb9
                        go_wp2
                        go_ret
                        exact ⟨rfl, D9.out.lab.be⟩
            · unfold put6 at FG J5
              generalize hgg : wr.heap.size = g1 at *
              clear x0 x1 x2 x3 x4 x5 z0 z1 z2 z3 z4 z5 hxl
              generalize (((((w3.setCell ⟨g1, 0, none⟩ (.int .i64 xh.mode)).setCell ⟨g1, 1, none⟩ (.int .i64 xh.pages)).setCell ⟨g1, 2, none⟩ (.int .i64 xh.trunk)).setCell ⟨g1, 3, none⟩ (.int .i64 xh.spare)).setCell ⟨g1, 4, none⟩ (.int .i64 xh.root)).setCell ⟨g1, 5, none⟩ (.int .u64 (xh.change : Nat)) = w4 at *
              clear hgg J3 J5
              clear HGA HGB JA JB HOB HRB hx0 hlq HLT
              obtain ⟨O4, hd4⟩ := FG.out.duo
              have G4 := hid FG.out.box
              have N4 := hid FG.out.nr
              have HLT := hid (And.intro (show bh < w4.heap.size from hd4.lab.hb.lt) G4.out.lt)
              have HRA := hid (HGT.out _ O4 l3 (hd4.kept (Below.refl w4.heap.size w4).drew))
              obtain ⟨OB, hDB, hOB, hRB⟩ := hd4.boxed zObj
              have HRB := hid (HGT.out _ OB l3 hDB)
              have HOB := hid hOB
              have HNB := hid hRB
              have JA := hid ((hd4.kept (Below.refl w4.heap.size w4).drew).seven HQ0.out HX0.out)
              have JB := hid (hDB.seven HQ0.out HX0.out)
              have hlq : q0 < w4.heap.size := Nat.lt_of_lt_of_le HQ0.out hd4.lab.size
              clear hd4 hDB hOB hRB HGT FG HD
              go_upto_region 25 with fail
              go_region_held3 (fun W => W.cell? ⟨bh, 0, none⟩ = some (.int .i64 h.mode) ∧ W.cell? ⟨bh, 1, none⟩ = some (.int .i64 h.pages) ∧ W.cell? ⟨bh, 2, none⟩ = some (.int .i64 h.trunk) ∧ W.cell? ⟨bh, 3, none⟩ = some (.int .i64 h.spare) ∧ W.cell? ⟨bh, 4, none⟩ = some (.int .i64 h.root) ∧ W.cell? ⟨bh, 5, none⟩ = some (.int .u64 (h.change : Nat)) ∧ W.cell? ⟨q0, o2 + n, none⟩ = some (.int .i64 x))
                (first | with_reducible exact JA.out | with_reducible exact JB.out | with_reducible exact J3.out | with_reducible exact J4.out | with_reducible exact J5.out)
                (first
                  | go_at_call 20; (with_reducible refine HRA.out.mono ?_); rintro e w5 ⟨rfl, O5, R5, hd5, hkeep, -⟩; have FE := hid (re_A hd5 (hkeep g1 xh (G4.out.on (Below.refl w4.heap.size w4).drew) N4.out).1); have J3 := hid (hd5.seven HQ0.out HX0.out); have J4 := hid ((hd5.kept (new_on w5 zObj)).seven HQ0.out HX0.out); have J5 := hid ((hd5.kept (new_on w5 (hObj xh))).seven HQ0.out HX0.out); clear hd5 hkeep
                  | go_at_call 20; (with_reducible refine HRB.out.mono ?_); rintro e w5 ⟨rfl, O5, R5, hd5, hkeep, hgo⟩; have hz := hkeep w4.heap.size hd0 (show Hb w4.heap.size hd0 (w4.alloc zObj).drew from blk_new w4 zObj) HNB.out; have FE := hid (re_B hd5 (hkeep g1 xh (G4.out.on (new_drew w4 zObj)) N4.out).1 (hgo _ HOB.out) hz.2 hz.1 HLT.out.1 HLT.out.2); have J3 := hid (hd5.seven HQ0.out HX0.out); have J5 := hid (re_seven FE.out HQ0.out HX0.out); obtain ⟨x0, x1, x2, x3, x4, x5⟩ := hz.1.cells; obtain ⟨z0, z1, z2, z3, z4, z5⟩ := hz.1.free; have hxl := hz.1.lt; clear hd5 hkeep hgo hz)
              · generalize hgg : w5.heap.size = g2 at *
                generalize w5.alloc (.cells #[.int .i64 xh.mode, .int .i64 xh.pages, .int .i64 xh.trunk, .int .i64 xh.spare, .int .i64 xh.root, .int .u64 (xh.change : Nat)] tH) = w6 at *
                clear hgg J3 J4 J5
                obtain ⟨O5, R5, hd6⟩ := FE.out.duo
                have D6 := hid hd6
                have G6 := hid FE.out.one
                have G7 := hid FE.out.two
                clear hd6 FE HRA HRB JA JB HOB HNB HLT N4 G4 hlq
                obtain ⟨b0, b1, b2, b3, b4, b5⟩ := G6.out.cells
                obtain ⟨c0, c1, c2, c3, c4, c5⟩ := G7.out.cells
                have bl1 := G6.out.lt
                have cl1 := G7.out.lt
                by_cases he : xe = 0
                · as_aux_lemma =>
                  subst he
                  have D7 := hid (D6.out.put xh)
                  obtain ⟨a0, a1, a2, a3, a4, a5⟩ := D6.out.lab.hb.cells
                  obtain ⟨f0, f1, f2, f3, f4, f5⟩ := D6.out.lab.hb.free
                  have al := D6.out.lab.hb.lt
                  unfold put6 at D7
                  go_upto_region 30 with fail
                  clear a0 a1 a2 a3 a4 a5 f0 f1 f2 f3 f4 f5 al b0 b1 b2 b3 b4 b5 c0 c1 c2 c3 c4 c5 bl1 cl1 G6 G7 D6
                  generalize (((((w6.setCell ⟨bh, 0, none⟩ (.int .i64 xh.mode)).setCell ⟨bh, 1, none⟩ (.int .i64 xh.pages)).setCell ⟨bh, 2, none⟩ (.int .i64 xh.trunk)).setCell ⟨bh, 3, none⟩ (.int .i64 xh.spare)).setCell ⟨bh, 4, none⟩ (.int .i64 xh.root)).setCell ⟨bh, 5, none⟩ (.int .u64 (xh.change : Nat)) = w7 at *
                  generalize xh = hh at *
                  have hfw := D7.out.few
                  go_wp2_with fail
                  go_loopw [21] (fun i wr3 => ∃ k : Nat, k ≤ XB.length ∧ i = .int .i64 k ∧ Hid (Below w7.heap.size w7 wr3)) (fun i _ => XB.length - (intOf i).toNat)
                  case atStart => exact ⟨0, Nat.zero_le _, rfl, hid (Below.refl _ _)⟩
                  case round =>
                    obtain ⟨k, hk, rfl, HB⟩ := hrel
                    have D8 := hid (D7.out.kept HB.out)
                    obtain ⟨ao5, cap5, ao6, cap6, u0, u1, ul, hrow⟩ := D8.out.rows
                    by_cases hlk : k < XB.length
                    · have hlk2 : (k : Int) < (XB.length : Int) := by omega
                      obtain ⟨gg, gg2, rfl, rfl, gl1, gl2, e1, e2⟩ := hrow k hlk
                      have HG := hid (dget (D8.out.kept (Below.refl wr.heap.size wr).drew) (by omega) XB[k].1)
                      rw [Sp.get_at XB k hlk HKN.out] at HG
                      have dd := D8.out.desk
                      obtain ⟨dd1, dd2⟩ := dd
                      generalize XB[k].1 = ky at *
                      generalize bs XB[k].2 = dt at *
                      clear hrow
                      go_upto_region 33 with fail
                      have J0 := hid (And.intro (show wr.drew.cell? ⟨d, 0, none⟩ = _ from dd1) (And.intro (show wr.drew.cell? ⟨u, 0, none⟩ = _ from u0) (And.intro (show wr.drew.cell? ⟨u, 1, none⟩ = _ from u1) (And.intro (show wr.drew.cell? ⟨gg, k, none⟩ = _ from e1) (show wr.drew.cell? ⟨gg2, k, none⟩ = _ from e2)))))
                      have H5 := hid (five_on (w := wr) dd1 u0 u1 e1 e2 dd2 ul gl1 gl2)
                      go_region_held3 (fun W => W.cell? ⟨d, 0, none⟩ = some (ptr b) ∧ W.cell? ⟨u, 0, none⟩ = some (.slice (some ⟨gg, 0, none⟩) XB.length cap5) ∧ W.cell? ⟨u, 1, none⟩ = some (.slice (some ⟨gg2, 0, none⟩) XB.length cap6) ∧ W.cell? ⟨gg, k, none⟩ = some (.int .i64 ky) ∧ W.cell? ⟨gg2, k, none⟩ = some (.string dt))
                        (first | with_reducible exact J0.out | with_reducible exact J1.out)
                        (first
                          | go_at_call 21; refine HG.out.mono ?_; rintro e w8 ⟨rfl, hb8⟩; have hb9 := drew_off hb8; have J1 := hid (H5.out w8 hb9); have HB2 := hid (HB.out.trans (hb9.mono HB.out.size)); clear hb8 hb9)
                      go_wp2
                      go_roundw
                      case rel => exact ⟨k + 1, by omega, by go_num, HB2⟩
                      case measure => simp [intOf]; omega
                    · have hlk2 : ¬ (k : Int) < (XB.length : Int) := by omega
                      obtain ⟨a0, a1, a2, a3, a4, a5⟩ := D8.out.lab.hb.cells
                      have al := D8.out.lab.hb.lt
                      by_cases hft : Fit hh
                      · have hfb : fitB hh = true := decide_eq_true hft
                        have HFT := hid hft
                        clear hft
                        go_wp2_with fail
                        refine (HXF.out _).mono ?_
                        rintro e w9 ⟨rfl, hb9⟩
                        have D9 := hid (D8.out.kept hb9)
                        have e3m : 22 + 2 * n + 2 = 22 + 2 * (n + 1) := by omega
                        rw [e3m] at D9
                        clear hb9 e3m hlk
                        go_wp2
                        go_roundw
                        case rel => exact ⟨n + 1, O5, R5, hh, XB, l3, hlt1, hlt2, by go_num, D9, HKN, HFT⟩
                        case measure => simp [intOf]; omega
                      · have hfb : fitB hh = false := decide_eq_false hft
                        clear hft
                        go_wp2_with fail
                        refine (HXF.out _).mono ?_
                        rintro e w9 ⟨rfl, hb9⟩
                        have D9 := hid (D8.out.kept hb9)
                        clear hb9
                        go_wp2
                        go_ret
                        exact ⟨rfl, D9.out.lab.be⟩
                · as_aux_lemma =>
                  have he2 : (xe == 0) = false := by simpa using he
                  have D7 := D6
                  generalize w6 = w7 at *
                  clear HXF
                  have HXF := HHF
                  go_upto_region 30 with fail
                  clear b0 b1 b2 b3 b4 b5 c0 c1 c2 c3 c4 c5 bl1 cl1 G6 G7 D6 he
                  generalize h = hh at *
                  have hfw := D7.out.few
                  go_wp2_with fail
                  go_loopw [21] (fun i wr3 => ∃ k : Nat, k ≤ XB.length ∧ i = .int .i64 k ∧ Hid (Below w7.heap.size w7 wr3)) (fun i _ => XB.length - (intOf i).toNat)
                  case atStart => exact ⟨0, Nat.zero_le _, rfl, hid (Below.refl _ _)⟩
                  case round =>
                    obtain ⟨k, hk, rfl, HB⟩ := hrel
                    have D8 := hid (D7.out.kept HB.out)
                    obtain ⟨ao5, cap5, ao6, cap6, u0, u1, ul, hrow⟩ := D8.out.rows
                    by_cases hlk : k < XB.length
                    · have hlk2 : (k : Int) < (XB.length : Int) := by omega
                      obtain ⟨gg, gg2, rfl, rfl, gl1, gl2, e1, e2⟩ := hrow k hlk
                      have HG := hid (dget (D8.out.kept (Below.refl wr.heap.size wr).drew) (by omega) XB[k].1)
                      rw [Sp.get_at XB k hlk HKN.out] at HG
                      have dd := D8.out.desk
                      obtain ⟨dd1, dd2⟩ := dd
                      generalize XB[k].1 = ky at *
                      generalize bs XB[k].2 = dt at *
                      clear hrow
                      go_upto_region 33 with fail
                      have J0 := hid (And.intro (show wr.drew.cell? ⟨d, 0, none⟩ = _ from dd1) (And.intro (show wr.drew.cell? ⟨u, 0, none⟩ = _ from u0) (And.intro (show wr.drew.cell? ⟨u, 1, none⟩ = _ from u1) (And.intro (show wr.drew.cell? ⟨gg, k, none⟩ = _ from e1) (show wr.drew.cell? ⟨gg2, k, none⟩ = _ from e2)))))
                      have H5 := hid (five_on (w := wr) dd1 u0 u1 e1 e2 dd2 ul gl1 gl2)
                      go_region_held3 (fun W => W.cell? ⟨d, 0, none⟩ = some (ptr b) ∧ W.cell? ⟨u, 0, none⟩ = some (.slice (some ⟨gg, 0, none⟩) XB.length cap5) ∧ W.cell? ⟨u, 1, none⟩ = some (.slice (some ⟨gg2, 0, none⟩) XB.length cap6) ∧ W.cell? ⟨gg, k, none⟩ = some (.int .i64 ky) ∧ W.cell? ⟨gg2, k, none⟩ = some (.string dt))
                        (first | with_reducible exact J0.out | with_reducible exact J1.out)
                        (first
                          | go_at_call 21; refine HG.out.mono ?_; rintro e w8 ⟨rfl, hb8⟩; have hb9 := drew_off hb8; have J1 := hid (H5.out w8 hb9); have HB2 := hid (HB.out.trans (hb9.mono HB.out.size)); clear hb8 hb9)
                      go_wp2
                      go_roundw
                      case rel => exact ⟨k + 1, by omega, by go_num, HB2⟩
                      case measure => simp [intOf]; omega
                    · have hlk2 : ¬ (k : Int) < (XB.length : Int) := by omega
                      obtain ⟨a0, a1, a2, a3, a4, a5⟩ := D8.out.lab.hb.cells
                      have al := D8.out.lab.hb.lt
                      by_cases hft : Fit hh
                      · have hfb : fitB hh = true := decide_eq_true hft
                        have HFT := hid hft
                        clear hft
                        go_wp2_with fail
                        refine (HXF.out _).mono ?_
                        rintro e w9 ⟨rfl, hb9⟩
                        have D9 := hid (D8.out.kept hb9)
                        have e3m : 22 + 2 * n + 2 = 22 + 2 * (n + 1) := by omega
                        rw [e3m] at D9
                        clear hb9 e3m hlk
                        go_wp2
                        go_roundw
                        case rel => exact ⟨n + 1, O5, R5, hh, XB, l3, hlt1, hlt2, by go_num, D9, HKN, HFT⟩
                        case measure => simp [intOf]; omega
                      · have hfb : fitB hh = false := decide_eq_false hft
                        clear hft
                        go_wp2_with fail
                        refine (HXF.out _).mono ?_
                        rintro e w9 ⟨rfl, hb9⟩
                        have D9 := hid (D8.out.kept hb9)
                        clear hb9
                        go_wp2
                        go_ret
                        exact ⟨rfl, D9.out.lab.be⟩
              · unfold put6 at FE J5
                generalize hgg : w4.heap.size = g2 at *
                clear x0 x1 x2 x3 x4 x5 z0 z1 z2 z3 z4 z5 hxl
                generalize (((((w5.setCell ⟨g2, 0, none⟩ (.int .i64 xh.mode)).setCell ⟨g2, 1, none⟩ (.int .i64 xh.pages)).setCell ⟨g2, 2, none⟩ (.int .i64 xh.trunk)).setCell ⟨g2, 3, none⟩ (.int .i64 xh.spare)).setCell ⟨g2, 4, none⟩ (.int .i64 xh.root)).setCell ⟨g2, 5, none⟩ (.int .u64 (xh.change : Nat)) = w6 at *
                clear hgg J3 J5
                obtain ⟨O5, R5, hd6⟩ := FE.out.duo
                have D6 := hid hd6
                have G6 := hid FE.out.one
                have G7 := hid FE.out.two
                clear hd6 FE HRA HRB JA JB HOB HNB HLT N4 G4 hlq
                obtain ⟨b0, b1, b2, b3, b4, b5⟩ := G6.out.cells
                obtain ⟨c0, c1, c2, c3, c4, c5⟩ := G7.out.cells
                have bl1 := G6.out.lt
                have cl1 := G7.out.lt
                by_cases he : xe = 0
                · as_aux_lemma =>
                  subst he
                  have D7 := hid (D6.out.put xh)
                  obtain ⟨a0, a1, a2, a3, a4, a5⟩ := D6.out.lab.hb.cells
                  obtain ⟨f0, f1, f2, f3, f4, f5⟩ := D6.out.lab.hb.free
                  have al := D6.out.lab.hb.lt
                  unfold put6 at D7
                  go_upto_region 30 with fail
                  clear a0 a1 a2 a3 a4 a5 f0 f1 f2 f3 f4 f5 al b0 b1 b2 b3 b4 b5 c0 c1 c2 c3 c4 c5 bl1 cl1 G6 G7 D6
                  generalize (((((w6.setCell ⟨bh, 0, none⟩ (.int .i64 xh.mode)).setCell ⟨bh, 1, none⟩ (.int .i64 xh.pages)).setCell ⟨bh, 2, none⟩ (.int .i64 xh.trunk)).setCell ⟨bh, 3, none⟩ (.int .i64 xh.spare)).setCell ⟨bh, 4, none⟩ (.int .i64 xh.root)).setCell ⟨bh, 5, none⟩ (.int .u64 (xh.change : Nat)) = w7 at *
                  generalize xh = hh at *
                  have hfw := D7.out.few
                  go_wp2_with fail
                  go_loopw [21] (fun i wr3 => ∃ k : Nat, k ≤ XB.length ∧ i = .int .i64 k ∧ Hid (Below w7.heap.size w7 wr3)) (fun i _ => XB.length - (intOf i).toNat)
                  case atStart => exact ⟨0, Nat.zero_le _, rfl, hid (Below.refl _ _)⟩
                  case round =>
                    obtain ⟨k, hk, rfl, HB⟩ := hrel
                    have D8 := hid (D7.out.kept HB.out)
                    obtain ⟨ao5, cap5, ao6, cap6, u0, u1, ul, hrow⟩ := D8.out.rows
                    by_cases hlk : k < XB.length
                    · have hlk2 : (k : Int) < (XB.length : Int) := by omega
                      obtain ⟨gg, gg2, rfl, rfl, gl1, gl2, e1, e2⟩ := hrow k hlk
                      have HG := hid (dget (D8.out.kept (Below.refl wr.heap.size wr).drew) (by omega) XB[k].1)
                      rw [Sp.get_at XB k hlk HKN.out] at HG
                      have dd := D8.out.desk
                      obtain ⟨dd1, dd2⟩ := dd
                      generalize XB[k].1 = ky at *
                      generalize bs XB[k].2 = dt at *
                      clear hrow
                      go_upto_region 33 with fail
                      have J0 := hid (And.intro (show wr.drew.cell? ⟨d, 0, none⟩ = _ from dd1) (And.intro (show wr.drew.cell? ⟨u, 0, none⟩ = _ from u0) (And.intro (show wr.drew.cell? ⟨u, 1, none⟩ = _ from u1) (And.intro (show wr.drew.cell? ⟨gg, k, none⟩ = _ from e1) (show wr.drew.cell? ⟨gg2, k, none⟩ = _ from e2)))))
                      have H5 := hid (five_on (w := wr) dd1 u0 u1 e1 e2 dd2 ul gl1 gl2)
                      go_region_held3 (fun W => W.cell? ⟨d, 0, none⟩ = some (ptr b) ∧ W.cell? ⟨u, 0, none⟩ = some (.slice (some ⟨gg, 0, none⟩) XB.length cap5) ∧ W.cell? ⟨u, 1, none⟩ = some (.slice (some ⟨gg2, 0, none⟩) XB.length cap6) ∧ W.cell? ⟨gg, k, none⟩ = some (.int .i64 ky) ∧ W.cell? ⟨gg2, k, none⟩ = some (.string dt))
                        (first | with_reducible exact J0.out | with_reducible exact J1.out)
                        (first
                          | go_at_call 21; refine HG.out.mono ?_; rintro e w8 ⟨rfl, hb8⟩; have hb9 := drew_off hb8; have J1 := hid (H5.out w8 hb9); have HB2 := hid (HB.out.trans (hb9.mono HB.out.size)); clear hb8 hb9)
                      go_wp2
                      go_roundw
                      case rel => exact ⟨k + 1, by omega, by go_num, HB2⟩
                      case measure => simp [intOf]; omega
                    · have hlk2 : ¬ (k : Int) < (XB.length : Int) := by omega
                      obtain ⟨a0, a1, a2, a3, a4, a5⟩ := D8.out.lab.hb.cells
                      have al := D8.out.lab.hb.lt
                      by_cases hft : Fit hh
                      · have hfb : fitB hh = true := decide_eq_true hft
                        have HFT := hid hft
                        clear hft
                        go_wp2_with fail
                        refine (HXF.out _).mono ?_
                        rintro e w9 ⟨rfl, hb9⟩
                        have D9 := hid (D8.out.kept hb9)
                        have e3m : 22 + 2 * n + 2 = 22 + 2 * (n + 1) := by omega
                        rw [e3m] at D9
                        clear hb9 e3m hlk
                        go_wp2
                        go_roundw
                        case rel => exact ⟨n + 1, O5, R5, hh, XB, l3, hlt1, hlt2, by go_num, D9, HKN, HFT⟩
                        case measure => simp [intOf]; omega
                      · have hfb : fitB hh = false := decide_eq_false hft
                        clear hft
                        go_wp2_with fail
                        refine (HXF.out _).mono ?_
                        rintro e w9 ⟨rfl, hb9⟩
                        have D9 := hid (D8.out.kept hb9)
                        clear hb9
                        go_wp2
                        go_ret
                        exact ⟨rfl, D9.out.lab.be⟩
                · as_aux_lemma =>
                  have he2 : (xe == 0) = false := by simpa using he
                  have D7 := D6
                  generalize w6 = w7 at *
                  clear HXF
                  have HXF := HHF
                  go_upto_region 30 with fail
                  clear b0 b1 b2 b3 b4 b5 c0 c1 c2 c3 c4 c5 bl1 cl1 G6 G7 D6 he
                  generalize h = hh at *
                  have hfw := D7.out.few
                  go_wp2_with fail
                  go_loopw [21] (fun i wr3 => ∃ k : Nat, k ≤ XB.length ∧ i = .int .i64 k ∧ Hid (Below w7.heap.size w7 wr3)) (fun i _ => XB.length - (intOf i).toNat)
                  case atStart => exact ⟨0, Nat.zero_le _, rfl, hid (Below.refl _ _)⟩
                  case round =>
                    obtain ⟨k, hk, rfl, HB⟩ := hrel
                    have D8 := hid (D7.out.kept HB.out)
                    obtain ⟨ao5, cap5, ao6, cap6, u0, u1, ul, hrow⟩ := D8.out.rows
                    by_cases hlk : k < XB.length
                    · have hlk2 : (k : Int) < (XB.length : Int) := by omega
                      obtain ⟨gg, gg2, rfl, rfl, gl1, gl2, e1, e2⟩ := hrow k hlk
                      have HG := hid (dget (D8.out.kept (Below.refl wr.heap.size wr).drew) (by omega) XB[k].1)
                      rw [Sp.get_at XB k hlk HKN.out] at HG
                      have dd := D8.out.desk
                      obtain ⟨dd1, dd2⟩ := dd
                      generalize XB[k].1 = ky at *
                      generalize bs XB[k].2 = dt at *
                      clear hrow
                      go_upto_region 33 with fail
                      have J0 := hid (And.intro (show wr.drew.cell? ⟨d, 0, none⟩ = _ from dd1) (And.intro (show wr.drew.cell? ⟨u, 0, none⟩ = _ from u0) (And.intro (show wr.drew.cell? ⟨u, 1, none⟩ = _ from u1) (And.intro (show wr.drew.cell? ⟨gg, k, none⟩ = _ from e1) (show wr.drew.cell? ⟨gg2, k, none⟩ = _ from e2)))))
                      have H5 := hid (five_on (w := wr) dd1 u0 u1 e1 e2 dd2 ul gl1 gl2)
                      go_region_held3 (fun W => W.cell? ⟨d, 0, none⟩ = some (ptr b) ∧ W.cell? ⟨u, 0, none⟩ = some (.slice (some ⟨gg, 0, none⟩) XB.length cap5) ∧ W.cell? ⟨u, 1, none⟩ = some (.slice (some ⟨gg2, 0, none⟩) XB.length cap6) ∧ W.cell? ⟨gg, k, none⟩ = some (.int .i64 ky) ∧ W.cell? ⟨gg2, k, none⟩ = some (.string dt))
                        (first | with_reducible exact J0.out | with_reducible exact J1.out)
                        (first
                          | go_at_call 21; refine HG.out.mono ?_; rintro e w8 ⟨rfl, hb8⟩; have hb9 := drew_off hb8; have J1 := hid (H5.out w8 hb9); have HB2 := hid (HB.out.trans (hb9.mono HB.out.size)); clear hb8 hb9)
                      go_wp2
                      go_roundw
                      case rel => exact ⟨k + 1, by omega, by go_num, HB2⟩
                      case measure => simp [intOf]; omega
                    · have hlk2 : ¬ (k : Int) < (XB.length : Int) := by omega
                      obtain ⟨a0, a1, a2, a3, a4, a5⟩ := D8.out.lab.hb.cells
                      have al := D8.out.lab.hb.lt
                      by_cases hft : Fit hh
                      · have hfb : fitB hh = true := decide_eq_true hft
                        have HFT := hid hft
                        clear hft
                        go_wp2_with fail
                        refine (HXF.out _).mono ?_
                        rintro e w9 ⟨rfl, hb9⟩
                        have D9 := hid (D8.out.kept hb9)
                        have e3m : 22 + 2 * n + 2 = 22 + 2 * (n + 1) := by omega
                        rw [e3m] at D9
                        clear hb9 e3m hlk
                        go_wp2
                        go_roundw
                        case rel => exact ⟨n + 1, O5, R5, hh, XB, l3, hlt1, hlt2, by go_num, D9, HKN, HFT⟩
                        case measure => simp [intOf]; omega
                      · have hfb : fitB hh = false := decide_eq_false hft
                        clear hft
                        go_wp2_with fail
                        refine (HXF.out _).mono ?_
                        rintro e w9 ⟨rfl, hb9⟩
                        have D9 := hid (D8.out.kept hb9)
                        clear hb9
                        go_wp2
                        go_ret
                        exact ⟨rfl, D9.out.lab.be⟩
        · have hstop : ¬ ((n : Int) < (l2.length : Int)) ∨ (((n : Int) < (l2.length : Int)) ∧ ¬ ((n : Int) < 200)) := by
            by_cases h1' : n < l2.length
            · exact Or.inr ⟨by omega, fun h2' => hlt ⟨h1', by omega⟩⟩
            · exact Or.inl (by omega)
          clear hlt
          have hfew := HD.out.few
          obtain ⟨nv, dv, hA⟩ : ∃ nv dv, ∃ RR, BookAt RR wr b nv dv B := by
            obtain ⟨R, D, -, -⟩ := HD.out.lab.seen
            obtain ⟨nv, dv, hA⟩ := D.book
            exact ⟨nv, dv, _, hA⟩
          obtain ⟨RR, hA⟩ := hA
          obtain ⟨ao5, cap5, ao6, cap6, rfl, rfl, -, -⟩ := hA.shape
          have c0 := blk_cell hA.blk 0
          have bl0 := lt_of_block hA.blk
          obtain ⟨ao7, cap7, ao8, cap8, u0, -, ul, -⟩ := HD.out.rows
          have dd := HD.out.desk
          obtain ⟨dd1, dd2⟩ := dd
          have HB := hid HD.out.lab.be
          simp only [List.getElem?_toArray, List.getElem?_cons_zero] at c0
          clear hA
          rcases hstop with hs1 | ⟨hs1, hs2⟩
          all_goals
            go_upto_region 37 with fail
            have J0 := hid (And.intro (show wr.drew.cell? ⟨d, 0, none⟩ = _ from dd1) (And.intro (show wr.drew.cell? ⟨b, 0, none⟩ = _ from c0) (show wr.drew.cell? ⟨u, 0, none⟩ = _ from u0)))
            go_region_held3 (fun W => W.cell? ⟨d, 0, none⟩ = some (ptr b) ∧ W.cell? ⟨b, 0, none⟩ = some (.slice ao5 B.length cap5) ∧ W.cell? ⟨u, 0, none⟩ = some (.slice ao7 B.length cap7))
              (first | with_reducible exact J0.out)
              (fail)
            go_wp2
            go_ret
            exact ⟨rfl, HB.out.drew⟩
  · have hfb : fitB h0 = false := decide_eq_false hfit
    clear hfit
    go_wp2
    go_ret
    exact ⟨rfl, B3.out⟩
end spareExact
end Go.Proofs.Ytkoglikaaehhjaa
