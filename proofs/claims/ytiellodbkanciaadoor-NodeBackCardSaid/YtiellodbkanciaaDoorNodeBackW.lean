/-
  The walk of NodeBack.
-/
import Derived.Test.YtiellodbkanciaaDoorNodeAwake
import Derived.Test.YtiellodbkanciaaDoorNodeSame
import Derived.Test.YtiellodbkanciaaDoorNodeGst
namespace Go.Proofs.YtiellodbkanciaaDoor
open Go.RowKit
namespace No
open Num (hid)
theorem dec_yes (S : Bs) (m : N) (hS : S.length ≤ 281474976710656) (h : decR S = ⟨m, 0⟩) (w : World) : Calls Tryd.prog 9 #[.string (bs S)] w fun e w' => (∃ a1 c1 a2 c2 a3 c3, e = .returned (.tuple #[.agg #[.bool m.f, .slice a1 m.ks.length c1, .slice a2 m.cs.length c2, .slice a3 m.ps.length c3], .int .i64 0]) ∧ NAt w' (.slice a1 m.ks.length c1) (.slice a2 m.cs.length c2) (.slice a3 m.ps.length c3) m) ∧ Below w.heap.size w w' := by
  have hh := decode_any S hS w
  rw [h] at hh
  refine hh.mono ?_
  rintro e w' ⟨⟨ks, cs, ps, rfl, hn⟩, hb⟩
  obtain ⟨a1, c1, a2, c2, a3, c3, rfl, rfl, rfl⟩ := nat_slices hn
  exact ⟨⟨a1, c1, a2, c2, a3, c3, rfl, hn⟩, hb⟩
theorem dec_no (S : Bs) (e1 : Int) (hS : S.length ≤ 281474976710656) (h : decR S = ⟨noN, e1⟩) (w : World) : Calls Tryd.prog 9 #[.string (bs S)] w fun e w' => (∃ a1 c1 a2 c2 a3 c3, e = .returned (.tuple #[.agg #[.bool false, .slice a1 0 c1, .slice a2 0 c2, .slice a3 0 c3], .int .i64 e1])) ∧ Below w.heap.size w w' := by
  have hh := decode_any S hS w
  rw [h] at hh
  refine hh.mono ?_
  rintro e w' ⟨⟨ks, cs, ps, rfl, hn⟩, hb⟩
  obtain ⟨a1, c1, a2, c2, a3, c3, rfl, rfl, rfl⟩ := nat_slices hn
  exact ⟨⟨a1, c1, a2, c2, a3, c3, rfl⟩, hb⟩
theorem dec_ways (S : Bs) : (∃ m, decR S = ⟨m, 0⟩ ∧ okN m = true ∧ encR m = ⟨S, 0⟩ ∧ Fit m) ∨ (∃ e1, decR S = ⟨noN, e1⟩ ∧ (e1 != 0) = true) := by
  by_cases he : (decR S).e = 0
  · obtain ⟨h1, h2, h3, h4, -⟩ := decR_yes he
    refine Or.inl ⟨(decR S).n, ?_, h1, ?_, ?_⟩
    · have e : decR S = ⟨(decR S).n, (decR S).e⟩ := rfl
      rw [he] at e
      exact e
    · rw [encR_good h1 (by omega), h3]
    · refine ⟨by omega, ?_⟩
      obtain ⟨-, -, h6⟩ := okN_ways h1
      rcases h6 with ⟨-, -, h7, -⟩ | ⟨-, -, h7, -⟩
      · rw [h7]; exact Nat.zero_le _
      · omega
  · obtain ⟨h1, -⟩ := decR_no he
    refine Or.inr ⟨(decR S).e, ?_, by simpa using he⟩
    have e : decR S = ⟨(decR S).n, (decR S).e⟩ := rfl
    rw [h1] at e
    exact e
theorem bs_nil : bs [] = ⟨#[]⟩ := rfl
theorem size_ok {n : N} (h : okN n = true) : sizeN n = (encN n).length := by unfold sizeN; rw [if_pos h]
theorem size_no {n : N} (h : okN n = false) : sizeN n = 0 := by unfold sizeN; rw [h]; rfl
end No
namespace nodeBack
open No
open Num (hid)
set_option maxRecDepth 100000 in
set_option maxHeartbeats 16000000 in
theorem walk (n : N) (kv cv pv : Value) (a1 : ByteArray) (W : World) (na : NAt W kv cv pv n) (wd : Wide n) (z1 : a1.size ≤ 140737488351232) :
    Calls Tryd.prog 3 #[nV n.f kv cv pv, .string a1] W fun e W' => e = .returned (.bool true) ∧ Below W.heap.size W W' := by
  obtain ⟨S, rfl⟩ : ∃ S, a1 = bs S := ⟨bl a1, rfl⟩
  have hS : S.length ≤ 281474976710656 := by rw [bs_size] at z1; omega
  have HW := hid (dec_ways S)
  have HAW := hid awake_any
  have HGR := hid (fun w h => great_any kv cv pv n wd w h)
  have G0 := hid (Gst.new (f := n.f) na)
  have HE := hid (fun hl w h => encode_any kv cv pv n hl w h)
  have HSZ := hid (fun hl w h => size_any kv cv pv n hl w h)
  have HGD := hid (fun h1 h2 w h => good_any kv cv pv n h1 h2 w h)
  have HSM := hid (fun l1 l2 l3 k2 c2 p2 w h1 h2 => same_yes kv cv pv k2 c2 p2 n l1 l2 l3 w h1 h2)
  have HNF : Hid (∃ f, n.f = f) := hid ⟨_, rfl⟩
  clear na wd z1
  unfold nV at *
  go_enter Tryd.func3, Tryd.ntmps3
  go_wp2_with fail
  refine (HAW.out _).mono ?_
  rintro e w1 ⟨rfl, hb⟩
  have G1 := hid (G0.out.on hb)
  obtain ⟨c0, c1, c2, c3⟩ := G1.out.bx.cells
  clear hb G0
  go_wp2_with fail
  refine (HGR.out _ G1.out.na).mono ?_
  rintro e w2 ⟨⟨x, rfl, hx⟩, hb⟩
  have G2 := hid (G1.out.on hb)
  clear hb c0 c1 c2 c3 G1
  obtain ⟨c0, c1, c2, c3⟩ := G2.out.bx.cells
  cases x with
  | true =>
    clear c0 c1 c2 c3 hx
    have G9 := hid G2.out
    rcases HW.out with ⟨m, hd, hm, hem, hFm⟩ | ⟨e1, hd, he1⟩
    · have HD := hid (dec_yes S m hS hd)
      have HGM := hid (fun k c p w h => good_any k c p m (by have := hFm.p; omega) (by have := hFm.k; omega) w h)
      have HEM := hid (fun k c p w h => encode_any k c p m hFm w h)
      rw [hm] at HGM
      rw [hem, sV2] at HEM
      unfold nV at HGM HEM
      clear hd hm hem hFm
      go_wp2_with fail
      refine (HD.out _).mono ?_
      rintro e v1 ⟨⟨b1, d1, b2, d2, b3, d3, rfl, hn⟩, hb⟩
      have B1 := hid (G9.out.on hb).be
      have B2 := hid (B1.out.alloc B1.out.size (.cells #[.bool m.f, .slice b1 m.ks.length d1, .slice b2 m.cs.length d2, .slice b3 m.ps.length d3] tN))
      have X4 := hid (Nb.new m.f (.slice b1 m.ks.length d1) (.slice b2 m.cs.length d2) (.slice b3 m.ps.length d3) v1)
      have N4 := hid (hn.on ((Below.refl v1.heap.size v1).alloc (Nat.le_refl _) (.cells #[.bool m.f, .slice b1 m.ks.length d1, .slice b2 m.cs.length d2, .slice b3 m.ps.length d3] tN)))
      clear hb hn B1
      obtain ⟨y0, y1, y2, y3⟩ := X4.out.cells
      go_wp2_with fail
      refine (HEM.out _ _ _ _ N4.out).mono ?_
      rintro e v2 ⟨rfl, hb⟩
      have B3 := hid (B2.out.trans (hb.mono B2.out.size))
      have X5 := hid (X4.out.on hb)
      have N5 := hid (N4.out.on hb)
      clear hb B2 X4 N4 y0 y1 y2 y3
      obtain ⟨y0, y1, y2, y3⟩ := X5.out.cells
      go_wp2_with fail
      refine (HGM.out _ _ _ _ N5.out).mono ?_
      rintro e v3 ⟨rfl, hb⟩
      have B4 := hid (B3.out.trans (hb.mono B3.out.size))
      clear hb B3 X5 N5 y0 y1 y2 y3
      go_wp2
      go_ret
      exact ⟨rfl, B4.out⟩
    · have HD := hid (dec_no S e1 hS hd)
      clear hd
      go_wp2_with fail
      refine (HD.out _).mono ?_
      rintro e v1 ⟨⟨b1, d1, b2, d2, b3, d3, rfl⟩, hb⟩
      have B1 := hid (G9.out.on hb).be
      have B2 := hid (B1.out.alloc B1.out.size (.cells #[.bool false, .slice b1 0 d1, .slice b2 0 d2, .slice b3 0 d3] tN))
      have X4 := hid (Nb.new false (.slice b1 0 d1) (.slice b2 0 d2) (.slice b3 0 d3) v1)
      clear hb B1
      obtain ⟨y0, y1, y2, y3⟩ := X4.out.cells
      go_wp2
      go_ret
      exact ⟨rfl, B2.out⟩
  | false =>
    obtain ⟨x1, x2, x3⟩ := hx rfl
    have hF : Fit n := ⟨by omega, by omega⟩
    have HSM' := hid (HSM.out (by omega) (by omega) (by omega))
    have HE' := hid (HE.out hF)
    have HSZ' := hid (HSZ.out hF)
    have HGD' := hid (HGD.out (by omega) (by omega))
    clear hx HE HSZ HGD HSM
    cases ho : okN n with
    | true =>
      rw [ho] at HGD'
      have hsz := size_ok ho
      by_cases hl : 232 < (encN n).length
      · rw [encR_long ho hl] at HE'
        rw [sV2, bs_nil] at HE'
        rw [hsz] at HSZ'
        have hl' : ¬ (((encN n).length : Nat) : Int) ≤ 232 := by omega
        clear x1 x2 x3 hF ho hsz hl
        generalize (encN n).length = L at *
        go_wp2_with fail
        refine (HE'.out _ G2.out.na).mono ?_
        rintro e w3 ⟨rfl, hb⟩
        have G3 := hid (G2.out.on hb)
        clear hb c0 c1 c2 c3 G2
        obtain ⟨c0, c1, c2, c3⟩ := G3.out.bx.cells
        go_wp2_with fail
        refine (HSZ'.out _ G3.out.na).mono ?_
        rintro e w4 ⟨rfl, hb⟩
        have G9 := hid (G3.out.on hb)
        clear hb c0 c1 c2 c3 G3
        rcases HW.out with ⟨m, hd, hm, hem, hFm⟩ | ⟨e1, hd, he1⟩
        · have HD := hid (dec_yes S m hS hd)
          have HGM := hid (fun k c p w h => good_any k c p m (by have := hFm.p; omega) (by have := hFm.k; omega) w h)
          have HEM := hid (fun k c p w h => encode_any k c p m hFm w h)
          rw [hm] at HGM
          rw [hem, sV2] at HEM
          unfold nV at HGM HEM
          clear hd hm hem hFm
          go_wp2_with fail
          refine (HD.out _).mono ?_
          rintro e v1 ⟨⟨b1, d1, b2, d2, b3, d3, rfl, hn⟩, hb⟩
          have B1 := hid (G9.out.on hb).be
          have B2 := hid (B1.out.alloc B1.out.size (.cells #[.bool m.f, .slice b1 m.ks.length d1, .slice b2 m.cs.length d2, .slice b3 m.ps.length d3] tN))
          have X4 := hid (Nb.new m.f (.slice b1 m.ks.length d1) (.slice b2 m.cs.length d2) (.slice b3 m.ps.length d3) v1)
          have N4 := hid (hn.on ((Below.refl v1.heap.size v1).alloc (Nat.le_refl _) (.cells #[.bool m.f, .slice b1 m.ks.length d1, .slice b2 m.cs.length d2, .slice b3 m.ps.length d3] tN)))
          clear hb hn B1
          obtain ⟨y0, y1, y2, y3⟩ := X4.out.cells
          go_wp2_with fail
          refine (HEM.out _ _ _ _ N4.out).mono ?_
          rintro e v2 ⟨rfl, hb⟩
          have B3 := hid (B2.out.trans (hb.mono B2.out.size))
          have X5 := hid (X4.out.on hb)
          have N5 := hid (N4.out.on hb)
          clear hb B2 X4 N4 y0 y1 y2 y3
          obtain ⟨y0, y1, y2, y3⟩ := X5.out.cells
          go_wp2_with fail
          refine (HGM.out _ _ _ _ N5.out).mono ?_
          rintro e v3 ⟨rfl, hb⟩
          have B4 := hid (B3.out.trans (hb.mono B3.out.size))
          clear hb B3 X5 N5 y0 y1 y2 y3
          go_wp2
          go_ret
          exact ⟨rfl, B4.out⟩
        · have HD := hid (dec_no S e1 hS hd)
          clear hd
          go_wp2_with fail
          refine (HD.out _).mono ?_
          rintro e v1 ⟨⟨b1, d1, b2, d2, b3, d3, rfl⟩, hb⟩
          have B1 := hid (G9.out.on hb).be
          have B2 := hid (B1.out.alloc B1.out.size (.cells #[.bool false, .slice b1 0 d1, .slice b2 0 d2, .slice b3 0 d3] tN))
          have X4 := hid (Nb.new false (.slice b1 0 d1) (.slice b2 0 d2) (.slice b3 0 d3) v1)
          clear hb B1
          obtain ⟨y0, y1, y2, y3⟩ := X4.out.cells
          go_wp2
          go_ret
          exact ⟨rfl, B2.out⟩
      · have hdp : decR (page n) = ⟨n, 0⟩ := decR_page ho (by omega) (by omega)
        have HDP := hid (fun w => dec_yes (page n) n (by rw [page_len (by omega)]; decide) hdp w)
        rw [encR_good ho hl] at HE'
        rw [sV2] at HE'
        rw [hsz] at HSZ'
        have hl' : ¬ (232 : Int) < (((encN n).length : Nat) : Int) := by omega
        have hl3 : ¬ (((encN n).length : Nat) : Int) < 3 := by have := encN_pos n; omega
        clear x1 x2 x3 hF ho hsz hl hdp
        generalize (encN n).length = L at *
        generalize page n = PG at *
        go_wp2_with fail
        refine (HE'.out _ G2.out.na).mono ?_
        rintro e w3 ⟨rfl, hb⟩
        have G3 := hid (G2.out.on hb)
        clear hb c0 c1 c2 c3 G2
        obtain ⟨c0, c1, c2, c3⟩ := G3.out.bx.cells
        go_wp2_with fail
        refine (HDP.out _).mono ?_
        rintro e w4 ⟨⟨b1, d1, b2, d2, b3, d3, rfl, hn⟩, hb⟩
        have G4 := hid ((G3.out.on hb).alloc (.cells #[.bool n.f, .slice b1 n.ks.length d1, .slice b2 n.cs.length d2, .slice b3 n.ps.length d3] tN))
        have X4 := hid (Nb.new n.f (.slice b1 n.ks.length d1) (.slice b2 n.cs.length d2) (.slice b3 n.ps.length d3) w4)
        have N4 := hid (hn.on ((Below.refl w4.heap.size w4).alloc (Nat.le_refl _) (.cells #[.bool n.f, .slice b1 n.ks.length d1, .slice b2 n.cs.length d2, .slice b3 n.ps.length d3] tN)))
        clear hb hn c0 c1 c2 c3 G3
        obtain ⟨c0, c1, c2, c3⟩ := G4.out.bx.cells
        obtain ⟨y0, y1, y2, y3⟩ := X4.out.cells
        go_wp2_with fail
        refine (HSM'.out _ _ _ _ G4.out.na N4.out).mono ?_
        rintro e w5 ⟨rfl, hb⟩
        have G5 := hid (G4.out.on hb)
        clear hb c0 c1 c2 c3 G4 y0 y1 y2 y3 X4 N4
        obtain ⟨c0, c1, c2, c3⟩ := G5.out.bx.cells
        go_wp2_with fail
        refine (HSZ'.out _ G5.out.na).mono ?_
        rintro e w6 ⟨rfl, hb⟩
        have G6 := hid (G5.out.on hb)
        clear hb c0 c1 c2 c3 G5
        obtain ⟨c0, c1, c2, c3⟩ := G6.out.bx.cells
        go_wp2_with fail
        refine (HSZ'.out _ G6.out.na).mono ?_
        rintro e w7 ⟨rfl, hb⟩
        have G9 := hid (G6.out.on hb)
        clear hb c0 c1 c2 c3 G6
        rcases HW.out with ⟨m, hd, hm, hem, hFm⟩ | ⟨e1, hd, he1⟩
        · have HD := hid (dec_yes S m hS hd)
          have HGM := hid (fun k c p w h => good_any k c p m (by have := hFm.p; omega) (by have := hFm.k; omega) w h)
          have HEM := hid (fun k c p w h => encode_any k c p m hFm w h)
          rw [hm] at HGM
          rw [hem, sV2] at HEM
          unfold nV at HGM HEM
          clear hd hm hem hFm
          go_wp2_with fail
          refine (HD.out _).mono ?_
          rintro e v1 ⟨⟨b1, d1, b2, d2, b3, d3, rfl, hn⟩, hb⟩
          have B1 := hid (G9.out.on hb).be
          have B2 := hid (B1.out.alloc B1.out.size (.cells #[.bool m.f, .slice b1 m.ks.length d1, .slice b2 m.cs.length d2, .slice b3 m.ps.length d3] tN))
          have X4 := hid (Nb.new m.f (.slice b1 m.ks.length d1) (.slice b2 m.cs.length d2) (.slice b3 m.ps.length d3) v1)
          have N4 := hid (hn.on ((Below.refl v1.heap.size v1).alloc (Nat.le_refl _) (.cells #[.bool m.f, .slice b1 m.ks.length d1, .slice b2 m.cs.length d2, .slice b3 m.ps.length d3] tN)))
          clear hb hn B1
          obtain ⟨y0, y1, y2, y3⟩ := X4.out.cells
          go_wp2_with fail
          refine (HEM.out _ _ _ _ N4.out).mono ?_
          rintro e v2 ⟨rfl, hb⟩
          have B3 := hid (B2.out.trans (hb.mono B2.out.size))
          have X5 := hid (X4.out.on hb)
          have N5 := hid (N4.out.on hb)
          clear hb B2 X4 N4 y0 y1 y2 y3
          obtain ⟨y0, y1, y2, y3⟩ := X5.out.cells
          go_wp2_with fail
          refine (HGM.out _ _ _ _ N5.out).mono ?_
          rintro e v3 ⟨rfl, hb⟩
          have B4 := hid (B3.out.trans (hb.mono B3.out.size))
          clear hb B3 X5 N5 y0 y1 y2 y3
          go_wp2
          go_ret
          exact ⟨rfl, B4.out⟩
        · have HD := hid (dec_no S e1 hS hd)
          clear hd
          go_wp2_with fail
          refine (HD.out _).mono ?_
          rintro e v1 ⟨⟨b1, d1, b2, d2, b3, d3, rfl⟩, hb⟩
          have B1 := hid (G9.out.on hb).be
          have B2 := hid (B1.out.alloc B1.out.size (.cells #[.bool false, .slice b1 0 d1, .slice b2 0 d2, .slice b3 0 d3] tN))
          have X4 := hid (Nb.new false (.slice b1 0 d1) (.slice b2 0 d2) (.slice b3 0 d3) v1)
          clear hb B1
          obtain ⟨y0, y1, y2, y3⟩ := X4.out.cells
          go_wp2
          go_ret
          exact ⟨rfl, B2.out⟩
    | false =>
      rw [ho] at HGD'
      rw [encR_bad ho, sV2, bs_nil] at HE'
      rw [size_no ho] at HSZ'
      clear x1 x2 x3 hF ho
      go_wp2_with fail
      refine (HE'.out _ G2.out.na).mono ?_
      rintro e w3 ⟨rfl, hb⟩
      have G3 := hid (G2.out.on hb)
      clear hb c0 c1 c2 c3 G2
      obtain ⟨c0, c1, c2, c3⟩ := G3.out.bx.cells
      go_wp2_with fail
      refine (HGD'.out _ G3.out.na).mono ?_
      rintro e w4 ⟨rfl, hb⟩
      have G4 := hid (G3.out.on hb)
      clear hb c0 c1 c2 c3 G3
      obtain ⟨c0, c1, c2, c3⟩ := G4.out.bx.cells
      go_wp2_with fail
      refine (HSZ'.out _ G4.out.na).mono ?_
      rintro e w5 ⟨rfl, hb⟩
      have G9 := hid (G4.out.on hb)
      clear hb c0 c1 c2 c3 G4
      rcases HW.out with ⟨m, hd, hm, hem, hFm⟩ | ⟨e1, hd, he1⟩
      · have HD := hid (dec_yes S m hS hd)
        have HGM := hid (fun k c p w h => good_any k c p m (by have := hFm.p; omega) (by have := hFm.k; omega) w h)
        have HEM := hid (fun k c p w h => encode_any k c p m hFm w h)
        rw [hm] at HGM
        rw [hem, sV2] at HEM
        unfold nV at HGM HEM
        clear hd hm hem hFm
        go_wp2_with fail
        refine (HD.out _).mono ?_
        rintro e v1 ⟨⟨b1, d1, b2, d2, b3, d3, rfl, hn⟩, hb⟩
        have B1 := hid (G9.out.on hb).be
        have B2 := hid (B1.out.alloc B1.out.size (.cells #[.bool m.f, .slice b1 m.ks.length d1, .slice b2 m.cs.length d2, .slice b3 m.ps.length d3] tN))
        have X4 := hid (Nb.new m.f (.slice b1 m.ks.length d1) (.slice b2 m.cs.length d2) (.slice b3 m.ps.length d3) v1)
        have N4 := hid (hn.on ((Below.refl v1.heap.size v1).alloc (Nat.le_refl _) (.cells #[.bool m.f, .slice b1 m.ks.length d1, .slice b2 m.cs.length d2, .slice b3 m.ps.length d3] tN)))
        clear hb hn B1
        obtain ⟨y0, y1, y2, y3⟩ := X4.out.cells
        go_wp2_with fail
        refine (HEM.out _ _ _ _ N4.out).mono ?_
        rintro e v2 ⟨rfl, hb⟩
        have B3 := hid (B2.out.trans (hb.mono B2.out.size))
        have X5 := hid (X4.out.on hb)
        have N5 := hid (N4.out.on hb)
        clear hb B2 X4 N4 y0 y1 y2 y3
        obtain ⟨y0, y1, y2, y3⟩ := X5.out.cells
        go_wp2_with fail
        refine (HGM.out _ _ _ _ N5.out).mono ?_
        rintro e v3 ⟨rfl, hb⟩
        have B4 := hid (B3.out.trans (hb.mono B3.out.size))
        clear hb B3 X5 N5 y0 y1 y2 y3
        go_wp2
        go_ret
        exact ⟨rfl, B4.out⟩
      · have HD := hid (dec_no S e1 hS hd)
        clear hd
        go_wp2_with fail
        refine (HD.out _).mono ?_
        rintro e v1 ⟨⟨b1, d1, b2, d2, b3, d3, rfl⟩, hb⟩
        have B1 := hid (G9.out.on hb).be
        have B2 := hid (B1.out.alloc B1.out.size (.cells #[.bool false, .slice b1 0 d1, .slice b2 0 d2, .slice b3 0 d3] tN))
        have X4 := hid (Nb.new false (.slice b1 0 d1) (.slice b2 0 d2) (.slice b3 0 d3) v1)
        clear hb B1
        obtain ⟨y0, y1, y2, y3⟩ := X4.out.cells
        go_wp2
        go_ret
        exact ⟨rfl, B2.out⟩
end nodeBack
end Go.Proofs.YtiellodbkanciaaDoor
