/-
  SpareFails: the walk of the statement.
-/
import Derived.Test.YtiomojidfkpagaaSpareLab
namespace Go.Proofs.Ytiomojidfkpagaa
open Go.RowKit
namespace spareFails
open Sp
open Num (hid)
open Mem (Bs bs ptr Chg)
theorem mod_u (a : Int) (m : Nat) (hm : 0 < m) (hm2 : m ≤ 1000) : ∃ n : Nat, n < m ∧ wrap64 ((IntKind.u64.wrap a).tmod (m : Int)) = (n : Int) := by
  have h1 : IntKind.u64.wrap a = a % 18446744073709551616 := IntKind.wrap_u64 a
  have h0 : 0 ≤ IntKind.u64.wrap a := by rw [h1]; exact Int.emod_nonneg _ (by decide)
  rw [Int.tmod_eq_emod_of_nonneg h0]
  generalize IntKind.u64.wrap a = y at *
  have h2 := Int.emod_nonneg y (show (m : Int) ≠ 0 by omega)
  have h3 := Int.emod_lt_of_pos y (show (0 : Int) < (m : Int) by omega)
  generalize y % (m : Int) = z at *
  refine ⟨z.toNat, by omega, ?_⟩
  rw [Num.wrap_i]
  omega
set_option maxRecDepth 100000 in
set_option maxHeartbeats 4000000 in
theorem walk (a0 a1 : Int) (give : Bool) (w : World) :
    Calls Try.prog 8 #[.int .i64 a0, .int .i64 a1, .bool give] w fun e w' => e = .returned (.bool true) ∧ Below w.heap.size w w' := by
  obtain ⟨n0, hn0, en⟩ : ∃ n : Nat, n < 150 ∧ wrap64 ((IntKind.u64.wrap a0).tmod 150) = (n : Int) := mod_u a0 150 (by decide) (by decide)
  obtain ⟨left, hleft, el⟩ : ∃ n : Nat, n < 3 ∧ wrap64 ((IntKind.u64.wrap a1).tmod 3) = (n : Int) := mod_u a1 3 (by decide) (by decide)
  obtain ⟨n, hn⟩ : ∃ n, n = n0 + 1 := ⟨_, rfl⟩
  have en1 : wrap64 (1 + (n0 : Int)) = (n : Int) := by rw [Num.wrap_i]; omega
  have en2 : wrap64 ((n : Int) + 2) = (n : Int) + 2 := by rw [Num.wrap_i]; omega
  have en3 : wrap64 ((n : Int) + 1) = (n : Int) + 1 := by rw [Num.wrap_i]; omega
  have en4 : wrap64 ((n : Int) - 1) = (n : Int) - 1 := by rw [Num.wrap_i]; omega
  have hn1 : 1 ≤ n := by omega
  have hn2 : n ≤ 150 := by omega
  have HI : Hid (Inv ⟨1, (n : Int) + 2, 0, 0, 0, 0⟩ [] (upN (n + 1)) []) := hid (by
    have := inv_new 1 (n + 1) (Or.inl rfl)
    have e : (((n + 1 : Nat) : Int)) + 1 = (n : Int) + 2 := by omega
    rw [e] at this
    exact this)
  have HN1 := hid hn1
  have HN2 := hid hn2
  have HLF := hid hleft
  clear hn0 hn
  go_enter Try.func8, Try.ntmps8
  go_wp2_with fail
  refine (awake_any _).mono ?_
  rintro e wa ⟨rfl, hba⟩
  have BA := hid hba
  clear hba
  go_wp2_with fail
  refine (fresh_any wa).mono ?_
  rintro e w1 ⟨rfl, hs1, hb1, hz1⟩
  have HL1 := hid (lab_new BA.out hs1 hb1 ⟨1, (n : Int) + 2, 0, 0, 0, 0⟩)
  have HDN0 : Hid (w.heap.size ≤ wa.heap.size + 1) := hid (Nat.le_trans BA.out.size (Nat.le_succ _))
  generalize hdd : wa.heap.size + 1 = d at *
  have HDN : Hid (w.heap.size ≤ d) := hid HDN0.out
  clear hdd HDN0
  clear hs1 hb1 hz1
  go_upto_region 7 with fail
  generalize w1.alloc (.cells #[.int .i64 1, .int .i64 ((n : Int) + 2), .int .i64 0, .int .i64 0, .int .i64 0, .int .u64 0] tH) = w2 at *
  generalize hOO : (fun k => k < wa.heap.size ∨ w1.heap.size ≤ k ∧ k < w2.heap.size) = O at *
  generalize w1.heap.size = B at *
  generalize wa.heap.size = b at *
  clear hOO
  go_wp2_with fail
  go_loopw [9] (fun i wr => ∃ (j k : Nat) (F : List Int) (h : Hd) (S : St), j ≤ n + 1 ∧ i = .int .i64 j ∧ Hid (j = k + 1) ∧ Hid (F.length = k) ∧ Hid (h.pages = (n : Int) + 2) ∧ Hid (Lab O w.heap.size B d b (2 * k + 1) h S w wr) ∧ Hid (Inv h S.B ((upN (n + 1)).drop k) F) ∧ Hid (S.left < 0) ∧ Hid (h.mode = 1 ∧ h.change = 0)) (fun i _ => n + 1 - (intOf i).toNat)
  case atStart => exact ⟨1, 0, [], ⟨1, (n : Int) + 2, 0, 0, 0, 0⟩, St0, by omega, rfl, hid rfl, hid rfl, hid rfl, HL1, HI, hid (show (-1 : Int) < 0 by decide), hid ⟨rfl, rfl⟩⟩
  case round =>
    obtain ⟨j, k, F, h, S, hj, rfl, HJ, hF, hpg, HL, HIV, HNG, HMD⟩ := hrel
    by_cases hlt : j ≤ n
    · have hle : (j : Int) ≤ n := by omega
      have HK := hid hlt
      have hn2' := HN2.out
      have hi : 0 < ((upN (n + 1)).drop k).length := by have := HJ.out; rw [List.length_drop, upN_len]; omega
      have hu0 : ((upN (n + 1)).drop k)[0] = (j : Int) := by have := HJ.out; rw [List.getElem_drop]; simp [upN]; omega
      have hu1 : ((upN (n + 1)).drop k).take 0 ++ ((upN (n + 1)).drop k).drop (0 + 1) = (upN (n + 1)).drop (k + 1) := by rw [List.take_zero, List.nil_append, List.drop_drop]
      have hg := HL.out.give HNG.out (by have := HJ.out; omega) HIV.out (by have := hpg.out; omega) hi
      rw [hu0] at hg
      have HG := hid hg
      have HU := hid hu1
      obtain ⟨p0, p1, p2, p3, p4, p5⟩ := HL.out.hb.cells
      have pl := HL.out.hb.lt
      unfold hV at HG
      clear hg hi hu0 hu1
      go_wp2_with fail
      refine HG.out.mono ?_
      rintro e w3 ⟨h', S', rfl, hL3, hng, hiv, hmd, hch, hpg', hsp, hst⟩
      rw [HU.out] at hiv
      have hL4 := hL3.kept ((Below.refl w3.heap.size w3).alloc (Nat.le_refl _) (hObj h'))
      have hG4 := Hb.new h' w3
      have L4 := hid hL4
      have G4 := hid hG4
      have HIV4 := hid hiv
      have HNG4 := hid hng
      have HX4 := hid (And.intro hmd (And.intro hch (And.intro hpg' hsp)))
      clear p0 p1 p2 p3 p4 p5 pl hL3 hng hiv hmd hch hpg' hsp hst hL4 hG4
      go_upto_region 11 with fail
      generalize w3.alloc (.cells #[.int .i64 h'.mode, .int .i64 h'.pages, .int .i64 h'.trunk, .int .i64 h'.spare, .int .i64 h'.root, .int .u64 (h'.change : Nat)] tH) = w4 at *
      obtain ⟨p0, p1, p2, p3, p4, p5⟩ := L4.out.hb.cells
      obtain ⟨f0, f1, f2, f3, f4, f5⟩ := L4.out.hb.free
      have pl := L4.out.hb.lt
      obtain ⟨q0, q1, q2, q3, q4, q5⟩ := G4.out.cells
      have ql := G4.out.lt
      have L5 : Hid (Lab O w.heap.size B d b (2 * (k + 1) + 1) h' S' w ((((((w4.setCell ⟨B, 0, none⟩ (.int .i64 h'.mode)).setCell ⟨B, 1, none⟩ (.int .i64 h'.pages)).setCell ⟨B, 2, none⟩ (.int .i64 h'.trunk)).setCell ⟨B, 3, none⟩ (.int .i64 h'.spare)).setCell ⟨B, 4, none⟩ (.int .i64 h'.root)).setCell ⟨B, 5, none⟩ (.int .u64 (h'.change : Nat)))) := hid (by
        have := L4.out.put h'
        rw [show 2 * k + 1 + 2 = 2 * (k + 1) + 1 by omega] at this
        exact this)
      go_wp2
      go_roundw
      case rel => exact ⟨j + 1, k + 1, _, h', S', by have := HK.out; omega, by go_num, hid (by rw [HJ.out]), hid (by simp; have := hF.out; omega), hid (by have := HX4.out.2.2.1; have := hpg.out; omega), L5, HIV4, HNG4, hid ⟨HX4.out.1.trans HMD.out.1, HX4.out.2.1.trans HMD.out.2⟩⟩
      case measure => have := HK.out; simp [intOf]; omega
    · have hle : ¬ (j : Int) ≤ n := by omega
      have hjn : j = n + 1 := by omega
      have hkn : k = n := by have := HJ.out; omega
      subst hkn
      have hl3 := HLF.out
      obtain ⟨⟨e1, e2, e3⟩, hL⟩ := HL.out.count HDN.out (left : Int) (by omega) (by omega)
      have L6 := hid hL
      have hspn : h.spare = (k : Int) := by rw [HIV.out.sp, hF.out]
      have hFk : 0 < F.length := by have := hF.out; have := HN1.out; omega
      have hUl : 0 < ((upN (k + 1)).drop k).length := by rw [List.length_drop, upN_len]; omega
      have hU0 : ((upN (k + 1)).drop k)[0] = (k : Int) + 1 := by rw [List.getElem_drop]; simp [upN]
      have hp4 : h.pages ≤ 4096 := by have := hpg.out; have := HN2.out; omega
      have hG : ∃ (h' : Hd) (x : Int) (S' : St), giveM h ⟨S.B, (left : Int)⟩ ((k : Int) + 1) = ((h', x), S') ∧ ((h' = hd0 ∧ x = 11 ∧ left < 2) ∨ (x = 0 ∧ h'.spare = (k : Int) + 1 ∧ left = 2)) := by
        rcases (by omega : left = 0 ∨ left = 1 ∨ left = 2) with rfl | rfl | rfl
        · obtain ⟨S', hs⟩ := fail_give (l := 0) HIV.out hp4 hFk hUl (Or.inl rfl)
          rw [hU0] at hs
          exact ⟨hd0, 11, S', hs, Or.inl ⟨rfl, rfl, by omega⟩⟩
        · obtain ⟨S', hs⟩ := fail_give (l := 1) HIV.out hp4 hFk hUl (Or.inr rfl)
          rw [hU0] at hs
          exact ⟨hd0, 11, S', hs, Or.inl ⟨rfl, rfl, by omega⟩⟩
        · obtain ⟨h', B', l', hs, -, -, -, -, -, -, -, h8⟩ := inv_give (l := 2) HIV.out hp4 (Or.inr (by omega)) hUl
          rw [hU0] at hs
          exact ⟨h', 0, ⟨B', l'⟩, hs, Or.inr ⟨rfl, by rw [h8, hspn], rfl⟩⟩
      have hT : ∃ (m : Int) (h' : Hd) (x : Int) (S' : St), takeM h ⟨S.B, (left : Int)⟩ = ((m, h', x), S') ∧ ((m = 0 ∧ h' = hd0 ∧ x = 11 ∧ left < 2) ∨ (x = 0 ∧ h'.spare = (k : Int) - 1 ∧ 0 < left)) := by
        rcases (by omega : left = 0 ∨ left = 1 ∨ left = 2) with rfl | rfl | rfl
        · obtain ⟨m, h', x, S', hs, ho⟩ := fail_take (l := 0) HIV.out hFk (Or.inl rfl)
          refine ⟨m, h', x, S', hs, ?_⟩
          rcases ho with ⟨e1, e2, e3⟩ | ⟨_, _, e3⟩
          · exact Or.inl ⟨e1, e2, e3, by omega⟩
          · omega
        · obtain ⟨m, h', x, S', hs, ho⟩ := fail_take (l := 1) HIV.out hFk (Or.inr rfl)
          refine ⟨m, h', x, S', hs, ?_⟩
          rcases ho with ⟨e1, e2, e3⟩ | ⟨e1, e2, e3⟩
          · exact Or.inl ⟨e1, e2, e3, by omega⟩
          · exact Or.inr ⟨e1, by rw [e2, hspn], by omega⟩
        · obtain ⟨m, h', B', l', F', hs, -, -, -, -, -, -, -, -, -, -, h11, -⟩ := inv_take (l := 2) HIV.out hp4 (fun e => by omega) (Or.inr (by omega))
          refine ⟨m, h', 0, ⟨B', l'⟩, hs, Or.inr ⟨rfl, ?_, by omega⟩⟩
          rw [h11, if_neg (by omega), hF.out]
          omega
      have hfit := HIV.out.fit hp4
      have HGV := hid (fun (wx : World) (hs : Seen O d b ⟨S.B, (left : Int)⟩ wx) => give_seen hs L6.out.sm (by have := HN2.out; omega) h hfit ((k : Int) + 1))
      have HTK := hid (fun (wx : World) (hs : Seen O d b ⟨S.B, (left : Int)⟩ wx) => take_seen hs L6.out.sm (by have := HN2.out; omega) h hfit)
      obtain ⟨p0, p1, p2, p3, p4, p5⟩ := L6.out.hb.cells
      have pl := L6.out.hb.lt
      clear hL hFk hUl hU0 hp4 hfit hle hjn hspn
      generalize hLL : (left : Int) = L at *
      cases give with
      | true =>
        obtain ⟨h', x, S', hm, ho⟩ := hG
        rw [hm] at HGV
        unfold hV giveV at HGV
        simp only at HGV
        clear hT HTK hm
        go_upto_region 16 with fail
        generalize wr.setCell ⟨d, 1, none⟩ (.int .i64 L) = w5 at *
        go_wp2_with fail
        refine (HGV.out w5 L6.out.seen).mono ?_
        rintro e w6 ⟨rfl, hs6, hst6⟩
        have HB6 := hid (L6.out.be.trans (hst6.below L6.out.size L6.out.on))
        have HB7 := hid (HB6.out.alloc (Nat.le_trans L6.out.size hst6.size) (hObj h'))
        clear hs6 hst6 p0 p1 p2 p3 p4 p5 pl e1 e2 e3
        unfold hV
        rcases ho with ⟨rfl, rfl, hlt2⟩ | ⟨rfl, hsp, hl2⟩
        · unfold hd0 at *
          have hL3 : L = 0 ∨ L = 1 := by omega
          clear hLL hlt2
          rcases hL3 with rfl | rfl
          · go_wp2
            go_ret
            exact ⟨rfl, HB7.out⟩
          · go_wp2
            go_ret
            exact ⟨rfl, HB7.out⟩
        · have hL3 : L = 2 := by omega
          subst hL3
          obtain ⟨g0, g1, g2, g3, g4, g5⟩ := h'
          simp only at hsp
          subst hsp
          clear hLL hl2
          go_wp2
          go_ret
          exact ⟨rfl, HB7.out⟩
      | false =>
        obtain ⟨m, h', x, S', hm, ho⟩ := hT
        rw [hm] at HTK
        unfold hV takeV at HTK
        simp only at HTK
        clear hG HGV hm
        go_upto_region 18 with fail
        generalize wr.setCell ⟨d, 1, none⟩ (.int .i64 L) = w5 at *
        go_wp2_with fail
        refine (HTK.out w5 L6.out.seen).mono ?_
        rintro e w6 ⟨rfl, hs6, hst6⟩
        have HB6 := hid (L6.out.be.trans (hst6.below L6.out.size L6.out.on))
        have HB7 := hid (HB6.out.alloc (Nat.le_trans L6.out.size hst6.size) (hObj h'))
        clear hs6 hst6 p0 p1 p2 p3 p4 p5 pl e1 e2 e3
        unfold hV
        rcases ho with ⟨rfl, rfl, rfl, hlt2⟩ | ⟨rfl, hsp, hpos⟩
        · unfold hd0 at *
          have hL3 : L = 0 ∨ L = 1 := by omega
          clear hLL hlt2
          rcases hL3 with rfl | rfl
          · go_wp2
            go_ret
            exact ⟨rfl, HB7.out⟩
          · go_wp2
            go_ret
            exact ⟨rfl, HB7.out⟩
        · have hL3 : L = 1 ∨ L = 2 := by have := HLF.out; omega
          obtain ⟨g0, g1, g2, g3, g4, g5⟩ := h'
          simp only at hsp
          subst hsp
          clear hLL hpos
          rcases hL3 with rfl | rfl
          · go_wp2
            go_ret
            exact ⟨rfl, HB7.out⟩
          · go_wp2
            go_ret
            exact ⟨rfl, HB7.out⟩
end spareFails
end Go.Proofs.Ytiomojidfkpagaa
