/-
  Contracts of the reference's bytes, Size, Encode and Find.
-/
import Derived.Test.YtoifhcmgeackdaaGreatDoorNodeRefGood
import Derived.Test.YtoifhcmgeackdaaGreatDoorGrpTrNoB
import Derived.Test.YtoifhcmgeackdaaGreatDoorGrpTrNoE
import Derived.Test.YtoifhcmgeackdaaGreatDoorGrpTrNum
import Derived.BigQuiet
namespace Go.Proofs.YtoifhcmgeackdaaGreatDoor
open Go.RowKit
namespace No
open Num (hid varB fixF fixF_length)
theorem rvar_b (n : Nat) (hn : n < 18446744073709551616) (w : World) : Calls Tryz.prog 162 #[.int .u64 n] w fun e w' => e = .returned (.string (bs (varB n))) ∧ Below w.heap.size w w' := Num.rvar_any n hn w
theorem rfix2_b (n : Nat) (hn : n < 18446744073709551616) (w : World) : Calls Tryz.prog 118 #[.int .u64 n, .int .i64 2] w fun e w' => e = .returned (.string (bs (fixF 2 n))) ∧ Below w.heap.size w w' := (Num.rfixed_any n hn 2 w).mono fun _ _ h => h
theorem rfix4_b (n : Nat) (hn : n < 18446744073709551616) (w : World) : Calls Tryz.prog 118 #[.int .u64 n, .int .i64 4] w fun e w' => e = .returned (.string (bs (fixF 4 n))) ∧ Below w.heap.size w w' := (Num.rfixed_any n hn 4 w).mono fun _ _ h => h
abbrev rcObj (c : C) : Obj := .cells #[.int .i64 c.z, .string (bs c.d), .int .i64 c.p] tC
theorem bs_1 : (⟨#[1]⟩ : ByteArray) = bs [1] := rfl
theorem bs_2 : (⟨#[2]⟩ : ByteArray) = bs [2] := rfl
theorem headB_inner {n : N} (hf : n.f = false) (h : 0 < n.ps.length) : headB n = ([2] : Bs) ++ fixF 2 n.ks.length ++ fixF 4 n.ps[0].toNat := by
  obtain ⟨f, ks, cs, ps⟩ := n
  simp only at hf h
  subst hf
  match ps, h with
  | p :: l, _ => simp [headB]
theorem key_at {w : World} {ao : Option Addr} {n cap : Nat} {l : List Bs} (h : SAt w (.slice ao n cap) l) {k : Nat} (hk : k < l.length) : ∃ b o, ao = some ⟨b, o, none⟩ ∧ b < w.heap.size ∧ w.cell? ⟨b, o + k, none⟩ = some (.string (bs l[k])) := by
  obtain ⟨_, _, e, -, -, hat⟩ := SAt.ways1 h
  cases e
  exact hat k hk
theorem cel_at {w : World} {ao : Option Addr} {n cap : Nat} {l : List C} (h : CAt w (.slice ao n cap) l) {k : Nat} (hk : k < l.length) : ∃ b o, ao = some ⟨b, o, none⟩ ∧ b < w.heap.size ∧ w.cell? ⟨b, o + k * 3, none⟩ = some (.int .i64 l[k].z) ∧ w.cell? ⟨b, o + k * 3 + 1, none⟩ = some (.string (bs l[k].d)) ∧ w.cell? ⟨b, o + k * 3 + 2, none⟩ = some (.int .i64 l[k].p) := by
  obtain ⟨_, _, e, -, -, hat⟩ := CAt.ways3 h
  cases e
  exact hat k hk
theorem pag_at {w : World} {ao : Option Addr} {n cap : Nat} {l : List Int} (h : IAt w (.slice ao n cap) l) {k : Nat} (hk : k < l.length) : ∃ b o, ao = some ⟨b, o, none⟩ ∧ b < w.heap.size ∧ w.cell? ⟨b, o + k, none⟩ = some (.int .i64 l[k]) := by
  obtain ⟨_, _, e, -, -, hat⟩ := IAt.ways1 h
  cases e
  exact hat k hk
/-- One cell's bytes behind a text. -/
theorem cell_tail {z : Nat} {d : Bs} {p : Int} : encC ⟨z, d, p⟩ = varB z ++ (if z ≤ 40 then d else fixF 4 p.toNat) := by
  unfold encC
  simp only
  by_cases h : z ≤ 40
  · rw [if_pos h, if_pos (by omega)]; rfl
  · rw [if_neg h, if_neg (by omega)]; rfl
set_option maxRecDepth 100000 in
set_option maxHeartbeats 8000000 in
theorem rbytes_leaf (kv cv pv : Value) (n : N) (hf : n.f = true) (hok : okN n = true) (hl : n.ks.length ≤ 1000) (w : World) (h : NAt w kv cv pv n) :
    Calls Tryz.prog 124 #[nV true kv cv pv] w fun e w' => e = .returned (.string (bs (encN n))) ∧ Below w.heap.size w w' := by
  obtain ⟨h1, h2, h3⟩ := okN_ways hok
  have h3' : n.cs.length = n.ks.length ∧ n.cs.all okC = true := by
    rcases h3 with ⟨-, hc, -, hcs⟩ | ⟨hf', _⟩
    · exact ⟨hc, hcs⟩
    · rw [hf] at hf'; cases hf'
  obtain ⟨hc, hcs⟩ := h3'
  clear h3
  obtain ⟨il, ig⟩ := items_leaf hf hc
  obtain ⟨ao, cap, rfl, -, -, -⟩ := SAt.ways1 h.k
  obtain ⟨ao2, cap2, rfl, -, -, -⟩ := CAt.ways3 h.c
  have HSh := hid (short_at h1)
  have HOC := hid (okC_at hcs)
  have HN := hid (fun k (h : k < (items n).length) => upto_next h)
  have HG := hid ig
  have HM := hid (upto_most hok hl)
  have HA := hid (fun k (h : (items n).length ≤ k) => upto_all (n := n) h)
  have HH : Hid (bs (([1] : Bs) ++ fixF 2 n.ks.length) = bs (upto n 0)) := hid (by unfold upto headB; rw [hf, List.take_zero]; simp)
  have hu0 : IntKind.u64.wrap (n.ks.length : Int) = (n.ks.length : Int) := u64_id (by omega)
  have HF2 := hid (rfix2_b n.ks.length (by omega))
  have S0 := hid (Gst.new (f := true) h)
  rw [hc] at S0 ⊢
  clear h hok h1 h2 hcs ig
  have hz2 : (bs (fixF 2 n.ks.length)).size = 2 := by rw [bs_size, fixF_length]
  have hs2 : ¬ 9223372036854775807 < (⟨#[1]⟩ : ByteArray).size + (bs (fixF 2 n.ks.length)).size := by rw [hz2]; decide
  have hs2' : ¬ 9223372036854775807 < 1 + (bs (fixF 2 n.ks.length)).size := by rw [hz2]; decide
  obtain ⟨nl, hnl⟩ : ∃ x, n.ks.length = x := ⟨_, rfl⟩
  rw [hnl] at HF2 S0 HH hu0 il hl hc hs2 hs2' hz2 ⊢
  have HNL := hid hnl
  have HIL := hid il
  have HCL := hid hc
  clear hnl il hc hf
  obtain ⟨c0, c1, c2, c3⟩ := S0.out.bx.cells
  unfold nV
  go_enter Tryz.func124, Tryz.ntmps124
  go_wp2_with fail
  refine (HF2.out _).mono ?_
  rintro e w5 ⟨rfl, hb⟩
  have S3 := hid (S0.out.on hb)
  clear hb c0 c1 c2 c3
  obtain ⟨c0, c1, c2, c3⟩ := S3.out.bx.cells
  go_wp2
  go_loopw [3, 4] (fun s i wr => ∃ k : Nat, k ≤ nl ∧ i = .int .i64 k ∧ s = .string (bs (upto n k)) ∧ Hid (Gst w true (.slice ao nl cap) (.slice ao2 nl cap2) pv n wr)) (fun _ i _ => nl - (intOf i).toNat)
  case atStart => exact ⟨0, Nat.zero_le _, rfl, by rw [← HH.out, ← bs_append]; rfl, S3⟩
  case round =>
    obtain ⟨k, hk, rfl, rfl, HS⟩ := hrel
    clear c0 c1 c2 c3
    obtain ⟨c0, c1, c2, c3⟩ := HS.out.bx.cells
    have hum := HM.out k
    by_cases hlt : k < nl
    · have hlt' : (k : Int) < nl := by omega
      have i1 : k < n.ks.length := by have := HNL.out; omega
      have i2 : k < n.cs.length := by have := HCL.out; omega
      have i3 : k < (items n).length := by have := HIL.out; omega
      have hnak := HS.out.na.k
      have hnac := HS.out.na.c
      obtain ⟨b, o, rfl, hbl, y0⟩ := key_at hnak i1
      obtain ⟨b2, o2, rfl, hbl2, z0, z1, z2⟩ := cel_at hnac i2
      clear hnak hnac
      have HNx := HN.out k i3
      rw [HG.out k i3 i1 i2] at HNx
      have hsl := HSh.out k i1
      have hoc := HOC.out k i2
      unfold kB at HNx
      have hlb := HS.out.bx.lt
      have hC1 := fun wx (hx : Below wr.heap.size wr wx) => (hx.cell (p := ⟨w.heap.size, 1, none⟩) hlb).trans c1
      have hY := fun wx (hx : Below wr.heap.size wr wx) => (hx.cell (p := ⟨b, o + k, none⟩) hbl).trans y0
      generalize n.ks[k] = key at *
      generalize n.cs[k] = cell at *
      clear i1 i2 i3
      have hvk := Num.varB_le key.length
      have hku : IntKind.u64.wrap (key.length : Int) = ((key.length : Nat) : Int) := u64_id (by omega)
      have HV := hid (rvar_b key.length (by omega))
      obtain ⟨w1, w2, w3⟩ := okC_ways hoc
      obtain ⟨z, d, p⟩ := cell
      simp only at z0 z1 z2 w1 w2 w3
      obtain ⟨zn, rfl⟩ := Int.eq_ofNat_of_zero_le w1
      have hzu : IntKind.u64.wrap (zn : Int) = ((zn : Nat) : Int) := u64_id (by omega)
      have HZ := hid (rvar_b zn (by omega))
      have hzk := Num.varB_le zn
      obtain ⟨P, hP⟩ : ∃ P, P = upto n k := ⟨_, rfl⟩
      rw [← hP] at hum HNx ⊢
      clear hP hoc y0
      rw [cell_tail] at HNx
      have HNX := hid HNx
      clear HNx
      have t1 : ¬ 9223372036854775807 < (bs P).size + (bs (varB key.length)).size := by rw [bs_size, bs_size]; omega
      have t2 : ¬ 9223372036854775807 < (bs (P ++ varB key.length)).size + (bs key).size := by rw [bs_size, bs_size, List.length_append]; omega
      go_wp2_with fail
      refine wp_quiet_in (fun wx => Below wr.heap.size wr wx) (by kernel_rfl) (by kernel_rfl) (Below.refl _ _).drew ?_
      go_big_quiet_want
      go_big_quiet_op
      go_big_quiet_on
      go_big_quiet_want
      go_big_quiet_op
      refine ⟨.pointer (some ⟨w.heap.size, 1, none⟩), fun wx hx => ?_, ?_⟩
      · simp [go_sem]
      go_big_quiet_on
      go_big_quiet_want
      go_big_quiet_op
      refine ⟨.slice (some ⟨b, o, none⟩) nl cap, fun wx hx => ?_, ?_⟩
      · simp [go_sem, hC1 wx hx]
      go_big_quiet_on
      go_big_quiet_want
      go_big_quiet_op
      go_big_quiet_on
      go_big_quiet_want
      go_big_quiet_op
      refine ⟨.pointer (some ⟨b, o + k, none⟩), fun wx hx => ?_, ?_⟩
      · simp [go_sem] <;> omega
      go_big_quiet_on
      go_big_quiet_want
      go_big_quiet_op
      refine ⟨.string (bs key), fun wx hx => ?_, ?_⟩
      · simp [go_sem, hY wx hx]
      go_big_quiet_on
      go_big_quiet_want
      go_big_quiet_op
      refine ⟨.int .i64 (key.length : Nat), fun wx hx => ?_, ?_⟩
      · simp [go_sem, bs_size]
      go_big_quiet_on
      go_big_quiet_want
      go_big_quiet_op
      refine ⟨.int .u64 (key.length : Nat), fun wx hx => ?_, ?_⟩
      · simp [go_sem]
      go_big_quiet_on
      go_big_quiet_want
      go_big_quiet_op
      refine ⟨.string (bs (varB key.length)), fun wx hx => ?_, ?_⟩
      · refine (HV.out _).mono ?_
        rintro e w9 ⟨rfl, hb9⟩
        exact ⟨rfl, hx.trans (hb9.mono hx.size)⟩
      go_big_quiet_on
      go_big_quiet_want
      go_big_quiet_op
      refine ⟨.string (bs (P ++ varB key.length)), fun wx hx => ?_, ?_⟩
      · simp [go_sem, bs_append]
      go_big_quiet_on
      go_big_quiet_want
      go_big_quiet_op
      refine ⟨.pointer (some ⟨w.heap.size, 1, none⟩), fun wx hx => ?_, ?_⟩
      · simp [go_sem]
      go_big_quiet_on
      go_big_quiet_want
      go_big_quiet_op
      refine ⟨.slice (some ⟨b, o, none⟩) nl cap, fun wx hx => ?_, ?_⟩
      · simp [go_sem, hC1 wx hx]
      go_big_quiet_on
      go_big_quiet_want
      go_big_quiet_op
      go_big_quiet_on
      go_big_quiet_want
      go_big_quiet_op
      refine ⟨.pointer (some ⟨b, o + k, none⟩), fun wx hx => ?_, ?_⟩
      · simp [go_sem] <;> omega
      go_big_quiet_on
      go_big_quiet_want
      go_big_quiet_op
      refine ⟨.string (bs key), fun wx hx => ?_, ?_⟩
      · simp [go_sem, hY wx hx]
      go_big_quiet_on
      go_big_quiet_want
      go_big_quiet_op
      refine ⟨.string (bs ((P ++ varB key.length) ++ key)), fun wx hx => ?_, ?_⟩
      · simp [go_sem, bs_append]
      go_big_quiet_on
      go_big_quiet_want
      go_big_quiet_op
      go_big_quiet_on
      refine wpQuiet_nil ?_
      intro w5 hb5
      have G5 := hid (HS.out.on hb5)
      have hb5' := hb5
      clear hb5 hC1 hY c0 c1 c2 c3 t1 t2
      have y0 := (hb5'.cell (p := ⟨b2, o2 + k * 3, none⟩) hbl2).trans z0
      have y1 := (hb5'.cell (p := ⟨b2, o2 + k * 3 + 1, none⟩) hbl2).trans z1
      have y2 := (hb5'.cell (p := ⟨b2, o2 + k * 3 + 2, none⟩) hbl2).trans z2
      obtain ⟨c0, c1, c2, c3⟩ := G5.out.bx.cells
      obtain ⟨PK, hPK⟩ : ∃ PK, PK = (P ++ varB key.length) ++ key := ⟨_, rfl⟩
      rw [← hPK]
      have hpk : PK.length ≤ 140100 := by rw [hPK]; simp only [List.length_append]; omega
      have HPK := hid hPK
      clear hPK hb5' z0 z1 z2 hum
      have K5 := hid (Cb.new ⟨zn, d, p⟩ w5)
      have hlw : w5.heap.size < (w5.alloc (rcObj ⟨zn, d, p⟩)).heap.size := by simp
      obtain ⟨k0, k1, k2⟩ := K5.out.cells
      simp only at k0 k1 k2
      have hZ0 := fun wx (hx : Below (w5.heap.size + 1) (w5.alloc (rcObj ⟨zn, d, p⟩)) wx) => (hx.cell (p := ⟨w5.heap.size, 0, none⟩) (Nat.lt_succ_self _)).trans k0
      have hZ1 := fun wx (hx : Below (w5.heap.size + 1) (w5.alloc (rcObj ⟨zn, d, p⟩)) wx) => (hx.cell (p := ⟨w5.heap.size, 1, none⟩) (Nat.lt_succ_self _)).trans k1
      have hx14 : ∀ {wx : World}, Below (w5.heap.size + 1) (w5.alloc (rcObj ⟨zn, d, p⟩)) wx → w5.heap.size + 1 ≤ wx.heap.size := fun hx => Nat.le_trans (by simp) hx.size
      have hdl : d.length ≤ 40 := by
        rcases w3 with ⟨_, h, _⟩ | ⟨_, h, _⟩
        · omega
        · rw [h]; decide
      have t1 : ¬ 9223372036854775807 < (bs PK).size + (bs (varB zn)).size := by rw [bs_size, bs_size]; omega
      have t2 : ¬ 9223372036854775807 < (bs (PK ++ varB zn)).size + (bs d).size := by rw [bs_size, bs_size, List.length_append]; omega
      go_wp2_with fail
      refine wp_quiet_in (fun wx => Below (w5.heap.size + 1) (w5.alloc (rcObj ⟨zn, d, p⟩)) wx) (by kernel_rfl) (by kernel_rfl) ((Below.refl _ _).drew) ?_
      go_big_quiet_want
      go_big_quiet_op
      go_big_quiet_on
      go_big_quiet_want
      go_big_quiet_op
      refine ⟨.pointer (some ⟨w5.heap.size, 0, none⟩), fun wx hx => ?_, ?_⟩
      · simp [go_sem]
      go_big_quiet_on
      go_big_quiet_want
      go_big_quiet_op
      refine ⟨.int .i64 (zn : Nat), fun wx hx => ?_, ?_⟩
      · simp [go_sem, hZ0 wx hx]
      go_big_quiet_on
      go_big_quiet_want
      go_big_quiet_op
      refine ⟨.int .u64 (zn : Nat), fun wx hx => ?_, ?_⟩
      · simp [go_sem]
      go_big_quiet_on
      go_big_quiet_want
      go_big_quiet_op
      refine ⟨.string (bs (varB zn)), fun wx hx => ?_, ?_⟩
      · refine (HZ.out _).mono ?_
        rintro e w9 ⟨rfl, hb9⟩
        exact ⟨rfl, hx.trans (hb9.mono (hx14 hx))⟩
      go_big_quiet_on
      go_big_quiet_want
      go_big_quiet_op
      refine ⟨.string (bs (PK ++ varB zn)), fun wx hx => ?_, ?_⟩
      · simp [go_sem, bs_append]
      go_big_quiet_on
      go_big_quiet_want
      go_big_quiet_op
      refine ⟨.pointer (some ⟨w5.heap.size, 1, none⟩), fun wx hx => ?_, ?_⟩
      · simp [go_sem]
      go_big_quiet_on
      go_big_quiet_want
      go_big_quiet_op
      refine ⟨.string (bs d), fun wx hx => ?_, ?_⟩
      · simp [go_sem, hZ1 wx hx]
      go_big_quiet_on
      go_big_quiet_want
      go_big_quiet_op
      refine ⟨.string (bs ((PK ++ varB zn) ++ d)), fun wx hx => ?_, ?_⟩
      · simp [go_sem, bs_append]
      go_big_quiet_on
      go_big_quiet_want
      go_big_quiet_op
      go_big_quiet_on
      refine wpQuiet_nil ?_
      intro w6 hb6
      have hs6 : w5.heap.size + 1 ≤ w6.heap.size := hx14 hb6
      have hbel6 : Below w5.heap.size w5 w6 := ((Below.refl w5.heap.size w5).alloc (Nat.le_refl _) (rcObj ⟨zn, d, p⟩)).trans (hb6.mono (Nat.le_succ _))
      have G6 := hid (G5.out.on hbel6)
      have q0 := (hb6.cell (p := ⟨w5.heap.size, 0, none⟩) (Nat.lt_succ_self _)).trans k0
      have q2 := (hb6.cell (p := ⟨w5.heap.size, 2, none⟩) (Nat.lt_succ_self _)).trans k2
      clear t1 t2 hb6 hbel6 hZ0 hZ1 hx14 k0 k1 k2 c0 c1 c2 c3 y0 y1 y2 hlw
      obtain ⟨c0, c1, c2, c3⟩ := G6.out.bx.cells
      rcases w3 with ⟨w4, w5', w6'⟩ | ⟨w4, w5', w6', w7'⟩
      · have w4' : ¬ (40 : Int) < zn := by omega
        have HE : Hid (bs ((PK ++ varB zn) ++ d) = bs (upto n (k + 1))) := hid (by rw [HNX.out, HPK.out, if_pos (by omega)]; simp only [List.append_assoc])
        clear w4 w5' w6'
        go_wp2
        go_roundw
        case rel => exact ⟨k + 1, by omega, by go_num, by rw [← HE.out], G6⟩
        case measure => simp [intOf]; omega
      · have w4' : (40 : Int) < zn := by omega
        obtain ⟨pn, rfl⟩ := Int.eq_ofNat_of_zero_le (show 0 ≤ p by omega)
        have hpu : IntKind.u64.wrap (pn : Int) = ((pn : Nat) : Int) := u64_id (by omega)
        have HF4 := hid (rfix4_b pn (by omega))
        have hf4 : (fixF 4 pn).length = 4 := fixF_length _ _
        subst w5'
        have HE : Hid (bs (((PK ++ varB zn) ++ []) ++ fixF 4 pn) = bs (upto n (k + 1))) := hid (by rw [HNX.out, HPK.out, if_neg (by omega), show ((pn : Int)).toNat = pn from rfl]; simp only [List.append_assoc, List.nil_append])
        have hov : ¬ 9223372036854775807 < (bs ((PK ++ varB zn) ++ [])).size + (bs (fixF 4 pn)).size := by rw [bs_size, bs_size]; simp only [List.length_append, List.length_nil]; omega
        clear w4 w6' w7' hf4
        generalize (PK ++ varB zn) ++ [] = PZ at *
        go_wp2_with fail
        refine (HF4.out _).mono ?_
        rintro e w8 ⟨rfl, hb⟩
        have G8 := hid (G6.out.on hb)
        clear hb c0 c1 c2 c3
        obtain ⟨c0, c1, c2, c3⟩ := G8.out.bx.cells
        go_wp2
        go_roundw
        case rel => exact ⟨k + 1, by omega, by go_num, by rw [← HE.out, ← bs_append], G8⟩
        case measure => simp [intOf]; omega
    · have hlt' : ¬ (k : Int) < nl := by omega
      have HT := hid (HA.out k (by have := HIL.out; omega))
      go_wp2
      go_ret
      exact ⟨by rw [HT.out]; rfl, HS.out.be⟩
set_option maxRecDepth 100000 in
set_option maxHeartbeats 8000000 in
theorem rbytes_inner (kv cv pv : Value) (n : N) (hf : n.f = false) (hok : okN n = true) (hl : n.ks.length ≤ 1000) (w : World) (h : NAt w kv cv pv n) :
    Calls Tryz.prog 124 #[nV false kv cv pv] w fun e w' => e = .returned (.string (bs (encN n))) ∧ Below w.heap.size w w' := by
  obtain ⟨h1, h2, h3⟩ := okN_ways hok
  have h3' : n.ps.length = n.ks.length + 1 ∧ n.ps.all okP = true := by
    rcases h3 with ⟨hf', _⟩ | ⟨-, -, hc, -, hcs, -⟩
    · rw [hf] at hf'; cases hf'
    · exact ⟨hc, hcs⟩
  obtain ⟨hc, hcs⟩ := h3'
  clear h3
  obtain ⟨il, ig⟩ := items_inner hf hc
  obtain ⟨ao, cap, rfl, -, -, -⟩ := SAt.ways1 h.k
  obtain ⟨ao2, cap2, rfl, -, -, -⟩ := IAt.ways1 h.p
  have HSh := hid (short_at h1)
  have HOC := hid (okP_at hcs)
  have HN := hid (fun k (h : k < (items n).length) => upto_next h)
  have HG := hid ig
  have HM := hid (upto_most hok hl)
  have HA := hid (fun k (h : (items n).length ≤ k) => upto_all (n := n) h)
  obtain ⟨b0, o0, rfl, hb0, y00⟩ := pag_at h.p (k := 0) (by omega)
  obtain ⟨q1, q2⟩ := okP_at hcs 0 (by omega)
  have HH0 := hid (headB_inner hf (show 0 < n.ps.length by omega))
  generalize n.ps[0]'(by omega) = p0 at *
  obtain ⟨pn, rfl⟩ := Int.eq_ofNat_of_zero_le (show 0 ≤ p0 by omega)
  have HH : Hid (bs ((([2] : Bs) ++ fixF 2 n.ks.length) ++ fixF 4 pn) = bs (upto n 0)) := hid (by unfold upto; rw [List.take_zero, List.flatten_nil, List.append_nil, HH0.out]; rfl)
  have hu0 : IntKind.u64.wrap (n.ks.length : Int) = (n.ks.length : Int) := u64_id (by omega)
  have hup : IntKind.u64.wrap (pn : Int) = (pn : Int) := u64_id (by omega)
  have HF2 := hid (rfix2_b n.ks.length (by omega))
  have HF4 := hid (fun p (h : p < 18446744073709551616) w => rfix4_b p h w)
  have HF4p := hid (rfix4_b pn (by omega))
  have S0 := hid (Gst.new (f := false) h)
  rw [hc] at S0 ⊢
  clear h hok h1 h2 hcs ig HH0
  have hz2 : (bs (fixF 2 n.ks.length)).size = 2 := by rw [bs_size, fixF_length]
  have hs2 : ¬ 9223372036854775807 < (⟨#[2]⟩ : ByteArray).size + (bs (fixF 2 n.ks.length)).size := by rw [hz2]; decide
  have hs2' : ¬ 9223372036854775807 < 1 + (bs (fixF 2 n.ks.length)).size := by rw [hz2]; decide
  have hz4 : (bs (fixF 4 pn)).size = 4 := by rw [bs_size, fixF_length]
  have hs4 : ¬ 9223372036854775807 < ((⟨#[2]⟩ : ByteArray) ++ bs (fixF 2 n.ks.length)).size + (bs (fixF 4 pn)).size := by rw [hz4, ByteArray.size_append, hz2]; decide
  have hs4' : ¬ 9223372036854775807 < 1 + (bs (fixF 2 n.ks.length)).size + (bs (fixF 4 pn)).size := by rw [hz4, hz2]; decide
  obtain ⟨nl, hnl⟩ : ∃ x, n.ks.length = x := ⟨_, rfl⟩
  rw [hnl] at HF2 S0 HH hu0 il hl hc hs2 hs2' hz2 hs4 hs4' ⊢
  have HNL := hid hnl
  have HIL := hid il
  have HCL := hid hc
  clear hnl il hc hf
  have hnp : (0 : Int) < (nl : Int) + 1 := by omega
  obtain ⟨c0, c1, c2, c3⟩ := S0.out.bx.cells
  unfold nV
  go_enter Tryz.func124, Tryz.ntmps124
  go_wp2_with fail
  refine (HF2.out _).mono ?_
  rintro e w5 ⟨rfl, hb⟩
  have S3 := hid (S0.out.on hb)
  have y01 := (S3.out.be.cell (p := ⟨b0, o0 + 0, none⟩) hb0).trans y00
  rw [Nat.add_zero] at y01
  clear hb c0 c1 c2 c3
  obtain ⟨c0, c1, c2, c3⟩ := S3.out.bx.cells
  go_wp2_with fail
  refine (HF4p.out _).mono ?_
  rintro e w6 ⟨rfl, hb⟩
  have S4 := hid (S3.out.on hb)
  clear hb c0 c1 c2 c3 y01
  obtain ⟨c0, c1, c2, c3⟩ := S4.out.bx.cells
  go_wp2
  go_loopw [3, 4] (fun s i wr => ∃ k : Nat, k ≤ nl ∧ i = .int .i64 k ∧ s = .string (bs (upto n k)) ∧ Hid (Gst w false (.slice ao nl cap) cv (.slice (some ⟨b0, o0, none⟩) (nl + 1) cap2) n wr)) (fun _ i _ => nl - (intOf i).toNat)
  case atStart => exact ⟨0, Nat.zero_le _, rfl, by rw [← HH.out, ← bs_append, ← bs_append]; rfl, S4⟩
  case round =>
    obtain ⟨k, hk, rfl, rfl, HS⟩ := hrel
    clear c0 c1 c2 c3
    obtain ⟨c0, c1, c2, c3⟩ := HS.out.bx.cells
    have hum := HM.out k
    by_cases hlt : k < nl
    · have hlt' : (k : Int) < nl := by omega
      have i1 : k < n.ks.length := by have := HNL.out; omega
      have i2 : k + 1 < n.ps.length := by have := HCL.out; omega
      have i3 : k < (items n).length := by have := HIL.out; omega
      have hnak := HS.out.na.k
      have hnac := HS.out.na.p
      obtain ⟨b, o, rfl, hbl, y0⟩ := key_at hnak i1
      obtain ⟨b2, o2, e2, hbl2, z0⟩ := pag_at hnac i2
      cases e2
      clear hnak hnac
      have HNx := HN.out k i3
      rw [HG.out k i3 i1 i2] at HNx
      have hsl := HSh.out k i1
      obtain ⟨p1, p2⟩ := HOC.out (k + 1) i2
      unfold kB at HNx
      have hlb := HS.out.bx.lt
      have hC1 := fun wx (hx : Below wr.heap.size wr wx) => (hx.cell (p := ⟨w.heap.size, 1, none⟩) hlb).trans c1
      have hY := fun wx (hx : Below wr.heap.size wr wx) => (hx.cell (p := ⟨b, o + k, none⟩) hbl).trans y0
      generalize n.ks[k] = key at *
      generalize n.ps[k + 1] = page' at *
      clear i1 i2 i3
      have hvk := Num.varB_le key.length
      have hku : IntKind.u64.wrap (key.length : Int) = ((key.length : Nat) : Int) := u64_id (by omega)
      have HV := hid (rvar_b key.length (by omega))
      obtain ⟨zn, rfl⟩ := Int.eq_ofNat_of_zero_le (show 0 ≤ page' by omega)
      have hzu : IntKind.u64.wrap (zn : Int) = ((zn : Nat) : Int) := u64_id (by omega)
      have HZ := hid (HF4.out zn (by omega))
      obtain ⟨P, hP⟩ : ∃ P, P = upto n k := ⟨_, rfl⟩
      rw [← hP] at hum HNx ⊢
      clear hP y0
      rw [show ((zn : Int)).toNat = zn from rfl] at HNx
      have HNX := hid HNx
      clear HNx
      have t1 : ¬ 9223372036854775807 < (bs P).size + (bs (varB key.length)).size := by rw [bs_size, bs_size]; omega
      have t2 : ¬ 9223372036854775807 < (bs (P ++ varB key.length)).size + (bs key).size := by rw [bs_size, bs_size, List.length_append]; omega
      go_wp2_with fail
      refine wp_quiet_in (fun wx => Below wr.heap.size wr wx) (by kernel_rfl) (by kernel_rfl) (Below.refl _ _).drew ?_
      go_big_quiet_want
      go_big_quiet_op
      go_big_quiet_on
      go_big_quiet_want
      go_big_quiet_op
      refine ⟨.pointer (some ⟨w.heap.size, 1, none⟩), fun wx hx => ?_, ?_⟩
      · simp [go_sem]
      go_big_quiet_on
      go_big_quiet_want
      go_big_quiet_op
      refine ⟨.slice (some ⟨b, o, none⟩) nl cap, fun wx hx => ?_, ?_⟩
      · simp [go_sem, hC1 wx hx]
      go_big_quiet_on
      go_big_quiet_want
      go_big_quiet_op
      go_big_quiet_on
      go_big_quiet_want
      go_big_quiet_op
      refine ⟨.pointer (some ⟨b, o + k, none⟩), fun wx hx => ?_, ?_⟩
      · simp [go_sem] <;> omega
      go_big_quiet_on
      go_big_quiet_want
      go_big_quiet_op
      refine ⟨.string (bs key), fun wx hx => ?_, ?_⟩
      · simp [go_sem, hY wx hx]
      go_big_quiet_on
      go_big_quiet_want
      go_big_quiet_op
      refine ⟨.int .i64 (key.length : Nat), fun wx hx => ?_, ?_⟩
      · simp [go_sem, bs_size]
      go_big_quiet_on
      go_big_quiet_want
      go_big_quiet_op
      refine ⟨.int .u64 (key.length : Nat), fun wx hx => ?_, ?_⟩
      · simp [go_sem]
      go_big_quiet_on
      go_big_quiet_want
      go_big_quiet_op
      refine ⟨.string (bs (varB key.length)), fun wx hx => ?_, ?_⟩
      · refine (HV.out _).mono ?_
        rintro e w9 ⟨rfl, hb9⟩
        exact ⟨rfl, hx.trans (hb9.mono hx.size)⟩
      go_big_quiet_on
      go_big_quiet_want
      go_big_quiet_op
      refine ⟨.string (bs (P ++ varB key.length)), fun wx hx => ?_, ?_⟩
      · simp [go_sem, bs_append]
      go_big_quiet_on
      go_big_quiet_want
      go_big_quiet_op
      refine ⟨.pointer (some ⟨w.heap.size, 1, none⟩), fun wx hx => ?_, ?_⟩
      · simp [go_sem]
      go_big_quiet_on
      go_big_quiet_want
      go_big_quiet_op
      refine ⟨.slice (some ⟨b, o, none⟩) nl cap, fun wx hx => ?_, ?_⟩
      · simp [go_sem, hC1 wx hx]
      go_big_quiet_on
      go_big_quiet_want
      go_big_quiet_op
      go_big_quiet_on
      go_big_quiet_want
      go_big_quiet_op
      refine ⟨.pointer (some ⟨b, o + k, none⟩), fun wx hx => ?_, ?_⟩
      · simp [go_sem] <;> omega
      go_big_quiet_on
      go_big_quiet_want
      go_big_quiet_op
      refine ⟨.string (bs key), fun wx hx => ?_, ?_⟩
      · simp [go_sem, hY wx hx]
      go_big_quiet_on
      go_big_quiet_want
      go_big_quiet_op
      refine ⟨.string (bs ((P ++ varB key.length) ++ key)), fun wx hx => ?_, ?_⟩
      · simp [go_sem, bs_append]
      go_big_quiet_on
      go_big_quiet_want
      go_big_quiet_op
      go_big_quiet_on
      refine wpQuiet_nil ?_
      intro w5 hb5
      have G5 := hid (HS.out.on hb5)
      have hb5' := hb5
      clear hb5 hC1 hY c0 c1 c2 c3 t1 t2
      have y0 := (hb5'.cell (p := ⟨b0, o0 + (k + 1), none⟩) hbl2).trans z0
      obtain ⟨c0, c1, c2, c3⟩ := G5.out.bx.cells
      obtain ⟨PK, hPK⟩ : ∃ PK, PK = (P ++ varB key.length) ++ key := ⟨_, rfl⟩
      rw [← hPK]
      have hpk : PK.length ≤ 140100 := by rw [hPK]; simp only [List.length_append]; omega
      have HE : Hid (bs (PK ++ fixF 4 zn) = bs (upto n (k + 1))) := hid (by rw [HNX.out, hPK]; simp only [List.append_assoc])
      have hf4 : (fixF 4 zn).length = 4 := fixF_length _ _
      have hov : ¬ 9223372036854775807 < (bs PK).size + (bs (fixF 4 zn)).size := by rw [bs_size, bs_size]; omega
      clear hPK hb5' z0 hum hf4 p1 p2
      have hk1 : (k : Int) + 1 < (nl : Int) + 1 := by omega
      go_wp2_with fail
      refine (HZ.out _).mono ?_
      rintro e w8 ⟨rfl, hb⟩
      have G8 := hid (G5.out.on hb)
      clear hb c0 c1 c2 c3
      obtain ⟨c0, c1, c2, c3⟩ := G8.out.bx.cells
      go_wp2
      go_roundw
      case rel => exact ⟨k + 1, by omega, by go_num, by rw [← HE.out, ← bs_append], G8⟩
      case measure => simp [intOf]; omega
    · have hlt' : ¬ (k : Int) < nl := by omega
      have HT := hid (HA.out k (by have := HIL.out; omega))
      go_wp2
      go_ret
      exact ⟨by rw [HT.out]; rfl, HS.out.be⟩
theorem rbytes_any (kv cv pv : Value) (n : N) (hok : okN n = true) (hl : n.ks.length ≤ 1000) (w : World) (h : NAt w kv cv pv n) :
    Calls Tryz.prog 124 #[nV n.f kv cv pv] w fun e w' => e = .returned (.string (bs (encN n))) ∧ Below w.heap.size w w' := by
  cases hf : n.f with
  | true => exact rbytes_leaf kv cv pv n hf hok hl w h
  | false => exact rbytes_inner kv cv pv n hf hok hl w h
/-- What the reference's functions are asked of. -/
structure RFit (n : N) : Prop where
  k : n.ks.length ≤ 1000
  c : n.cs.length ≤ 1000
  p : n.ps.length ≤ 1000
theorem full_page {n : N} (h : ¬ 232 < (encN n).length) : Part.full (bs (encN n)) = bs (page n) := by
  have hz := bs_size (encN n)
  unfold Part.full page
  split
  · rename_i h2
    have e : (encN n).length = 232 := by omega
    rw [e, Nat.sub_self]
    have : (bs (encN n)).extract 0 232 = bs ((encN n).take 232) := by
      have e : (bs (encN n)).extract 0 232 = bs (bl ((bs (encN n)).extract 0 232)) := (bs_bl _).symm
      rw [e]
      refine congrArg bs ?_
      show ((bs (encN n)).extract 0 232).data.toList = _
      simp [ByteArray.data_extract, bs]
    rw [this, List.take_of_length_le (by omega)]
    simp [zeros]
  · rw [← bs_append, hz]
    rfl
set_option maxRecDepth 100000 in
set_option maxHeartbeats 1000000 in
theorem rencode_any (kv cv pv : Value) (n : N) (hl : RFit n) (w : World) (h : NAt w kv cv pv n) :
    Calls Tryz.prog 88 #[nV n.f kv cv pv] w fun e w' => e = .returned (sV2 (encR n)) ∧ Below w.heap.size w w' := by
  have G0 := hid (Gst.new (f := n.f) h)
  have HG := hid (fun w h => rgood_any kv cv pv n (by have := hl.k; omega) (by have := hl.c; omega) (by have := hl.p; omega) w h)
  have HB := hid (fun ho w h => rbytes_any kv cv pv n ho hl.k w h)
  have hz := bs_size (encN n)
  unfold sV2
  cases ho : okN n with
  | false =>
    rw [ho] at HG
    rw [encR_bad ho]
    unfold nV at *
    generalize n.f = f at *
    clear h hl ho HB hz
    go_enter Tryz.func88, Tryz.ntmps88
    go_wp2_with fail
    refine (HG.out _ G0.out.na).mono ?_
    rintro e w3 ⟨rfl, hb⟩
    have G1 := hid (G0.out.on hb)
    clear hb
    go_wp2
    go_ret2
    exact ⟨rfl, G1.out.be⟩
  | true =>
    rw [ho] at HG
    have HBB := hid (HB.out ho)
    have hm := encN_most ho hl.k
    by_cases h2 : 232 < (encN n).length
    · rw [encR_long ho h2]
      have h2' : (232 : Int) < (bs (encN n)).size := by omega
      unfold nV at *
      generalize n.f = f at *
      clear h hl ho HB hm h2 hz
      generalize encN n = E at *
      go_enter Tryz.func88, Tryz.ntmps88
      go_wp2_with fail
      refine (HG.out _ G0.out.na).mono ?_
      rintro e w3 ⟨rfl, hb⟩
      have G1 := hid (G0.out.on hb)
      obtain ⟨c0, c1, c2, c3⟩ := G1.out.bx.cells
      clear hb
      go_wp2_with fail
      refine (HBB.out _ G1.out.na).mono ?_
      rintro e w4 ⟨rfl, hb⟩
      have G2 := hid (G1.out.on hb)
      clear hb c0 c1 c2 c3
      go_wp2
      go_ret2
      exact ⟨rfl, G2.out.be⟩
    · rw [encR_good ho h2]
      have h2' : ¬ (232 : Int) < (bs (encN n)).size := by omega
      have HR := hid (Part.full_any (bs (encN n)))
      rw [full_page h2] at HR
      unfold nV at *
      generalize n.f = f at *
      clear h hl ho HB hm h2 hz
      generalize page n = PG at *
      generalize encN n = E at *
      go_enter Tryz.func88, Tryz.ntmps88
      go_wp2_with fail
      refine (HG.out _ G0.out.na).mono ?_
      rintro e w3 ⟨rfl, hb⟩
      have G1 := hid (G0.out.on hb)
      obtain ⟨c0, c1, c2, c3⟩ := G1.out.bx.cells
      clear hb
      go_wp2_with fail
      refine (HBB.out _ G1.out.na).mono ?_
      rintro e w4 ⟨rfl, hb⟩
      have G2 := hid (G1.out.on hb)
      clear hb c0 c1 c2 c3
      go_wp2_with fail
      refine (HR.out _).mono ?_
      rintro e w5 ⟨rfl, hb⟩
      have G3 := hid (G2.out.on hb)
      clear hb
      go_wp2
      go_ret2
      exact ⟨rfl, G3.out.be⟩
set_option maxRecDepth 100000 in
set_option maxHeartbeats 2000000 in
theorem rfind_any (kv cv pv : Value) (n : N) (key : Bs) (hl : RFit n) (w : World) (h : NAt w kv cv pv n) :
    Calls Tryz.prog 47 #[nV n.f kv cv pv, .string (bs key)] w fun e w' => e = .returned (fV (findR n key)) ∧ Below w.heap.size w w' := by
  have HG := hid (fun w h => rgood_any kv cv pv n (by have := hl.k; omega) (by have := hl.c; omega) (by have := hl.p; omega) w h)
  have hkl := hl.k
  obtain ⟨ao, cap, rfl, -, -, -⟩ := SAt.ways1 h.k
  have G0 := hid (Gst.new (f := n.f) h)
  unfold findR fV
  unfold nV at *
  generalize n.f = f at *
  cases ho : okN n with
  | false =>
    rw [ho] at HG
    rw [if_neg (by decide)]
    clear h hl ho
    go_enter Tryz.func47, Tryz.ntmps47
    go_wp2_with fail
    refine (HG.out _ G0.out.na).mono ?_
    rintro e w3 ⟨rfl, hb⟩
    have G1 := hid (G0.out.on hb)
    clear hb
    go_wp2
    go_ret2
    exact ⟨rfl, G1.out.be⟩
  | true =>
    rw [ho] at HG
    rw [if_pos rfl]
    clear h hl ho
    go_enter Tryz.func47, Tryz.ntmps47
    go_wp2_with fail
    refine (HG.out _ G0.out.na).mono ?_
    rintro e w3 ⟨rfl, hb⟩
    have G1 := hid (G0.out.on hb)
    obtain ⟨c0, c1, c2, c3⟩ := G1.out.bx.cells
    clear hb
    go_wp2
    go_loopw [6] (fun i wr => ∃ k : Nat, i = .int .i64 k ∧ k ≤ n.ks.length ∧ Hid (∀ j (hj : j < k) (hl : j < n.ks.length), less n.ks[j] key = true) ∧ Hid (Gst w f (.slice ao n.ks.length cap) cv pv n wr)) (fun i _ => n.ks.length - (intOf i).toNat)
    case atStart => exact ⟨0, rfl, Nat.zero_le _, hid (fun j hj => absurd hj (Nat.not_lt_zero _)), G1⟩
    case round =>
      obtain ⟨k, rfl, hkk, HL, HS⟩ := hrel
      clear c0 c1 c2 c3
      obtain ⟨c0, c1, c2, c3⟩ := HS.out.bx.cells
      by_cases hlt : k < n.ks.length
      · have hlt' : (k : Int) < n.ks.length := by omega
        obtain ⟨b, o, rfl, hbl, y0⟩ := key_at HS.out.na.k hlt
        cases hg : less n.ks[k] key with
        | true =>
          have hx : Op.bytesLess (bs n.ks[k]).toList (bs key).toList = true := by rw [bs_list, bs_list]; exact hg
          have HG' := hid hg
          clear hg
          go_wp2
          go_roundw
          case rel =>
            refine ⟨k + 1, by go_num, by omega, hid fun j hj hl => ?_, HS⟩
            by_cases hjk : j < k
            · exact HL.out j hjk hl
            · obtain rfl : j = k := by omega
              exact HG'.out
          case measure => simp [intOf]; omega
        | false =>
          have hx : Op.bytesLess (bs n.ks[k]).toList (bs key).toList = false := by rw [bs_list, bs_list]; exact hg
          have hfi := fi_unique n.ks key k hkk (fun i h => HL.out i h (by omega)) (fun _ => hg)
          have HF := hid hfi
          by_cases he : n.ks[k] = key
          · have HE : Hid (isAt n.ks key = true) := hid (isAt_yes hlt hfi (by rw [he]; exact (cmp_zero _ _).2 rfl))
            have hy : ((bs n.ks[k]).toList == (bs key).toList) = true := by rw [he]; simp
            clear hg hfi he
            have hlb := HS.out.bx.lt
            have hC1 := fun wx (hx : Below wr.heap.size wr wx) => (hx.cell (p := ⟨w.heap.size, 1, none⟩) hlb).trans c1
            have hY := fun wx (hx : Below wr.heap.size wr wx) => (hx.cell (p := ⟨b, o + k, none⟩) hbl).trans y0
            go_wp2_with fail
            refine wp_quiet_in (fun wx => Below wr.heap.size wr wx) (by kernel_rfl) (by kernel_rfl) (Below.refl _ _).drew ?_
            go_big_quiet_want
            go_big_quiet_op
            go_big_quiet_on
            go_big_quiet_want
            go_big_quiet_op
            go_big_quiet_on
            go_big_quiet_want
            go_big_quiet_op
            refine ⟨.pointer (some ⟨w.heap.size, 1, none⟩), fun wx hx => ?_, ?_⟩
            · simp [go_sem]
            go_big_quiet_on
            go_big_quiet_want
            go_big_quiet_op
            refine ⟨.slice (some ⟨b, o, none⟩) n.ks.length cap, fun wx hx => ?_, ?_⟩
            · simp [go_sem, hC1 wx hx]
            go_big_quiet_on
            go_big_quiet_want
            go_big_quiet_op
            refine ⟨.int .i64 (n.ks.length : Nat), fun wx hx => ?_, ?_⟩
            · simp [go_sem]
            go_big_quiet_on
            go_big_quiet_want
            go_big_quiet_op
            refine ⟨.bool true, fun wx hx => ?_, ?_⟩
            · simp [go_sem] <;> omega
            go_big_quiet_on
            go_big_quiet_want
            go_big_quiet_op
            go_big_quiet_on
            go_big_quiet_want
            go_big_quiet_op
            refine ⟨.pointer (some ⟨w.heap.size, 1, none⟩), fun wx hx => ?_, ?_⟩
            · simp [go_sem]
            go_big_quiet_on
            go_big_quiet_want
            go_big_quiet_op
            refine ⟨.slice (some ⟨b, o, none⟩) n.ks.length cap, fun wx hx => ?_, ?_⟩
            · simp [go_sem, hC1 wx hx]
            go_big_quiet_on
            go_big_quiet_want
            go_big_quiet_op
            go_big_quiet_on
            go_big_quiet_want
            go_big_quiet_op
            refine ⟨.pointer (some ⟨b, o + k, none⟩), fun wx hx => ?_, ?_⟩
            · simp [go_sem] <;> omega
            go_big_quiet_on
            go_big_quiet_want
            go_big_quiet_op
            refine ⟨.string (bs n.ks[k]), fun wx hx => ?_, ?_⟩
            · simp [go_sem, hY wx hx]
            go_big_quiet_on
            go_big_quiet_want
            go_big_quiet_op
            go_big_quiet_on
            go_big_quiet_want
            go_big_quiet_op
            refine ⟨.bool true, fun wx hx => ?_, ?_⟩
            · simp [go_sem]
            go_big_quiet_on
            go_big_quiet_want
            go_big_quiet_op
            refine ⟨.bool true, fun wx hx => ?_, ?_⟩
            · simp [go_sem]
            go_big_quiet_on
            go_big_quiet_want
            go_big_quiet_op
            go_big_quiet_on
            go_big_quiet_want
            go_big_quiet_op
            go_big_quiet_on
            refine wpQuiet_nil ?_
            intro w6 hb6
            have G6 := hid (HS.out.on hb6)
            clear hb6 hC1 hY y0 c0 c1 c2 c3
            go_wp2
            go_ret2
            exact ⟨by rw [HF.out, HE.out]; rfl, G6.out.be⟩
          · have HE : Hid (isAt n.ks key = false) := hid (isAt_no hlt hfi (fun e => he ((cmp_zero _ _).1 e)))
            have hy : ((bs n.ks[k]).toList == (bs key).toList) = false := by rw [bs_list, bs_list]; simpa using he
            clear hg hfi he
            have hlb := HS.out.bx.lt
            have hC1 := fun wx (hx : Below wr.heap.size wr wx) => (hx.cell (p := ⟨w.heap.size, 1, none⟩) hlb).trans c1
            have hY := fun wx (hx : Below wr.heap.size wr wx) => (hx.cell (p := ⟨b, o + k, none⟩) hbl).trans y0
            go_wp2_with fail
            refine wp_quiet_in (fun wx => Below wr.heap.size wr wx) (by kernel_rfl) (by kernel_rfl) (Below.refl _ _).drew ?_
            go_big_quiet_want
            go_big_quiet_op
            go_big_quiet_on
            go_big_quiet_want
            go_big_quiet_op
            go_big_quiet_on
            go_big_quiet_want
            go_big_quiet_op
            refine ⟨.pointer (some ⟨w.heap.size, 1, none⟩), fun wx hx => ?_, ?_⟩
            · simp [go_sem]
            go_big_quiet_on
            go_big_quiet_want
            go_big_quiet_op
            refine ⟨.slice (some ⟨b, o, none⟩) n.ks.length cap, fun wx hx => ?_, ?_⟩
            · simp [go_sem, hC1 wx hx]
            go_big_quiet_on
            go_big_quiet_want
            go_big_quiet_op
            refine ⟨.int .i64 (n.ks.length : Nat), fun wx hx => ?_, ?_⟩
            · simp [go_sem]
            go_big_quiet_on
            go_big_quiet_want
            go_big_quiet_op
            refine ⟨.bool true, fun wx hx => ?_, ?_⟩
            · simp [go_sem] <;> omega
            go_big_quiet_on
            go_big_quiet_want
            go_big_quiet_op
            go_big_quiet_on
            go_big_quiet_want
            go_big_quiet_op
            refine ⟨.pointer (some ⟨w.heap.size, 1, none⟩), fun wx hx => ?_, ?_⟩
            · simp [go_sem]
            go_big_quiet_on
            go_big_quiet_want
            go_big_quiet_op
            refine ⟨.slice (some ⟨b, o, none⟩) n.ks.length cap, fun wx hx => ?_, ?_⟩
            · simp [go_sem, hC1 wx hx]
            go_big_quiet_on
            go_big_quiet_want
            go_big_quiet_op
            go_big_quiet_on
            go_big_quiet_want
            go_big_quiet_op
            refine ⟨.pointer (some ⟨b, o + k, none⟩), fun wx hx => ?_, ?_⟩
            · simp [go_sem] <;> omega
            go_big_quiet_on
            go_big_quiet_want
            go_big_quiet_op
            refine ⟨.string (bs n.ks[k]), fun wx hx => ?_, ?_⟩
            · simp [go_sem, hY wx hx]
            go_big_quiet_on
            go_big_quiet_want
            go_big_quiet_op
            go_big_quiet_on
            go_big_quiet_want
            go_big_quiet_op
            refine ⟨.bool false, fun wx hx => ?_, ?_⟩
            · simp [go_sem]
            go_big_quiet_on
            go_big_quiet_want
            go_big_quiet_op
            refine ⟨.bool false, fun wx hx => ?_, ?_⟩
            · simp [go_sem]
            go_big_quiet_on
            go_big_quiet_want
            go_big_quiet_op
            go_big_quiet_on
            go_big_quiet_want
            go_big_quiet_op
            go_big_quiet_on
            refine wpQuiet_nil ?_
            intro w6 hb6
            have G6 := hid (HS.out.on hb6)
            clear hb6 hC1 hY y0 c0 c1 c2 c3
            go_wp2
            go_ret2
            exact ⟨by rw [HF.out, HE.out]; rfl, G6.out.be⟩
      · have hlt' : ¬ (k : Int) < n.ks.length := by omega
        have hfi := fi_unique n.ks key k hkk (fun i h => HL.out i h (by omega)) (fun h => absurd h hlt)
        have HF := hid hfi
        have HE := hid (isAt_end hlt hfi)
        clear hfi
        have hlb := HS.out.bx.lt
        have hC1 := fun wx (hx : Below wr.heap.size wr wx) => (hx.cell (p := ⟨w.heap.size, 1, none⟩) hlb).trans c1
        go_wp2_with fail
        refine wp_quiet_in (fun wx => Below wr.heap.size wr wx) (by kernel_rfl) (by kernel_rfl) (Below.refl _ _).drew ?_
        go_big_quiet_want
        go_big_quiet_op
        go_big_quiet_on
        go_big_quiet_want
        go_big_quiet_op
        go_big_quiet_on
        go_big_quiet_want
        go_big_quiet_op
        refine ⟨.pointer (some ⟨w.heap.size, 1, none⟩), fun wx hx => ?_, ?_⟩
        · simp [go_sem]
        go_big_quiet_on
        go_big_quiet_want
        go_big_quiet_op
        refine ⟨.slice ao n.ks.length cap, fun wx hx => ?_, ?_⟩
        · simp [go_sem, hC1 wx hx]
        go_big_quiet_on
        go_big_quiet_want
        go_big_quiet_op
        refine ⟨.int .i64 (n.ks.length : Nat), fun wx hx => ?_, ?_⟩
        · simp [go_sem]
        go_big_quiet_on
        go_big_quiet_want
        go_big_quiet_op
        refine ⟨.bool false, fun wx hx => ?_, ?_⟩
        · simp [go_sem] <;> omega
        go_big_quiet_on
        go_big_quiet_want
        go_big_quiet_op
        go_big_quiet_on
        go_big_quiet_skip
        go_big_quiet_skip
        go_big_quiet_skip
        go_big_quiet_skip
        go_big_quiet_skip
        go_big_quiet_skip
        go_big_quiet_skip
        go_big_quiet_want
        go_big_quiet_op
        refine ⟨.bool false, fun wx hx => ?_, ?_⟩
        · simp [go_sem]
        go_big_quiet_on
        go_big_quiet_want
        go_big_quiet_op
        go_big_quiet_on
        go_big_quiet_want
        go_big_quiet_op
        go_big_quiet_on
        refine wpQuiet_nil ?_
        intro w6 hb6
        have G6 := hid (HS.out.on hb6)
        clear hb6 hC1 c0 c1 c2 c3
        go_wp2
        go_ret2
        exact ⟨by rw [HF.out, HE.out]; rfl, G6.out.be⟩
end No
end Go.Proofs.YtoifhcmgeackdaaGreatDoor
