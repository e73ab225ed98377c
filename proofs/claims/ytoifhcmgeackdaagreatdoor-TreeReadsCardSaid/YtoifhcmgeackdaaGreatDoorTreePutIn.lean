/-
  putIn: a key's value in its leaf.
-/
import Derived.Test.YtoifhcmgeackdaaGreatDoorGrpTrTf
import Derived.Test.YtoifhcmgeackdaaGreatDoorTreeInsS
import Derived.Test.YtoifhcmgeackdaaGreatDoorTreeInsC
import Derived.Test.YtoifhcmgeackdaaGreatDoorGrpTrChC
namespace Go.Proofs.YtoifhcmgeackdaaGreatDoor
open Go.RowKit
namespace Tr
open Num (hid)
open Mem (Bs bs ptr Chg)
open Sp (Hd)
open Sh (ShL St Two Inv)
open Ch (pV CellOf CellOut Freed cV cO)
open No (N C NOw NAt Nb OwnL OwnS OwnI OwnC nV tN tC tS sV iV findR fV okN)
def insN (n : No.N) (i : Nat) (key : Bs) (c : No.C) : No.N := ⟨n.f, n.ks.take i ++ key :: n.ks.drop i, n.cs.take i ++ c :: n.cs.drop i, n.ps⟩
theorem freed_none {h : Hd} {S : St} {U F : List Int} (inv : Inv h S U F) : Freed h S U F [] ([] : List Int).length h S U F := ⟨inv, rfl, rfl, fun _ hx _ => ⟨hx, rfl⟩⟩
/-- What putIn leaves: the elder cell's chain is free (pg), the new one's is laid, or there is no room for it. -/
def PutPostX (s d N M b cnt : Nat) (lim : Int) (h : Hd) (arm : Int) (S : St) (U F pg : List Int) (ks cs ps : Value) (n : No.N) (X : Nat × Bool) (key v : Bs) (w0 w : World) (e : Ending) (w' : World) : Prop :=
  ∃ (c : No.C) (er : Int) (h1 h' : Hd) (arm' : Int) (S1 S' : St) (U1 F1 : List Int) (ks' cs' : Value), e = .returned (.int .i64 er) ∧ ShL s d N (cnt + 400) lim h' arm' S' w0 w' ∧ Freed h S U F pg pg.length h1 S1 U1 F1 ∧ CellOut v c er lim h1 arm S1 U1 F1 h' arm' S' ∧ Chg (LfF s d b ks cs ps) w w' ∧
    Lf s d M b ks' cs' ps (if er = 0 then insN (if X.2 = true then delN n X.1 else n) X.1 key c else (if X.2 = true then delN n X.1 else n)) w'
def PutPost (s d N M b cnt : Nat) (lim : Int) (h : Hd) (arm : Int) (S : St) (U F pg : List Int) (ks cs ps : Value) (n : No.N) (key v : Bs) (w0 w : World) (e : Ending) (w' : World) : Prop :=
  PutPostX s d N M b cnt lim h arm S U F pg ks cs ps n (findR n key) key v w0 w e w'
variable {s d N M cnt b : Nat} {lim : Int} {h : Hd} {arm : Int} {S : St} {w0 w : World} {U F pg : List Int} {v : Bs} {ks cs ps : Value} {n : No.N}
/-- Behind the look, and what was taken out: the new cell, and its key. -/
structure Mid (s d N M b cnt : Nat) (lim : Int) (h : Hd) (arm : Int) (S : St) (U F : List Int) (ks0 cs0 ks cs ps : Value) (n : No.N) (w0 w w1 : World) : Prop where
  sh : ShL s d N cnt lim h arm S w0 w1
  lf : Lf s d M b ks cs ps n w1
  sz : N ≤ M ∧ M ≤ w1.heap.size
  inv : Inv h S U F
  chg : Chg (LfF s d b ks0 cs0 ps) w w1
  gk : ∀ g, ks.ownBlock = some g → ks0.ownBlock = some g
  gc : ∀ g, cs.ownBlock = some g → cs0.ownBlock = some g
theorem Mid.cell {ks0 cs0 : Value} {w1 w2 : World} (m : Mid s d N M b cnt lim h arm S U F ks0 cs0 ks cs ps n w0 w w1) (hc : Chg (Two s d) w1 w2) : Chg (LfF s d b ks0 cs0 ps) w w2 ∧ Lf s d M b ks cs ps n w2 :=
  ⟨m.chg.trans (hc.mono (fun _ _ e => Or.inl e)), m.lf.turned hc⟩
set_option maxRecDepth 100000 in
set_option maxHeartbeats 16000000 in
theorem putin_any (k : ShL s d N cnt lim h arm S w0 w) (hcn : cnt ≤ 9000) (ha : arm < 1) (inv : Inv h S U F) (hlim : lim ≤ 4096) (hp : h.pages ≤ lim) (L : Lf s d M b ks cs ps n w) (hM : N ≤ M ∧ M ≤ w.heap.size) (hf : n.f = true) (hok : okN n = true) (key v : Bs) (hv : v.length ≤ 5000) (hlen : n.ks.length ≤ 800000) (hps : n.ps.length ≤ 4000)
    (hc : ∀ (i : Nat) (h : i < n.cs.length), (findR n key).2 = true → i = (findR n key).1 → ∃ v0, CellOf S.f n.cs[i] v0 pg) (hnd : pg.Nodup) (hsub : ∀ x ∈ pg, x ∈ U) (hnone : (findR n key).2 = false → pg = []) :
    Calls Tryz.prog 66 #[pV s, ptr b, .string (bs key), .string (bs v)] w (PutPost s d N M b cnt lim h arm S U F pg ks cs ps n key v w0 w) := by
  have hcl : n.cs.length = n.ks.length := by
    rcases (No.okN_ways hok).2.2 with ⟨_, h1, _⟩ | ⟨h1, _⟩
    · exact h1
    · rw [hf] at h1; cases h1
  have hx : (findR n key).1 ≤ n.ks.length ∧ ((findR n key).2 = true → (findR n key).1 < n.ks.length) := by
    unfold findR
    rw [if_pos hok]
    refine ⟨No.fi_le _ _, fun h => ?_⟩
    simp only at h
    unfold No.isAt at h
    simp only [decide_eq_true_eq] at h
    exact (List.getElem?_eq_some_iff.1 h).1
  have HF := hid (No.find_any ks cs ps n key hps (by omega) w L.nat)
  have HLM0 : Hid (lim ≤ 4096 ∧ arm ≤ 1000 ∧ v.length ≤ 9223372036854775807) := hid ⟨hlim, by omega, by omega⟩
  unfold PutPost
  generalize findR n key = X at *
  obtain ⟨ix, q⟩ := X
  simp only at hx hc hnone
  obtain ⟨hx1, hx2⟩ := hx
  have HL := hid L
  have HM := hid hM
  clear hM
  have HK := hid k
  have HINV := hid inv
  obtain ⟨aok0, capk0, hek0⟩ := own_form L.k
  obtain ⟨aoc0, capc0, hec0⟩ := own_form L.c
  obtain ⟨aop0, capp0, hep0⟩ := own_form L.p
  obtain ⟨b0, b1, b2, b3⟩ := L.bx.cells
  have hlb := L.bx.lt
  rw [hek0] at b1
  rw [hec0] at b2
  rw [hep0] at b3
  unfold nV fV at HF
  simp only at HF
  rw [hek0, hec0, hep0] at HF
  cases q with
  | false =>
    have hpg := hnone rfl
    subst hpg
    have FR : Hid (Freed h S U F [] ([] : List Int).length h S U F) := hid (freed_none inv)
    have HIX0 := hid (And.intro hx1 (And.intro hcl hlen))
    have HSM0 := hid hcn
    have HPL := hid hp
    clear k inv L hf hok hc hnd hsub hnone hlim hp ha hcn hx2 hcl hlen hps hx1
    go_enter Tryz.func66, Tryz.ntmps66
    go_wp2_with fail
    refine HF.out.mono ?_
    rintro e w1 ⟨rfl, hb⟩
    have MD : Hid (Mid s d N M b cnt lim h arm S U F ks cs ks cs ps n w0 w w1) := hid ⟨HK.out.kept hb, HL.out.on hb, ⟨HM.out.1, Nat.le_trans HM.out.2 hb.size⟩, HINV.out, Chg.of_below hb, fun g e => e, fun g e => e⟩
    have HSM : Hid (cnt ≤ 10000) := hid (by have := HSM0.out; omega)
    have HLM : Hid (lim ≤ 4096 ∧ h.pages ≤ lim ∧ arm ≤ 1000 ∧ v.length ≤ 9223372036854775807) := hid ⟨HLM0.out.1, HPL.out, HLM0.out.2⟩
    have HIX : Hid (ix ≤ n.ks.length ∧ ix ≤ n.cs.length ∧ n.ks.length ≤ 900000 ∧ (n.ks.take ix ++ key :: n.ks.drop ix).length ≤ 900000 ∧ n.cs.length ≤ 800000) := hid (by
      have h1 := HIX0.out
      refine ⟨h1.1, by omega, by omega, ?_, by omega⟩
      simp only [List.length_append, List.length_take, List.length_cons, List.length_drop]
      omega)
    clear hb b0 b1 b2 b3 hlb HF HK HL HINV
    have HC := hid (Ch.cell_any MD.out.sh HSM.out MD.out.inv HLM.out.1 HLM.out.2.1 HLM.out.2.2.1 v HLM.out.2.2.2)
    go_wp2_with fail
    refine HC.out.mono ?_
    rintro e w2 ⟨c, er, h', arm', S', rfl, k2, c2, co⟩
    have K2 := hid k2
    have CO := hid co
    have M2 := hid (MD.out.cell c2)
    have ba : Below w2.heap.size w2 (w2.alloc (cO c)) := (Below.refl _ _).alloc (Nat.le_refl _) _
    have K3 := hid (K2.out.kept ba)
    have L3 := hid (M2.out.2.on ba)
    have C3 := hid (M2.out.1.alloc (cO c))
    have BX := hid (Mem.blk_new w2 (cO c))
    have SZ3 : Hid (M ≤ (w2.alloc (cO c)).heap.size) := hid (Nat.le_trans MD.out.sz.2 (Nat.le_trans c2.size ba.size))
    have hgc : w2.heap.size ≠ b ∧ ks.ownBlock ≠ some w2.heap.size ∧ cs.ownBlock ≠ some w2.heap.size := ⟨by have := M2.out.2.bx.lt; omega, fun e => by have := own_lt M2.out.2.k _ e; omega, fun e => by have := own_lt M2.out.2.c _ e; omega⟩
    have NGC := hid hgc
    dsimp only [cV]
    clear k2 c2 co ba hgc HC
    by_cases he : er = 0
    · subst he
      obtain ⟨aok, capk, hek⟩ := own_form L3.out.k
      obtain ⟨aoc, capc, hec⟩ := own_form L3.out.c
      obtain ⟨aop, capp, hep⟩ := own_form L3.out.p
      obtain ⟨b0, b1, b2, b3⟩ := L3.out.bx.cells
      obtain ⟨f0, f1, f2, f3⟩ := L3.out.bx.free
      have hlb := L3.out.bx.lt
      have hz3 : M ≤ (w2.alloc (cO c)).heap.size ∧ s < (w2.alloc (cO c)).heap.size ∧ d < (w2.alloc (cO c)).heap.size := ⟨SZ3.out, K3.out.at'.lt.1, K3.out.at'.lt.2⟩
      rw [hek] at b1
      rw [hec] at b2
      rw [hep] at b3
      clear hz3
      go_upto_region 9 with fail
      generalize w2.alloc (.cells #[.int .i64 c.z, .string (bs c.d), .int .i64 c.p] tC) = w3 at *
      generalize w2.heap.size = gc at *
      have ba4 : Below w3.heap.size w3 (w3.alloc (.cells #[.string (bs key)] tS)) := (Below.refl _ _).alloc (Nat.le_refl _) _
      have L4 := hid (L3.out.on ba4)
      have K4 := hid (K3.out.kept ba4)
      have HI1 := hid (insS_any (vb := w3.heap.size) (x := key) L4.out.k HIX.out.1 HIX.out.2.2.1 (Mem.blk_new w3 _) (fun e => by have := own_lt L3.out.k _ e; omega))
      rw [hek] at HI1
      have SZ4 : Hid (M ≤ (w3.alloc (.cells #[.string (bs key)] tS)).heap.size) := hid (Nat.le_trans SZ3.out ba4.size)
      clear ba4
      go_wp2_with fail
      refine HI1.out.mono ?_
      rintro e w5 ⟨v5, rfl, ho, hg, hch⟩
      obtain ⟨ao5, cap5, rfl⟩ := own_form ho
      rw [← hek] at hg hch
      have hz4 : M ≤ (w3.alloc (.cells #[.string (bs key)] tS)).heap.size ∧ s < (w3.alloc (.cells #[.string (bs key)] tS)).heap.size ∧ d < (w3.alloc (.cells #[.string (bs key)] tS)).heap.size := ⟨SZ4.out, K4.out.at'.lt.1, K4.out.at'.lt.2⟩
      have L5 := hid (L4.out.setK ho hg hch HIX.out.2.2.2.1 hz4)
      have K5 := hid (shl_lf K4.out (v := .slice ao5 (n.ks.take ix ++ key :: n.ks.drop ix).length cap5) (j := 1) MD.out.sz.1 L4.out (Or.inl rfl) hch)
      have C5 := hid (chg_row (s := s) (d := d) (b := b) (j := 1) (v := .slice ao5 (n.ks.take ix ++ key :: n.ks.drop ix).length cap5) (ks := ks) (cs := cs) (ps := ps) hch (Or.inl rfl))
      have hbx : Nb b n.f ks cs ps w5 := hch.at L4.out.bx (fun e => (L4.out.rk b e).2.2.2 rfl)
      have hcb : w5.heap[gc]? = some (cO c) := hch.at (Mem.blk_alloc BX.out _) NGC.out.2.1
      clear b0 b1 b2 b3 f0 f1 f2 f3 hlb ho hg hch hz4 HI1
      obtain ⟨b0, b1, b2, b3⟩ := hbx.cells
      obtain ⟨f0, f1, f2, f3⟩ := hbx.free
      have hlb := hbx.lt
      have hcb2 := Mem.blk_other hcb (p := ⟨b, 1, none⟩) NGC.out.1 (.slice ao5 (n.ks.take ix ++ key :: n.ks.drop ix).length cap5)
      have BX5 := hid hcb2
      rw [hek] at b1
      rw [hec] at b2
      rw [hep] at b3
      clear hbx hcb hcb2
      generalize hln : (n.ks.take ix ++ key :: n.ks.drop ix) = kl at *
      go_upto_region 10 with fail
      generalize w5.setCell ⟨b, 1, none⟩ (.slice ao5 kl.length cap5) = w6 at *
      clear b0 b1 b2 b3 f0 f1 f2 f3 hlb
      obtain ⟨b0, b1, b2, b3⟩ := L5.out.bx.cells
      obtain ⟨f0, f1, f2, f3⟩ := L5.out.bx.free
      have hlb := L5.out.bx.lt
      rw [hec] at b2
      rw [hep] at b3
      have q0 := Mem.blk_cell BX5.out 0
      have q1 := Mem.blk_cell BX5.out 1
      have q2 := Mem.blk_cell BX5.out 2
      have hgl := lt_of_block BX5.out
      have B10 : Below w6.heap.size w6 ((w6.alloc (cO c)).drew) := ((Below.refl _ _).alloc (Nat.le_refl _) _).drew
      have LW := hid (L5.out.on B10)
      have KW := hid (K5.out.kept B10)
      have CT : Hid (Chg (LfF s d b ks cs ps) w ((w6.alloc (cO c)).drew)) := hid (((((C3.out.alloc (.cells #[.string (bs key)] tS)).trans (C5.out.mono (fun g _ e => by
        rcases e with e | e | e | e | e
        · exact Or.inl e
        · exact Or.inr (Or.inl e)
        · exact Or.inr (Or.inr (Or.inl (MD.out.gk g e)))
        · exact Or.inr (Or.inr (Or.inr (Or.inl (MD.out.gc g e))))
        · exact Or.inr (Or.inr (Or.inr (Or.inr e))))))).alloc (cO c)).drew)
      have SZW : Hid (M ≤ ((w6.alloc (cO c)).drew).heap.size) := hid (Nat.le_trans SZ4.out (Nat.le_trans C5.out.size B10.size))
      have hzw : M ≤ ((w6.alloc (cO c)).drew).heap.size ∧ s < ((w6.alloc (cO c)).drew).heap.size ∧ d < ((w6.alloc (cO c)).drew).heap.size := ⟨SZW.out, KW.out.at'.lt.1, KW.out.at'.lt.2⟩
      have FINF : Hid (∀ (w7 : World) (v7 : Value), OwnC w7 0 v7 (n.cs.take ix ++ c :: n.cs.drop ix) → (∀ g, v7.ownBlock = some g → cs.ownBlock = some g ∨ ((w6.alloc (cO c)).drew).heap.size ≤ g) → Chg (fun g => cs.ownBlock = some g) ((w6.alloc (cO c)).drew) w7 → PutPostX s d N M b cnt lim h arm S U F [] ks cs ps n (ix, false) key v w0 w (.returned (.int .i64 0)) (w7.setCell ⟨b, 2, none⟩ v7)) := hid (by
        intro w7 v7 ho hg hch
        have L7 := LW.out.setC ho hg hch (by have := HIX.out.2.2.2.2; simp only [List.length_append, List.length_take, List.length_cons, List.length_drop]; omega) hzw
        have K7 := shl_lf KW.out (v := v7) (j := 2) MD.out.sz.1 LW.out (Or.inr (Or.inl rfl)) hch
        have C7 := chg_row (s := s) (d := d) (b := b) (j := 2) (v := v7) (ks := ks) (cs := cs) (ps := ps) hch (Or.inr (Or.inl rfl))
        unfold PutPostX
        refine ⟨c, 0, _, h', arm', _, S', _, _, .slice ao5 kl.length cap5, v7, rfl, K7.more (by omega), FR.out, CO.out, CT.out.trans (C7.mono (fun g _ e => by
          rcases e with e | e | e | e | e
          · exact Or.inl e
          · exact Or.inr (Or.inl e)
          · exact Or.inr (Or.inr (Or.inl (MD.out.gk g e)))
          · exact Or.inr (Or.inr (Or.inr (Or.inl (MD.out.gc g e))))
          · exact Or.inr (Or.inr (Or.inr (Or.inr e))))), ?_⟩
        have e1 : (if ((ix, false) : Nat × Bool).2 = true then delN n ((ix, false) : Nat × Bool).1 else n) = n := by first | rfl | simp
        rw [if_pos rfl, e1]
        unfold insN
        rw [hln]
        exact L7)
      have HI2 := hid (insC_any (w := (w6.alloc (cO c)).drew) (vb := w6.heap.size) (x := c) LW.out.c HIX.out.2.1 (Nat.le_trans HIX.out.2.2.2.2 (by decide)) (Mem.blk_new w6 _) (fun e => by have := own_lt L5.out.c _ e; omega))
      have HBX : Hid (∀ w7, Chg (fun g => cs.ownBlock = some g) ((w6.alloc (cO c)).drew) w7 → Nb b n.f (.slice ao5 kl.length cap5) cs ps w7) := hid (fun w7 hch => hch.at LW.out.bx (fun e => (LW.out.rc b e).2.2.2 rfl))
      have FINE : Hid (∀ (w7 : World) (v7 : Value), OwnC w7 0 v7 (n.cs.take ix ++ c :: n.cs.drop ix) → (∀ g, v7.ownBlock = some g → (Value.slice aoc n.cs.length capc).ownBlock = some g ∨ ((w6.alloc (cO c)).drew).heap.size ≤ g) → Chg (fun g => (Value.slice aoc n.cs.length capc).ownBlock = some g) ((w6.alloc (cO c)).drew) w7 → PutPostX s d N M b cnt lim h arm S U F [] ks cs ps n (ix, false) key v w0 w (.returned (.int .i64 0)) (w7.setCell ⟨b, 2, none⟩ v7)) := hid (fun w7 v7 x y z => FINF.out w7 v7 x (by rw [hec]; exact y) (by rw [hec]; exact z))
      rw [hec] at HI2 HBX
      rw [hep] at HBX
      clear B10 hzw FINF
      go_region_with (go_at_call 108; refine HI2.out.mono ?_; rintro e w7 ⟨v7, rfl, ho, hg, hch⟩; have FZ := hid (FINE.out w7 v7 ho hg hch); have hb7 := HBX.out w7 hch; obtain ⟨cl, hcl⟩ : ∃ cl, cl = n.cs.take ix ++ c :: n.cs.drop ix := ⟨_, rfl⟩; rw [← hcl] at ho; clear hcl; obtain ⟨ao7, cap7, rfl⟩ := own_form ho; obtain ⟨c0, c1, c2, c3⟩ := hb7.cells; obtain ⟨g0, g1, g2, g3⟩ := hb7.free; have hl7 := hb7.lt; clear ho hg hch hb7)
      all_goals
        go_wp2
        go_ret
        exact FZ.out
    · have hne : (er != 0) = true := by simpa using he
      go_wp2
      go_ret
      unfold PutPostX
      refine ⟨c, er, _, h', arm', _, S', _, _, ks, cs, rfl, K3.out.more (by omega), FR.out, CO.out, C3.out, ?_⟩
      have e1 : (if ((ix, false) : Nat × Bool).2 = true then delN n ((ix, false) : Nat × Bool).1 else n) = n := by first | rfl | simp
      rw [if_neg he, e1]
      exact L3.out
  | true =>
    have HIXB := hid (hx2 rfl)
    have hxc : ix < n.cs.length := by rw [hcl]; exact hx2 rfl
    obtain ⟨v0, hcell⟩ := hc ix hxc rfl rfl
    have hle := HIXB.out
    have HIX0 := hid (And.intro hcl (And.intro hlen hxc))
    have HTK := hid (fun (wz : World) (kz : ShL s d N cnt lim h arm S w0 wz) (Lz : Lf s d M b ks cs ps n wz) (hz : M ≤ wz.heap.size) => takeout_any kz (by omega) ha inv (by omega) Lz ⟨HM.out.1, hz⟩ hle hxc hcell hnd hsub)
    have HPL := hid (And.intro hp (And.intro hcn ha))
    clear k inv L hf hok hc hnd hsub hnone hlim hp ha hcn hx2 hcl hlen hps hx1 hle hxc hcell
    go_enter Tryz.func66, Tryz.ntmps66
    go_wp2_with fail
    refine HF.out.mono ?_
    rintro e w9 ⟨rfl, hb⟩
    have HT := hid (HTK.out w9 (HK.out.kept hb) (HL.out.on hb) (Nat.le_trans HM.out.2 hb.size))
    have CB : Hid (Chg (LfF s d b ks cs ps) w w9) := hid (Chg.of_below hb)
    clear hb b0 b1 b2 b3 hlb HF HK HL HINV HTK
    go_wp2_with fail
    refine HT.out.mono ?_
    rintro e w1 ⟨h1, S1, U1, F1, ks1, cs1, rfl, k1, fr, l1, c1, g1, g2⟩
    have FR := hid fr
    have MD : Hid (Mid s d N M b (cnt + 200) lim h1 arm S1 U1 F1 ks cs ks1 cs1 ps (delN n ix) w0 w w1) := hid ⟨k1, l1, ⟨HM.out.1, Nat.le_trans HM.out.2 (Nat.le_trans CB.out.size c1.size)⟩, fr.inv, CB.out.trans c1, g1, g2⟩
    have HSM : Hid (cnt + 200 ≤ 10000) := hid (by have := HPL.out.2.1; omega)
    have HLM : Hid (lim ≤ 4096 ∧ h1.pages ≤ lim ∧ arm ≤ 1000 ∧ v.length ≤ 9223372036854775807) := hid ⟨HLM0.out.1, by rw [fr.pg]; exact HPL.out.1, HLM0.out.2⟩
    have HIX : Hid (ix ≤ (delN n ix).ks.length ∧ ix ≤ (delN n ix).cs.length ∧ (delN n ix).ks.length ≤ 900000 ∧ ((delN n ix).ks.take ix ++ key :: (delN n ix).ks.drop ix).length ≤ 900000 ∧ (delN n ix).cs.length ≤ 800000) := hid (by
      have q1 := HIX0.out
      have q2 := HIXB.out
      have e1 : (delN n ix).ks.length = n.ks.length - 1 := by unfold delN; simp only [List.length_append, List.length_take, List.length_drop]; omega
      have e2 : (delN n ix).cs.length = n.cs.length - 1 := by unfold delN; simp only [List.length_append, List.length_take, List.length_drop]; omega
      refine ⟨by omega, by omega, by omega, ?_, by omega⟩
      simp only [List.length_append, List.length_take, List.length_cons, List.length_drop]
      omega)
    clear k1 fr l1 c1 g1 g2 HT CB
    have HC := hid (Ch.cell_any MD.out.sh HSM.out MD.out.inv HLM.out.1 HLM.out.2.1 HLM.out.2.2.1 v HLM.out.2.2.2)
    go_wp2_with fail
    refine HC.out.mono ?_
    rintro e w2 ⟨c, er, h', arm', S', rfl, k2, c2, co⟩
    have K2 := hid k2
    have CO := hid co
    have M2 := hid (MD.out.cell c2)
    have ba : Below w2.heap.size w2 (w2.alloc (cO c)) := (Below.refl _ _).alloc (Nat.le_refl _) _
    have K3 := hid (K2.out.kept ba)
    have L3 := hid (M2.out.2.on ba)
    have C3 := hid (M2.out.1.alloc (cO c))
    have BX := hid (Mem.blk_new w2 (cO c))
    have SZ3 : Hid (M ≤ (w2.alloc (cO c)).heap.size) := hid (Nat.le_trans MD.out.sz.2 (Nat.le_trans c2.size ba.size))
    have hgc : w2.heap.size ≠ b ∧ ks1.ownBlock ≠ some w2.heap.size ∧ cs1.ownBlock ≠ some w2.heap.size := ⟨by have := M2.out.2.bx.lt; omega, fun e => by have := own_lt M2.out.2.k _ e; omega, fun e => by have := own_lt M2.out.2.c _ e; omega⟩
    have NGC := hid hgc
    dsimp only [cV]
    clear k2 c2 co ba hgc HC
    by_cases he : er = 0
    · subst he
      obtain ⟨aok, capk, hek⟩ := own_form L3.out.k
      obtain ⟨aoc, capc, hec⟩ := own_form L3.out.c
      obtain ⟨aop, capp, hep⟩ := own_form L3.out.p
      obtain ⟨b0, b1, b2, b3⟩ := L3.out.bx.cells
      obtain ⟨f0, f1, f2, f3⟩ := L3.out.bx.free
      have hlb := L3.out.bx.lt
      have hz3 : M ≤ (w2.alloc (cO c)).heap.size ∧ s < (w2.alloc (cO c)).heap.size ∧ d < (w2.alloc (cO c)).heap.size := ⟨SZ3.out, K3.out.at'.lt.1, K3.out.at'.lt.2⟩
      rw [hek] at b1
      rw [hec] at b2
      rw [hep] at b3
      clear hz3
      go_upto_region 9 with fail
      generalize w2.alloc (.cells #[.int .i64 c.z, .string (bs c.d), .int .i64 c.p] tC) = w3 at *
      generalize w2.heap.size = gc at *
      have ba4 : Below w3.heap.size w3 (w3.alloc (.cells #[.string (bs key)] tS)) := (Below.refl _ _).alloc (Nat.le_refl _) _
      have L4 := hid (L3.out.on ba4)
      have K4 := hid (K3.out.kept ba4)
      have HI1 := hid (insS_any (vb := w3.heap.size) (x := key) L4.out.k HIX.out.1 HIX.out.2.2.1 (Mem.blk_new w3 _) (fun e => by have := own_lt L3.out.k _ e; omega))
      rw [hek] at HI1
      have SZ4 : Hid (M ≤ (w3.alloc (.cells #[.string (bs key)] tS)).heap.size) := hid (Nat.le_trans SZ3.out ba4.size)
      clear ba4
      go_wp2_with fail
      refine HI1.out.mono ?_
      rintro e w5 ⟨v5, rfl, ho, hg, hch⟩
      obtain ⟨ao5, cap5, rfl⟩ := own_form ho
      rw [← hek] at hg hch
      have hz4 : M ≤ (w3.alloc (.cells #[.string (bs key)] tS)).heap.size ∧ s < (w3.alloc (.cells #[.string (bs key)] tS)).heap.size ∧ d < (w3.alloc (.cells #[.string (bs key)] tS)).heap.size := ⟨SZ4.out, K4.out.at'.lt.1, K4.out.at'.lt.2⟩
      have L5 := hid (L4.out.setK ho hg hch HIX.out.2.2.2.1 hz4)
      have K5 := hid (shl_lf K4.out (v := .slice ao5 ((delN n ix).ks.take ix ++ key :: (delN n ix).ks.drop ix).length cap5) (j := 1) MD.out.sz.1 L4.out (Or.inl rfl) hch)
      have C5 := hid (chg_row (s := s) (d := d) (b := b) (j := 1) (v := .slice ao5 ((delN n ix).ks.take ix ++ key :: (delN n ix).ks.drop ix).length cap5) (ks := ks1) (cs := cs1) (ps := ps) hch (Or.inl rfl))
      have hbx : Nb b (delN n ix).f ks1 cs1 ps w5 := hch.at L4.out.bx (fun e => (L4.out.rk b e).2.2.2 rfl)
      have hcb : w5.heap[gc]? = some (cO c) := hch.at (Mem.blk_alloc BX.out _) NGC.out.2.1
      clear b0 b1 b2 b3 f0 f1 f2 f3 hlb ho hg hch hz4 HI1
      obtain ⟨b0, b1, b2, b3⟩ := hbx.cells
      obtain ⟨f0, f1, f2, f3⟩ := hbx.free
      have hlb := hbx.lt
      have hcb2 := Mem.blk_other hcb (p := ⟨b, 1, none⟩) NGC.out.1 (.slice ao5 ((delN n ix).ks.take ix ++ key :: (delN n ix).ks.drop ix).length cap5)
      have BX5 := hid hcb2
      rw [hek] at b1
      rw [hec] at b2
      rw [hep] at b3
      clear hbx hcb hcb2
      generalize hln : ((delN n ix).ks.take ix ++ key :: (delN n ix).ks.drop ix) = kl at *
      go_upto_region 10 with fail
      generalize w5.setCell ⟨b, 1, none⟩ (.slice ao5 kl.length cap5) = w6 at *
      clear b0 b1 b2 b3 f0 f1 f2 f3 hlb
      obtain ⟨b0, b1, b2, b3⟩ := L5.out.bx.cells
      obtain ⟨f0, f1, f2, f3⟩ := L5.out.bx.free
      have hlb := L5.out.bx.lt
      rw [hec] at b2
      rw [hep] at b3
      have q0 := Mem.blk_cell BX5.out 0
      have q1 := Mem.blk_cell BX5.out 1
      have q2 := Mem.blk_cell BX5.out 2
      have hgl := lt_of_block BX5.out
      have B10 : Below w6.heap.size w6 ((w6.alloc (cO c)).drew) := ((Below.refl _ _).alloc (Nat.le_refl _) _).drew
      have LW := hid (L5.out.on B10)
      have KW := hid (K5.out.kept B10)
      have CT : Hid (Chg (LfF s d b ks cs ps) w ((w6.alloc (cO c)).drew)) := hid (((((C3.out.alloc (.cells #[.string (bs key)] tS)).trans (C5.out.mono (fun g _ e => by
        rcases e with e | e | e | e | e
        · exact Or.inl e
        · exact Or.inr (Or.inl e)
        · exact Or.inr (Or.inr (Or.inl (MD.out.gk g e)))
        · exact Or.inr (Or.inr (Or.inr (Or.inl (MD.out.gc g e))))
        · exact Or.inr (Or.inr (Or.inr (Or.inr e))))))).alloc (cO c)).drew)
      have SZW : Hid (M ≤ ((w6.alloc (cO c)).drew).heap.size) := hid (Nat.le_trans SZ4.out (Nat.le_trans C5.out.size B10.size))
      have hzw : M ≤ ((w6.alloc (cO c)).drew).heap.size ∧ s < ((w6.alloc (cO c)).drew).heap.size ∧ d < ((w6.alloc (cO c)).drew).heap.size := ⟨SZW.out, KW.out.at'.lt.1, KW.out.at'.lt.2⟩
      have FINF : Hid (∀ (w7 : World) (v7 : Value), OwnC w7 0 v7 ((delN n ix).cs.take ix ++ c :: (delN n ix).cs.drop ix) → (∀ g, v7.ownBlock = some g → cs1.ownBlock = some g ∨ ((w6.alloc (cO c)).drew).heap.size ≤ g) → Chg (fun g => cs1.ownBlock = some g) ((w6.alloc (cO c)).drew) w7 → PutPostX s d N M b cnt lim h arm S U F pg ks cs ps n (ix, true) key v w0 w (.returned (.int .i64 0)) (w7.setCell ⟨b, 2, none⟩ v7)) := hid (by
        intro w7 v7 ho hg hch
        have L7 := LW.out.setC ho hg hch (by have := HIX.out.2.2.2.2; simp only [List.length_append, List.length_take, List.length_cons, List.length_drop]; omega) hzw
        have K7 := shl_lf KW.out (v := v7) (j := 2) MD.out.sz.1 LW.out (Or.inr (Or.inl rfl)) hch
        have C7 := chg_row (s := s) (d := d) (b := b) (j := 2) (v := v7) (ks := ks1) (cs := cs1) (ps := ps) hch (Or.inr (Or.inl rfl))
        unfold PutPostX
        refine ⟨c, 0, _, h', arm', _, S', _, _, .slice ao5 kl.length cap5, v7, rfl, K7.more (by omega), FR.out, CO.out, CT.out.trans (C7.mono (fun g _ e => by
          rcases e with e | e | e | e | e
          · exact Or.inl e
          · exact Or.inr (Or.inl e)
          · exact Or.inr (Or.inr (Or.inl (MD.out.gk g e)))
          · exact Or.inr (Or.inr (Or.inr (Or.inl (MD.out.gc g e))))
          · exact Or.inr (Or.inr (Or.inr (Or.inr e))))), ?_⟩
        have e1 : (if ((ix, true) : Nat × Bool).2 = true then delN n ((ix, true) : Nat × Bool).1 else n) = (delN n ix) := by first | rfl | simp
        rw [if_pos rfl, e1]
        unfold insN
        rw [hln]
        exact L7)
      have HI2 := hid (insC_any (w := (w6.alloc (cO c)).drew) (vb := w6.heap.size) (x := c) LW.out.c HIX.out.2.1 (Nat.le_trans HIX.out.2.2.2.2 (by decide)) (Mem.blk_new w6 _) (fun e => by have := own_lt L5.out.c _ e; omega))
      have HBX : Hid (∀ w7, Chg (fun g => cs1.ownBlock = some g) ((w6.alloc (cO c)).drew) w7 → Nb b (delN n ix).f (.slice ao5 kl.length cap5) cs1 ps w7) := hid (fun w7 hch => hch.at LW.out.bx (fun e => (LW.out.rc b e).2.2.2 rfl))
      have FINE : Hid (∀ (w7 : World) (v7 : Value), OwnC w7 0 v7 ((delN n ix).cs.take ix ++ c :: (delN n ix).cs.drop ix) → (∀ g, v7.ownBlock = some g → (Value.slice aoc (delN n ix).cs.length capc).ownBlock = some g ∨ ((w6.alloc (cO c)).drew).heap.size ≤ g) → Chg (fun g => (Value.slice aoc (delN n ix).cs.length capc).ownBlock = some g) ((w6.alloc (cO c)).drew) w7 → PutPostX s d N M b cnt lim h arm S U F pg ks cs ps n (ix, true) key v w0 w (.returned (.int .i64 0)) (w7.setCell ⟨b, 2, none⟩ v7)) := hid (fun w7 v7 x y z => FINF.out w7 v7 x (by rw [hec]; exact y) (by rw [hec]; exact z))
      rw [hec] at HI2 HBX
      rw [hep] at HBX
      clear B10 hzw FINF
      go_region_with (go_at_call 108; refine HI2.out.mono ?_; rintro e w7 ⟨v7, rfl, ho, hg, hch⟩; have FZ := hid (FINE.out w7 v7 ho hg hch); have hb7 := HBX.out w7 hch; obtain ⟨cl, hcl⟩ : ∃ cl, cl = (delN n ix).cs.take ix ++ c :: (delN n ix).cs.drop ix := ⟨_, rfl⟩; rw [← hcl] at ho; clear hcl; obtain ⟨ao7, cap7, rfl⟩ := own_form ho; obtain ⟨c0, c1, c2, c3⟩ := hb7.cells; obtain ⟨g0, g1, g2, g3⟩ := hb7.free; have hl7 := hb7.lt; clear ho hg hch hb7)
      all_goals
        go_wp2
        go_ret
        exact FZ.out
    · have hne : (er != 0) = true := by simpa using he
      go_wp2
      go_ret
      unfold PutPostX
      refine ⟨c, er, _, h', arm', _, S', _, _, ks1, cs1, rfl, K3.out.more (by omega), FR.out, CO.out, C3.out, ?_⟩
      have e1 : (if ((ix, true) : Nat × Bool).2 = true then delN n ((ix, true) : Nat × Bool).1 else n) = (delN n ix) := by first | rfl | simp
      rw [if_neg he, e1]
      exact L3.out
end Tr
end Go.Proofs.YtoifhcmgeackdaaGreatDoor
