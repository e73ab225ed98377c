/-
  Put together: TreePut, TreePutL.
-/
import Derived.Test.YtoifhcmgeackdaaGreatDoorTreeChange
/-
  Put and Del where the root is a leaf, and stays one.
-/
namespace Go.Proofs.YtoifhcmgeackdaaGreatDoor
open Go.RowKit
namespace Tr
open Num (hid)
open Mem (Bs bs ptr Chg)
open Sp (Hd)
open Sh (ShL St Two Inv Wf)
open Ch (pV CellOf CellOut Freed)
open No (N C NOw NAt Nb nV tN tS gObj Fit findR fV okN)
abbrev tPg : TypeId := 87
abbrev tBo : TypeId := 4
/-- What is known behind Put's closure. -/
def XP (lim : Int) (h : Hd) (arm : Int) (S : St) (U F pg : List Int) (n : No.N) (key v : Bs) (q : Bool) (er : Int) (n' : No.N) (h' : Hd) (arm' : Int) (S' : St) : Prop :=
  q = true ∧ ∃ (c : No.C) (h1 : Hd) (S1 : St) (U1 F1 : List Int), Freed h S U F pg pg.length h1 S1 U1 F1 ∧ CellOut v c er lim h1 arm S1 U1 F1 h' arm' S' ∧ n' = (if er = 0 then insN (if (findR n key).2 = true then delN n (findR n key).1 else n) (findR n key).1 key c else (if (findR n key).2 = true then delN n (findR n key).1 else n))
variable {s d N M cnt b hb : Nat} {lim : Int} {h : Hd} {arm : Int} {S : St} {w0 w w1 : World} {U F pg : List Int} {v : Bs} {ks cs ps : Value} {n : No.N}
set_option maxRecDepth 100000 in
set_option maxHeartbeats 4000000 in
theorem put1_any (k : ShL s d N cnt lim h arm S w0 w) (hcn : cnt ≤ 9000) (ha : arm < 1) (inv : Inv h S U F) (hlim : lim ≤ 4096) (hp : h.pages ≤ lim) (L : Lf s d M b ks cs ps n w) (hM : N ≤ M ∧ M ≤ w.heap.size) (hf : n.f = true) (hok : okN n = true) (key v : Bs) (hv : v.length ≤ 5000) (hlen : n.ks.length ≤ 800000) (hps : n.ps.length ≤ 4000)
    (hc : ∀ (i : Nat) (h : i < n.cs.length), (findR n key).2 = true → i = (findR n key).1 → ∃ v0, CellOf S.f n.cs[i] v0 pg) (hnd : pg.Nodup) (hsub : ∀ x ∈ pg, x ∈ U) (hnone : (findR n key).2 = false → pg = [])
    {ga gk gv : Nat} (ba : w.heap[ga]? = some (.cells #[pV s] tPg (0, 0))) (bk : w.heap[gk]? = some (.cells #[.string (bs key)] tS (0, 0))) (bv : w.heap[gv]? = some (.cells #[.string (bs v)] tS (0, 0))) :
    Calls Tryz.prog 65 #[ptr b, ptr ga, ptr gk, ptr gv] w (DoPost (RP s d N (cnt + 400) lim w0 (fun _ _ => True) (XP lim h arm S U F pg n key v)) s d M b hb ks cs ps w) := by
  have HP := hid (putin_any k hcn ha inv hlim hp L hM hf hok key v hv hlen hps hc hnd hsub hnone)
  have c0 := Mem.blk_cell ba 0
  have c1 := Mem.blk_cell bk 0
  have c2 := Mem.blk_cell bv 0
  clear k hcn ha inv hlim hp L hM hf hok hv hlen hps hc hnd hsub hnone ba bk bv
  unfold PutPost PutPostX at HP
  go_enter Tryz.func65, Tryz.ntmps65
  go_wp2_with fail
  refine HP.out.mono ?_
  rintro e w1 ⟨c, er, h1, h', arm', S1, S', U1, F1, ks', cs', rfl, k1, fr, co, cc, lf⟩
  have FR := hid (And.intro k1 (And.intro fr (And.intro co (And.intro cc lf))))
  clear k1 fr co cc lf c0 c1 c2 HP
  go_wp2
  go_ret2
  obtain ⟨k1, fr, co, cc, lf⟩ := FR.out
  unfold DoPost RP XP
  exact ⟨true, er, _, ks', cs', rfl, lf, cc.mono (fun g _ e => Or.inl e), h', arm', S', k1, trivial, rfl, c, h1, S1, U1, F1, fr, co, rfl⟩
/-- What is known behind Del's closure. -/
def XD (h : Hd) (arm : Int) (S : St) (U F pg : List Int) (n : No.N) (key : Bs) (q : Bool) (er : Int) (n' : No.N) (h' : Hd) (arm' : Int) (S' : St) : Prop :=
  er = 0 ∧ arm' = arm ∧ ((q = false ∧ (findR n key).2 = false ∧ n' = n ∧ h' = h ∧ S' = S) ∨ (q = true ∧ (findR n key).2 = true ∧ n' = delN n (findR n key).1 ∧ ∃ (U' F' : List Int), Freed h S U F pg pg.length h' S' U' F'))
set_option maxRecDepth 100000 in
set_option maxHeartbeats 4000000 in
theorem del1_any (k : ShL s d N cnt lim h arm S w0 w) (hcn : cnt ≤ 9000) (ha : arm < 1) (inv : Inv h S U F) (hp : h.pages ≤ 4096) (L : Lf s d M b ks cs ps n w) (hM : N ≤ M ∧ M ≤ w.heap.size) (hf : n.f = true) (hok : okN n = true) (key : Bs) (hlen : n.ks.length ≤ 800000) (hps : n.ps.length ≤ 4000)
    (hc : ∀ (i : Nat) (h : i < n.cs.length), (findR n key).2 = true → i = (findR n key).1 → ∃ v0, CellOf S.f n.cs[i] v0 pg) (hnd : pg.Nodup) (hsub : ∀ x ∈ pg, x ∈ U)
    {ga gk gh : Nat} (ba : w.heap[ga]? = some (.cells #[pV s] tPg (0, 0))) (bk : w.heap[gk]? = some (.cells #[.string (bs key)] tS (0, 0))) (bh : w.heap[gh]? = some (.cells #[.bool false] tBo (0, 0))) (hgh : N ≤ gh ∧ gh < M ∧ gh ≠ s ∧ gh ≠ d) (hga : ga ≠ gh) :
    Calls Tryz.prog 62 #[ptr b, ptr gk, ptr gh, ptr ga] w (DoPost (RP s d N (cnt + 200) lim w0 (fun w q => w.heap[gh]? = some (.cells #[.bool q] tBo (0, 0))) (XD h arm S U F pg n key)) s d M b gh ks cs ps w) := by
  have hcl : n.cs.length = n.ks.length := by
    rcases (No.okN_ways hok).2.2 with ⟨_, h1, _⟩ | ⟨h1, _⟩
    · exact h1
    · rw [hf] at h1; cases h1
  have hx : (findR n key).2 = true → (findR n key).1 < n.ks.length := by
    unfold findR
    rw [if_pos hok]
    intro h
    simp only at h
    unfold No.isAt at h
    simp only [decide_eq_true_eq] at h
    exact (List.getElem?_eq_some_iff.1 h).1
  have HF := hid (fun wx (hx : Below w.heap.size w wx) => No.find_any ks cs ps n key hps (by omega) wx (L.nat.on hx))
  have HK := hid k
  have HL := hid L
  have HBH := hid bh
  have HBA := hid ba
  have HGH := hid hgh
  have HGA := hid hga
  have HT := hid (fun (hq : (findR n key).2 = true) (wz : World) (kz : ShL s d N cnt lim h arm S w0 wz) (Lz : Lf s d M b ks cs ps n wz) (hz : M ≤ wz.heap.size) => by
    have h1 : (findR n key).1 < n.cs.length := by rw [hcl]; exact hx hq
    obtain ⟨v0, hcell⟩ := hc _ h1 hq rfl
    exact takeout_any kz (by omega) ha inv hp Lz ⟨hM.1, hz⟩ (hx hq) h1 hcell hnd hsub)
  have HM := hid hM
  have HBX := hid L.bx
  have c1 := Mem.blk_cell bk 0
  have c1' : w.cell? ⟨gk, 0, none⟩ = some (.string (bs key)) := c1
  have HC1 := hid (And.intro c1' (lt_of_block bk))
  obtain ⟨aok0, capk0, hek0⟩ := own_form L.k
  obtain ⟨aoc0, capc0, hec0⟩ := own_form L.c
  obtain ⟨aop0, capp0, hep0⟩ := own_form L.p
  have HBC : Hid (∀ wx, Below w.heap.size w wx → wx.cell? ⟨b, 0, none⟩ = some (.bool n.f) ∧ wx.cell? ⟨b, 1, none⟩ = some (.slice aok0 n.ks.length capk0) ∧ wx.cell? ⟨b, 2, none⟩ = some (.slice aoc0 n.cs.length capc0) ∧ wx.cell? ⟨b, 3, none⟩ = some (.slice aop0 n.ps.length capp0)) := hid (fun wx hb => by
    have h := (HBX.out.on hb).cells
    rw [hek0, hec0, hep0] at h
    exact h)
  have HFF : Hid (∀ wx, Below w.heap.size w wx → Calls Tryz.prog 63 #[.agg #[.bool n.f, .slice aok0 n.ks.length capk0, .slice aoc0 n.cs.length capc0, .slice aop0 n.ps.length capp0], .string (bs key)] wx fun e w' => e = .returned (fV (findR n key)) ∧ Below wx.heap.size wx w') := hid (fun wx hb => by
    have h := HF.out wx hb
    unfold nV at h
    rw [hek0, hec0, hep0] at h
    exact h)
  unfold fV at HFF
  clear k hcn ha inv hp L hM hf hok hlen hps hc hnd hsub ba bk bh hgh hga hcl hx HF c1 c1' hek0 hec0 hep0
  obtain ⟨Y, hY⟩ : ∃ Y, Y = findR n key := ⟨_, rfl⟩
  have HYE := hid hY
  rw [← hY] at HFF HT
  clear hY
  obtain ⟨ix, q⟩ := Y
  go_enter Tryz.func62, Tryz.ntmps62
  go_wp2_with fail
  refine No.wp_quiet_in (fun wx => Below w.heap.size w wx) (by kernel_rfl) (by kernel_rfl) (Below.refl _ w).drew ?_
  go_big_quiet_want
  go_big_quiet_op
  go_big_quiet_on
  go_big_quiet_want
  go_big_quiet_op
  apply Exists.intro
  refine ⟨fun _ _ => ?_, ?_⟩
  · with_reducible exact Eq.refl _
  go_big_quiet_on
  go_big_quiet_want
  go_big_quiet_op
  refine ⟨.agg #[.bool n.f, .slice aok0 n.ks.length capk0, .slice aoc0 n.cs.length capc0, .slice aop0 n.ps.length capp0], fun wx hx => ?_, ?_⟩
  · have c := HBC.out wx hx
    simp [go_sem, c]
  go_big_quiet_on
  go_big_quiet_want
  go_big_quiet_op
  refine ⟨.string (bs key), fun wx hx => ?_, ?_⟩
  · have c := (hx.cell (p := ⟨gk, 0, none⟩) HC1.out.2).trans HC1.out.1
    simp [go_sem, c]
  go_big_quiet_on
  go_big_quiet_want
  go_big_quiet_op
  refine ⟨.tuple #[.int .i64 (ix : Nat), .bool q], fun wx hx => ?_, ?_⟩
  · refine (HFF.out wx hx).mono ?_
    rintro e w9 ⟨rfl, hb9⟩
    exact ⟨rfl, hx.trans (hb9.mono hx.size)⟩
  go_big_quiet_on
  go_big_quiet_want
  go_big_quiet_op
  go_big_quiet_on
  go_big_quiet_want
  go_big_quiet_op
  apply Exists.intro
  refine ⟨fun _ _ => ?_, ?_⟩
  · with_reducible exact Eq.refl _
  go_big_quiet_on
  go_big_quiet_want
  go_big_quiet_op
  apply Exists.intro
  refine ⟨fun _ _ => ?_, ?_⟩
  · with_reducible exact Eq.refl _
  go_big_quiet_on
  go_big_quiet_want
  go_big_quiet_op
  go_big_quiet_on
  go_big_quiet_want
  go_big_quiet_op
  go_big_quiet_on
  refine wpQuiet_nil ?_
  intro w2 hq
  have KQ := hid (HK.out.kept hq)
  have LQ := hid (HL.out.on hq)
  have BHQ := hid ((hq.block _ (lt_of_block HBH.out)).trans HBH.out)
  have BAQ := hid ((hq.block _ (lt_of_block HBA.out)).trans HBA.out)
  have BQ := hid hq
  cases q with
  | false =>
    clear hq
    go_wp2
    go_ret2
    unfold DoPost RP XD
    rw [← HYE.out]
    exact ⟨false, 0, n, ks, cs, rfl, LQ.out, Chg.of_below BQ.out, h, arm, S, KQ.out.more (by omega), BHQ.out, rfl, rfl, Or.inl ⟨rfl, rfl, rfl, rfl, rfl⟩⟩
  | true =>
    have h0 := Mem.blk_cell BHQ.out 0
    have f0 := Mem.blk_free BHQ.out 0
    have hlh := lt_of_block BHQ.out
    have a0 := Mem.blk_cell (Mem.blk_other BAQ.out (p := ⟨gh, 0, none⟩) HGA.out (.bool true)) 0
    have hch : Chg (· = gh) w2 (w2.setCell ⟨gh, 0, none⟩ (.bool true)) := (Chg.refl _ _).root 0 _
    have B3 : Hid ((w2.setCell ⟨gh, 0, none⟩ (.bool true)).heap[gh]? = some (.cells #[.bool true] tBo (0, 0))) := hid (Mem.blk_set BHQ.out 0 (.bool true))
    have K3 := hid (KQ.out.beside hch (fun g e => by rw [e]; exact ⟨HGH.out.1, HGH.out.2.2⟩))
    have L3 := hid (LQ.out.apart hch (fun g e => by
      have e2 : g = gh := e
      have h1 := HGH.out.2.1
      have h2 := LQ.out.bb.1
      refine ⟨by omega, fun h => ?_, fun h => ?_, fun h => ?_⟩
      · have := (LQ.out.rk _ h).1; omega
      · have := (LQ.out.rc _ h).1; omega
      · have := (LQ.out.rp _ h).1; omega))
    have C3 : Hid (Chg (fun g => LfF s d b ks cs ps g ∨ g = gh) w (w2.setCell ⟨gh, 0, none⟩ (.bool true))) := hid ((Chg.of_below (F := fun g => LfF s d b ks cs ps g ∨ g = gh) BQ.out).trans (hch.mono (fun g _ e => Or.inr e)))
    have HTT := hid (HT.out rfl _ K3.out L3.out (Nat.le_trans HM.out.2 C3.out.size))
    clear hq hch
    go_upto_region 5 with fail
    generalize w2.setCell ⟨gh, 0, none⟩ (.bool true) = w3 at *
    go_wp2_with fail
    refine HTT.out.mono ?_
    rintro e w4 ⟨h', S', U', F', ks', cs', rfl, k4, fr, l4, c4, -, -⟩
    have FR := hid (And.intro k4 (And.intro fr (And.intro l4 c4)))
    have B4 := hid (c4.at B3.out (fun e => by
      have h1 := HGH.out
      rcases e with (e | e) | e | e | e | e
      · exact h1.2.2.1 e
      · exact h1.2.2.2 e
      · have := L3.out.bb.1; omega
      · have := (L3.out.rk _ e).1; omega
      · have := (L3.out.rc _ e).1; omega
      · have := (L3.out.rp _ e).1; omega))
    clear k4 fr l4 c4 h0 f0 hlh a0 HTT
    go_wp2
    go_ret2
    obtain ⟨k4, fr, l4, c4⟩ := FR.out
    unfold DoPost RP XD
    rw [← HYE.out]
    exact ⟨true, 0, delN n ix, ks', cs', rfl, l4, C3.out.trans (c4.mono (fun g _ e => Or.inl e)), h', arm, S', k4, B4.out, rfl, rfl, Or.inr ⟨rfl, rfl, rfl, U', F', fr⟩⟩
end Tr
end Go.Proofs.YtoifhcmgeackdaaGreatDoor

/-
  Put and Del where the root is a leaf, and stays one: the calls.
-/
namespace Go.Proofs.YtoifhcmgeackdaaGreatDoor
open Go.RowKit
namespace Tr
open Num (hid)
open Mem (Bs bs ptr Chg)
open Sp (Hd)
open Sh (ShL St Two Inv Wf)
open Ch (pV CellOf CellOut Freed)
open No (N C NOw NAt Nb nV tN tS gObj Fit findR fV okN)
theorem xp_ok {lim : Int} {h : Hd} {arm : Int} {S : St} {U F pg : List Int} {n : No.N} {key v : Bs} {n' : No.N} {h' : Hd} {arm' : Int} {S' : St} (ha : arm < 1) (x : XP lim h arm S U F pg n key v true 0 n' h' arm' S') : n'.f = n.f ∧ arm' = arm := by
  obtain ⟨-, c, h1, S1, U1, F1, fr, co, rfl⟩ := x
  constructor
  · rw [if_pos rfl]
    unfold insN
    show (if _ then delN n _ else n).f = _
    split <;> rfl
  · rcases co with ⟨e, _⟩ | ⟨_, _, ps, F', _, _, _, _, _, _, h7, _⟩ | ⟨e, _⟩ | ⟨e, _⟩
    · cases e
    · exact h7 ha
    · cases e
    · cases e
/-- What the calls ask of a leaf. -/
structure LeafOk (S : St) (U pg : List Int) (n : No.N) (key : Bs) : Prop where
  f : n.f = true
  ok : okN n = true
  lk : n.ks.length ≤ 800000
  lp : n.ps.length ≤ 4000
  hc : ∀ (i : Nat) (h : i < n.cs.length), (findR n key).2 = true → i = (findR n key).1 → ∃ v0, CellOf S.f n.cs[i] v0 pg
  nd : pg.Nodup
  sub : ∀ x ∈ pg, x ∈ U
  none : (findR n key).2 = false → pg = []
def PutLeaf (s d N cnt : Nat) (lim : Int) (h : Hd) (arm : Int) (S : St) (U F pg : List Int) (root : Int) (n : No.N) (key v : Bs) (w0 w : World) (e : Ending) (w' : World) : Prop :=
  ∃ (er : Int) (n' : No.N) (h' : Hd) (arm' : Int) (S' : St), XP lim h arm S U F pg n key v true er n' h' arm' S' ∧ Chg (Two s d) w w' ∧
    ((er ≠ 0 ∧ e = .returned (.int .i64 er) ∧ ShL s d N (cnt + 403) lim h' arm' S' w0 w') ∨ (er = 0 ∧ e = .returned (.int .i64 (saveM S' root n').1) ∧ ShL s d N (cnt + 403) lim h' arm' (saveM S' root n').2 w0 w'))
abbrev pO (s : Nat) : Obj := .cells #[pV s] tPg
abbrev sO (x : Bs) : Obj := .cells #[.string (bs x)] tS
abbrev bO (q : Bool) : Obj := .cells #[.bool q] tBo
variable {s d N cnt : Nat} {lim : Int} {h : Hd} {arm : Int} {S : St} {w0 w : World} {U F pg : List Int} {n : No.N}
theorem size3 (w : World) (a b c : Obj) : (((w.alloc a).alloc b).alloc c).heap.size = w.heap.size + 3 := by simp
theorem blks3 (w : World) (a b c : Obj) : (((w.alloc a).alloc b).alloc c).heap[w.heap.size]? = some a ∧ (((w.alloc a).alloc b).alloc c).heap[w.heap.size + 1]? = some b ∧ (((w.alloc a).alloc b).alloc c).heap[w.heap.size + 2]? = some c := by
  have e1 : (w.alloc a).heap.size = w.heap.size + 1 := by simp
  have e2 : ((w.alloc a).alloc b).heap.size = w.heap.size + 2 := by simp
  refine ⟨Mem.blk_alloc (Mem.blk_alloc (Mem.blk_new w a) b) c, ?_, ?_⟩
  · rw [← e1]; exact Mem.blk_alloc (Mem.blk_new (w.alloc a) b) c
  · rw [← e2]; exact Mem.blk_new ((w.alloc a).alloc b) c
theorem below3 (w : World) (a b c : Obj) : Below w.heap.size w (((w.alloc a).alloc b).alloc c) :=
  (((Below.refl _ _).alloc (Nat.le_refl _) _).alloc (by simp) _).alloc (by simp; omega) _
set_option maxRecDepth 100000 in
set_option maxHeartbeats 4000000 in
theorem put_leaf (k : ShL s d N cnt lim h arm S w0 w) (hcn : cnt ≤ 9000) (ha : arm < 1) (inv : Inv h S U F) (hlim : lim ≤ 4096) (hp : h.pages ≤ lim) {root : Int} (hr : Wf root) (hl : loadM S.f root = (n, 0)) (key v : Bs) (lo : LeafOk S U pg n key) (hk : key.length ≤ 64) (hv : v.length ≤ 5000)
    (HFIT : ∀ n' h' arm' S', XP lim h arm S U F pg n key v true 0 n' h' arm' S' → fitsM n' = true ∧ Fit n') :
    Calls Tryz.prog 26 #[pV s, .int .i64 root, .string (bs key), .string (bs v)] w (PutLeaf s d N cnt lim h arm S U F pg root n key v w0 w) := by
  have hb3 := below3 w (pO s) (sO key) (sO v)
  obtain ⟨x0, x1, x2⟩ := blks3 w (pO s) (sO key) (sO v)
  have hz := size3 w (pO s) (sO key) (sO v)
  have k3 := k.kept hb3
  have hs := k.at'.lt
  have hN := k.size
  have HC := hid (change_put (cnt' := cnt + 400) (hb := s) (G := fun _ _ => True) (X := XP lim h arm S U F pg n key v) k3 ha hr key hl lo.f w.heap.size (w.heap.size + 1) (w.heap.size + 2) (by rw [hz]; omega) (by omega)
    (fun w1 b ks cs ps hb h1 L => put1_any (k3.kept hb) hcn ha inv hlim hp L ⟨by rw [hz]; omega, h1⟩ lo.f lo.ok key v hv lo.lk lo.lp lo.hc lo.nd lo.sub lo.none ((hb.block _ (lt_of_block x0)).trans x0) ((hb.block _ (lt_of_block x1)).trans x1) ((hb.block _ (lt_of_block x2)).trans x2))
    (fun _ _ _ _ _ _ _ => trivial)
    (fun n' h' arm' S' x => by
      obtain ⟨y1, y2⟩ := xp_ok ha x
      obtain ⟨y3, y4⟩ := HFIT n' h' arm' S' x
      exact ⟨by rw [y1]; exact lo.f, y3, by rw [y2]; exact ha, y4⟩))
  have HB := hid hb3
  have c0 := Mem.blk_cell x0 0
  have c1 := Mem.blk_cell x1 0
  have c2 := Mem.blk_cell x2 0
  have hk2 : ¬ (64 : Int) < ((bs key).size : Int) := by rw [Sp.bs_size]; omega
  have hv2 : ¬ (5000 : Int) < ((bs v).size : Int) := by rw [Sp.bs_size]; omega
  clear k hcn ha inv hlim hp hr hl lo hk hv HFIT hb3 x0 x1 x2 hz k3 hs hN
  go_enter Tryz.func26, Tryz.ntmps26
  go_wp2_with fail
  refine HC.out.mono ?_
  rintro e w1 ⟨q, er, n', h', arm', S', x, -, ch, hh⟩
  have hq : q = true := x.1
  subst hq
  have HXC := hid (And.intro x ((Chg.of_below (F := Two s d) HB.out).trans (ch.mono (fun g _ e => by rcases e with e | e; exact e; exact Or.inl e))))
  clear x ch c0 c1 c2 HC
  rcases hh with ⟨h1, rfl, h3⟩ | ⟨h1, -, rfl, h3⟩
  · have h1' : er ≠ 0 := fun e => h1 ⟨e, rfl⟩
    have HH := hid (And.intro h1' h3)
    clear h1 h3 h1'
    go_wp2
    go_ret
    unfold PutLeaf
    exact ⟨er, n', h', arm', S', HXC.out.1, HXC.out.2, Or.inl ⟨HH.out.1, rfl, HH.out.2⟩⟩
  · have HH := hid (And.intro h1 h3)
    clear h1 h3
    go_wp2
    go_ret
    unfold PutLeaf
    exact ⟨er, n', h', arm', S', HXC.out.1, HXC.out.2, Or.inr ⟨HH.out.1, rfl, HH.out.2⟩⟩
set_option maxRecDepth 100000 in
theorem put_long (key v : Bs) (hk : 64 < key.length) (s : Nat) (root : Int) (w : World) : Calls Tryz.prog 26 #[pV s, .int .i64 root, .string (bs key), .string (bs v)] w fun e w' => e = .returned (.int .i64 1) ∧ Below w.heap.size w w' := by
  have HB := hid (below3 w (pO s) (sO key) (sO v))
  have x1 := (blks3 w (pO s) (sO key) (sO v)).2.1
  have c1 := Mem.blk_cell x1 0
  have hk2 : (64 : Int) < ((bs key).size : Int) := by rw [Sp.bs_size]; omega
  clear x1
  go_enter Tryz.func26, Tryz.ntmps26
  go_wp2
  go_ret
  exact ⟨rfl, HB.out⟩
def DelLeaf (s d N cnt : Nat) (lim : Int) (h : Hd) (arm : Int) (S : St) (U F pg : List Int) (root : Int) (n : No.N) (key : Bs) (w0 w : World) (e : Ending) (w' : World) : Prop :=
  ∃ (q : Bool) (n' : No.N) (h' : Hd) (arm' : Int) (S' : St), XD h arm S U F pg n key q 0 n' h' arm' S' ∧ Chg (Two s d) w w' ∧
    ((q = false ∧ e = .returned (.tuple #[.bool false, .int .i64 0]) ∧ ShL s d N (cnt + 203) lim h' arm' S' w0 w') ∨ (q = true ∧ e = .returned (.tuple #[.bool (decide ((saveM S' root n').1 = 0)), .int .i64 (saveM S' root n').1]) ∧ ShL s d N (cnt + 203) lim h' arm' (saveM S' root n').2 w0 w'))
theorem xd_ok {h : Hd} {arm : Int} {S : St} {U F pg : List Int} {n : No.N} {key : Bs} {q : Bool} {er : Int} {n' : No.N} {h' : Hd} {arm' : Int} {S' : St} (x : XD h arm S U F pg n key q er n' h' arm' S') : n'.f = n.f ∧ arm' = arm ∧ er = 0 := by
  obtain ⟨h1, h2, ⟨_, _, rfl, _⟩ | ⟨_, _, rfl, _⟩⟩ := x
  · exact ⟨rfl, h2, h1⟩
  · exact ⟨rfl, h2, h1⟩
set_option maxRecDepth 100000 in
set_option maxHeartbeats 4000000 in
theorem del_leaf (k : ShL s d N cnt lim h arm S w0 w) (hcn : cnt ≤ 9000) (ha : arm < 1) (inv : Inv h S U F) (hp : h.pages ≤ 4096) {root : Int} (hr : Wf root) (hl : loadM S.f root = (n, 0)) (key : Bs) (lo : LeafOk S U pg n key)
    (HFIT : ∀ n' h' arm' S', XD h arm S U F pg n key true 0 n' h' arm' S' → fitsM n' = true ∧ Fit n') :
    Calls Tryz.prog 25 #[pV s, .int .i64 root, .string (bs key)] w (DelLeaf s d N cnt lim h arm S U F pg root n key w0 w) := by
  have hb3 := below3 w (pO s) (sO key) (bO false)
  obtain ⟨x0, x1, x2⟩ := blks3 w (pO s) (sO key) (bO false)
  have hz := size3 w (pO s) (sO key) (bO false)
  have k3 := k.kept hb3
  have hs := k.at'.lt
  have hN := k.size
  have HC := hid (change_del (cnt' := cnt + 200) (hb := w.heap.size + 2) (G := fun wx q => wx.heap[w.heap.size + 2]? = some (.cells #[.bool q] tBo (0, 0))) (X := XD h arm S U F pg n key) k3 ha hr key hl lo.f (w.heap.size + 1) (w.heap.size + 2) w.heap.size (by rw [hz]; omega) (by omega)
    (fun w1 b ks cs ps hb h1 L => del1_any (k3.kept hb) hcn ha inv hp L ⟨by rw [hz]; omega, h1⟩ lo.f lo.ok key lo.lk lo.lp lo.hc lo.nd lo.sub ((hb.block _ (lt_of_block x0)).trans x0) ((hb.block _ (lt_of_block x1)).trans x1) ((hb.block _ (lt_of_block x2)).trans x2) ⟨by omega, by rw [hz]; omega, by omega, by omega⟩ (by omega))
    (fun q w1 w2 F' g1 c hF => c.at g1 (fun e => by
      have := hF _ e
      rw [hz] at this
      rcases this with (e2 | e2) | e2 <;> omega))
    (fun n' h' arm' S' x => by
      obtain ⟨y1, y2, -⟩ := xd_ok x
      obtain ⟨y3, y4⟩ := HFIT n' h' arm' S' x
      exact ⟨by rw [y1]; exact lo.f, y3, by rw [y2]; exact ha, y4⟩))
  have HB := hid hb3
  have c0 := Mem.blk_cell x0 0
  have c1 := Mem.blk_cell x1 0
  clear k hcn ha inv hp hr hl lo HFIT hb3 x0 x1 x2 k3 hs hN
  go_enter Tryz.func25, Tryz.ntmps25
  go_wp2_with fail
  refine HC.out.mono ?_
  rintro e w1 ⟨q, er, n', h', arm', S', x, g1, ch, hh⟩
  obtain rfl : er = 0 := (xd_ok x).2.2
  have HXC := hid (And.intro x ((Chg.of_below (F := fun g => Two s d g ∨ w.heap.size ≤ g) HB.out).then (G := fun g => Two s d g ∨ g = w.heap.size + 2) ch (fun i _ e => by rcases e with e | e; exact Or.inr (Or.inl e); exact Or.inl (by omega))))
  have HCC : Hid (Chg (Two s d) w w1) := hid ((Chg.of_below (F := Two s d) HB.out).then ch (fun i _ e => by rcases e with e | e; exact Or.inr e; exact Or.inl (by omega)))
  have e0 := Mem.blk_cell g1 0
  have hlb := lt_of_block g1
  clear x ch c0 c1 HC g1
  cases q with
  | false =>
    rcases hh with ⟨-, rfl, h3⟩ | ⟨-, h2, -⟩
    · have HH := hid h3
      clear h3
      go_wp2
      go_ret2
      unfold DelLeaf
      exact ⟨false, n', h', arm', S', HXC.out.1, HCC.out, Or.inl ⟨rfl, rfl, HH.out⟩⟩
    · cases h2
  | true =>
    rcases hh with ⟨h1, -⟩ | ⟨-, -, rfl, h3⟩
    · exact absurd ⟨rfl, rfl⟩ h1
    · have HH := hid h3
      clear h3
      have HPO : Hid (∀ e, e = .returned (.tuple #[.bool (decide ((saveM S' root n').1 = 0)), .int .i64 (saveM S' root n').1]) → DelLeaf s d N cnt lim h arm S U F pg root n key w0 w e w1) := hid (fun e he => by
        unfold DelLeaf
        exact ⟨true, n', h', arm', S', HXC.out.1, HCC.out, Or.inr ⟨rfl, he, HH.out⟩⟩)
      clear HH
      generalize (saveM S' root n').1 = z at *
      by_cases hz0 : z = 0
      · subst hz0
        go_wp2
        go_ret2
        exact HPO.out _ rfl
      · have hne : (z == 0) = false := by simpa using hz0
        have hne2 : (z != 0) = true := by simpa using hz0
        rw [decide_eq_false hz0] at HPO
        go_wp2
        go_ret2
        exact HPO.out _ rfl
end Tr
end Go.Proofs.YtoifhcmgeackdaaGreatDoor
