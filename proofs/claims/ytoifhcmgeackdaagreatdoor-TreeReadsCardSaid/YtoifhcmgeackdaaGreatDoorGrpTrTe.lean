/-
  Put together: TreeFresh, TreeOne, TreeAwake.
-/
import Derived.Test.YtoifhcmgeackdaaGreatDoorTreeSmall
import Derived.Test.YtoifhcmgeackdaaGreatDoorGrpTrTd
import Derived.Test.YtoifhcmgeackdaaGreatDoorTreeDrop
/-
  fresh, Make: a node on a new page.
-/
namespace Go.Proofs.YtoifhcmgeackdaaGreatDoor
open Go.RowKit
namespace Tr
open Num (hid)
open Mem (Bs bs ptr Chg)
open Sp (Hd)
open Sh (ShL St Two Wf Inv)
open Ch (pV)
open No (N C NAt Nb nV tN gObj Fit okN encN page)
variable {s d N cnt : Nat} {lim : Int} {h : Hd} {arm : Int} {S : St} {w0 w : World} {U F : List Int}
/-- A node on a new page. -/
def FreshPost (s d N cnt : Nat) (lim : Int) (_h : Hd) (arm : Int) (S : St) (U F : List Int) (n : No.N) (w0 w : World) (e : Ending) (w' : World) : Prop :=
  ∃ (p : Int) (h' : Hd) (S' : St) (F' : List Int), e = .returned (.tuple #[.int .i64 p, .int .i64 0]) ∧ ShL s d N (cnt + 6) lim h' arm S' w0 w' ∧ Inv h' S' (U ++ [p]) F' ∧ h'.pages ≤ lim ∧ p ∉ U ∧ 1 ≤ p ∧ p < h'.pages ∧ F'.length = F.length - 1 ∧ (∀ x ∈ U, S'.f x = S.f x) ∧ S'.f p = some (page n) ∧ Chg (Two s d) w w'
set_option maxRecDepth 100000 in
set_option maxHeartbeats 4000000 in
theorem fresh_any (k : ShL s d N cnt lim h arm S w0 w) (ha : arm < 1) (hc : cnt ≤ 20000) (inv : Inv h S U F) (hl : lim ≤ 4096) (hp : h.pages ≤ lim) (hroom : ¬ (F.length = 0 ∧ lim ≤ h.pages)) {ks cs ps : Value} {n : No.N} (hf : Fit n) (hok : okN n = true) (hsz : (encN n).length ≤ 232) (hn : ∀ w1, Chg (Two s d) w w1 → NAt w1 ks cs ps n) :
    Calls Tryz.prog 57 #[pV s, nV n.f ks cs ps] w (FreshPost s d N cnt lim h arm S U F n w0 w) := by
  have HA1 := hid ((Below.refl w.heap.size w).alloc (Nat.le_refl _) (gObj n ks cs ps))
  have hg := Nb.new n.f ks cs ps w
  have HG := hid hg
  have HN := hid hn
  have K1 := hid (k.kept HA1.out)
  have HSD := hid (And.intro k.at'.lt.1 k.at'.lt.2)
  have HT := hid (K1.out.take ha hc inv hl hp hroom)
  have HE := hid (No.encR_good hok (by omega : ¬ 232 < (encN n).length))
  have HPL := hid (No.page_len hsz)
  have HSV := hid (fun (p : Int) (hp : Wf p) (S1 : St) (h1 : Hd) (w1 : World) (kz : ShL s d N (cnt + 3) lim h1 arm S1 w0 w1) (hz : NAt w1 ks cs ps n) => save_any kz ha (by omega) hp hf hz)
  have HL := hid hl
  obtain ⟨a1, c1, a2, c2, a3, c3, rfl, rfl, rfl⟩ := No.nat_slices (hn w (Chg.refl _ _))
  obtain ⟨b0, b1, b2, b3⟩ := hg.cells
  clear k ha hc inv hl hp hroom hf hok hsz hn hg
  unfold nV at *
  go_enter Tryz.func57, Tryz.ntmps57
  go_wp2_with fail
  refine HT.out.mono ?_
  rintro e w2 ⟨p, h', S', F', rfl, k2, inv2, hp2, hnu, h1p, hpp, hfl, hst, hsp, ch2⟩
  have hg2 := ch2.at HG.out (fun e => by
    have h1 := HSD.out
    rcases e with e | e <;> omega)
  have C2 : Hid (Chg (Two s d) w w2) := hid ((Chg.of_below HA1.out).trans ch2)
  have HSS := hid (HSV.out p (Sh.wf_of (by omega) (by have := HL.out; omega)) S' h' w2 k2 (HN.out w2 C2.out))
  have HX := hid (And.intro inv2 (And.intro hp2 (And.intro hnu (And.intro h1p (And.intro hpp (And.intro hfl (And.intro hst hsp)))))))
  clear b0 b1 b2 b3 k2 inv2 hp2 hnu h1p hpp hfl hst hsp ch2 HT
  obtain ⟨b0, b1, b2, b3⟩ := Nb.cells hg2
  clear hg2
  have HM : Hid (saveM S' p n = (0, S'.set p (page n))) := hid (by
    unfold saveM
    rw [HE.out]
    exact Sh.put_yes HX.out.2.2.2.2.2.2.2 HPL.out)
  unfold SavePost at HSS
  rw [HM.out] at HSS
  simp only at HSS
  go_wp2_with fail
  refine HSS.out.mono ?_
  rintro e w3 ⟨rfl, k3, c3⟩
  have K3 := hid k3
  have C3 := hid (C2.out.trans c3)
  clear b0 b1 b2 b3 k3 c3 HSS
  go_wp2
  go_ret2
  obtain ⟨inv2, hp2, hnu, h1p, hpp, hfl, hst, hsp⟩ := HX.out
  refine ⟨p, h', _, F', rfl, K3.out, inv2.put (by simp) _, hp2, hnu, h1p, hpp, hfl, fun x hx => ?_, Sh.set_same _ _ _, C3.out⟩
  rw [Sh.set_other (fun e => hnu (by rw [← e]; exact hx)), hst x hx]
def leaf0 : No.N := ⟨true, [], [], []⟩
set_option maxRecDepth 100000 in
set_option maxHeartbeats 4000000 in
theorem make_any (k : ShL s d N cnt lim h arm S w0 w) (ha : arm < 1) (hc : cnt ≤ 20000) (inv : Inv h S U F) (hl : lim ≤ 4096) (hp : h.pages ≤ lim) (hroom : ¬ (F.length = 0 ∧ lim ≤ h.pages)) :
    Calls Tryz.prog 27 #[pV s] w (FreshPost s d N cnt lim h arm S U F leaf0 w0 w) := by
  have HF := hid (fresh_any (ks := .slice none 0 0) (cs := .slice none 0 0) (ps := .slice none 0 0) (n := leaf0) k ha hc inv hl hp hroom ⟨by decide, by decide⟩ (by decide) (by decide) (fun w1 _ => ⟨No.LAt.nil _ _ _, No.LAt.nil _ _ _, No.LAt.nil _ _ _⟩))
  unfold nV leaf0 at HF
  simp only at HF
  clear k ha hc inv hl hp hroom
  go_enter Tryz.func27, Tryz.ntmps27
  go_wp2_with fail
  refine HF.out.mono ?_
  rintro e w1 ⟨p, h', S', F', rfl, r⟩
  have R := hid r
  clear r HF
  go_wp2
  go_ret2
  exact ⟨p, h', S', F', rfl, R.out⟩
end Tr
end Go.Proofs.YtoifhcmgeackdaaGreatDoor

/-
  A tree of one page, whose values all stand in it: its calls.
-/
namespace Go.Proofs.YtoifhcmgeackdaaGreatDoor
open Go.RowKit
namespace Tr
open Num (hid)
open Mem (Bs bs ptr Chg)
open Sp (Hd)
open Sh (ShL St Two Wf Inv)
open Ch (pV CellOf CellOut Freed valM)
open No (N C findR okN encN page Fit okC)
/-- A leaf that fits on its page, and whose values stand in it. -/
structure Good1 (n : No.N) : Prop where
  f : n.f = true
  ok : okN n = true
  lk : n.ks.length ≤ 100
  ps : n.ps = []
  len : (encN n).length ≤ 232
  inl : ∀ c ∈ n.cs, c = ⟨c.d.length, c.d, 0⟩ ∧ c.d.length ≤ 40
structure One (n : No.N) (h : Hd) (S : St) : Prop where
  inv : Inv h S [1] []
  pg : S.f 1 = some (page n)
  gd : Good1 n
variable {s d N cnt : Nat} {h : Hd} {S : St} {w0 w : World} {n : No.N}
theorem One.load (o : One n h S) : loadM S.f 1 = (n, 0) := by
  have e := No.decR_page o.gd.ok (by have := o.gd.lk; omega) o.gd.len
  rw [load_yes o.pg (by rw [e]), e]
theorem Good1.fit (g : Good1 n) : Fit n ∧ fitsM n = true := by
  refine ⟨⟨by have := g.lk; omega, by rw [g.ps]; exact Nat.zero_le _⟩, ?_⟩
  unfold fitsM No.sizeN
  rw [if_pos g.ok, decide_eq_true (by have := g.lk; omega), decide_eq_true g.len]
  rfl
theorem Good1.cell (g : Good1 n) {f : Ch.Pf} {i : Nat} (hi : i < n.cs.length) : CellOf f n.cs[i] n.cs[i].d [] := by
  obtain ⟨h1, h2⟩ := g.inl _ (List.getElem_mem hi)
  exact ⟨by omega, Or.inl ⟨h2, h1, rfl⟩⟩
theorem Good1.val (g : Good1 n) {f : Ch.Pf} {c : No.C} (hc : c ∈ n.cs) : valM f c = ((c.d, []), 0) := by
  obtain ⟨i, hi, rfl⟩ := List.getElem_of_mem hc
  exact (g.cell hi).val
theorem One.leaf (o : One n h S) (key : Bs) : LeafOk S [1] [] n key :=
  ⟨o.gd.f, o.gd.ok, by have := o.gd.lk; omega, by rw [o.gd.ps]; exact Nat.zero_le _, fun i hi _ _ => ⟨_, o.gd.cell hi⟩, List.nodup_nil, fun x hx => by simp at hx, fun _ => rfl⟩
theorem one_left {h1 : Hd} {S1 : St} {U1 F1 : List Int} (inv : Inv h S [1] []) (fr : Freed h S [1] [] [] ([] : List Int).length h1 S1 U1 F1) : U1 = [1] ∧ F1 = [] ∧ S1.f 1 = S.f 1 ∧ h1.pages = h.pages := by
  have hF : F1 = [] := List.length_eq_zero_iff.1 (by simpa using fr.fl)
  subst hF
  obtain ⟨h2, h3⟩ := fr.st 1 (by simp) (by simp)
  have h4 := fr.inv.pg
  have h5 := inv.pg
  have h6 := fr.pg
  simp only [List.length_nil, List.length_singleton] at h4 h5
  have hl : U1.length = 1 := by omega
  obtain ⟨a, rfl⟩ := List.length_eq_one_iff.1 hl
  have ha : 1 = a := List.mem_singleton.1 h2
  subst ha
  exact ⟨rfl, rfl, h3, h6⟩
/-- Behind a Put: what the node becomes. -/
def put1N (n : No.N) (key v : Bs) : No.N := insN (if (findR n key).2 = true then delN n (findR n key).1 else n) (findR n key).1 key ⟨v.length, v, 0⟩
theorem xp_one {lim : Int} (o : One n h S) {key v : Bs} (hv : v.length ≤ 40) {er : Int} {n' : No.N} {h' : Hd} {arm' : Int} {S' : St} (x : XP lim h 0 S [1] [] [] n key v true er n' h' arm' S') : er = 0 ∧ arm' = 0 ∧ n' = put1N n key v ∧ Inv h' S' [1] [] ∧ S'.f 1 = S.f 1 ∧ h'.pages = h.pages := by
  obtain ⟨-, c, h1, S1, U1, F1, fr, co, rfl⟩ := x
  obtain ⟨rfl, rfl, hs, hp⟩ := one_left o.inv fr
  rcases co with ⟨_, _, h3, _⟩ | ⟨rfl, _, ps, F', hc, hi, hst, hf, hpg, _, ha, _⟩ | ⟨_, _, h3, _⟩ | ⟨_, _, h3, _⟩
  · omega
  · rcases hc with ⟨_, ⟨_, hc, rfl⟩ | ⟨h1, _⟩⟩
    · have hF : F' = [] := List.length_eq_zero_iff.1 (by simpa using hf)
      subst hF
      refine ⟨rfl, ha (by decide), ?_, by simpa using hi, (hst 1 (by simp)).trans hs, by simpa [hp] using hpg⟩
      rw [if_pos rfl, hc]
      rfl
    · omega
  · omega
  · omega
theorem put_one (k : ShL s d N cnt 500 h 0 S w0 w) (hcn : cnt ≤ 9000) (o : One n h S) (key v : Bs) (hk : key.length ≤ 64) (hv : v.length ≤ 40) {n2 : No.N} (hn2 : put1N n key v = n2) (g2 : Good1 n2) :
    Calls Tryz.prog 26 #[pV s, .int .i64 1, .string (bs key), .string (bs v)] w fun e w' => ∃ (h' : Hd) (S' : St), e = .returned (.int .i64 0) ∧ ShL s d N (cnt + 403) 500 h' 0 S' w0 w' ∧ One n2 h' S' ∧ Chg (Two s d) w w' := by
  have hp : h.pages = 2 := by have := o.inv.pg; simpa using this
  refine (put_leaf k hcn (by decide) o.inv (by decide) (by omega) (Sh.wf_of (by decide) (by decide)) o.load key v (o.leaf key) hk (by omega) (fun n' h' arm' S' x => ?_)).mono ?_
  · obtain ⟨_, _, rfl, _⟩ := xp_one o hv x
    rw [hn2]
    exact ⟨g2.fit.2, g2.fit.1⟩
  · rintro e w' ⟨er, n', h', arm', S', x, ch, hh⟩
    obtain ⟨rfl, rfl, rfl, hi, hs, hpp⟩ := xp_one o hv x
    rw [hn2] at hh
    have he := No.encR_good g2.ok (by have := g2.len; omega : ¬ 232 < (encN n2).length)
    have hsv : saveM S' 1 n2 = (0, S'.set 1 (page n2)) := by
      unfold saveM
      rw [he]
      exact Sh.put_yes (hs.trans o.pg) (No.page_len g2.len)
    rw [hsv] at hh
    rcases hh with ⟨h1, _⟩ | ⟨_, rfl, k1⟩
    · exact absurd rfl h1
    · exact ⟨h', _, rfl, k1, ⟨hi.put (by simp) _, Sh.set_same _ _ _, g2⟩, ch⟩
theorem get_one (o : One n h S) (key : Bs) (hc : (findR n key).2 = true → (findR n key).1 < n.cs.length) : getM S.f key 20 1 = if (findR n key).2 = true then (((n.cs.getD (findR n key).1 ⟨0, [], 0⟩).d, true), 0) else (([], false), 0) := by
  have hl := o.load
  unfold getM
  rw [hl]
  simp only [ne_eq, not_true_eq_false, if_false]
  rw [if_pos o.gd.f]
  unfold leafM
  split
  · rename_i hq
    have hi := hc hq
    have hgd : n.cs.getD (findR n key).1 ⟨0, [], 0⟩ = n.cs[(findR n key).1] := by rw [List.getD_eq_getElem?_getD, List.getElem?_eq_getElem hi]; rfl
    rw [hgd, o.gd.val (List.getElem_mem hi)]
    rfl
  · rfl
theorem list_one (o : One n h S) : listM S.f 21 1 = some [1] := by
  have hl := o.load
  unfold listM
  rw [hl]
  simp only [if_true]
  have h1 : cellsM S.f n.cs = some [] := by
    unfold cellsM
    rw [if_pos (fun c hc => by rw [o.gd.val hc])]
    congr 1
    rw [List.flatMap_eq_nil_iff]
    intro c hc
    unfold cellPg
    rw [o.gd.val hc]
  rw [h1, o.gd.ps]
  rfl
end Tr
end Go.Proofs.YtoifhcmgeackdaaGreatDoor

/-
  The statements' own awake answers true.
-/
namespace Go.Proofs.YtoifhcmgeackdaaGreatDoor
open Go.RowKit
namespace Tr
open Num (hid)
open Mem (Bs bs ptr Chg)
open Sp (Hd hV)
open Sh (ShL St Two Wf Inv h1 S0 head_ok Own)
open Ch (pV)
open No (N C findR okN encN page)
def nA : No.N := ⟨true, [[98]], [⟨1, [120], 0⟩], []⟩
def nB : No.N := ⟨true, [[97], [98]], [⟨1, [121], 0⟩, ⟨1, [120], 0⟩], []⟩
def nC : No.N := ⟨true, [[97], [98]], [⟨1, [121], 0⟩, ⟨1, [122], 0⟩], []⟩
theorem g0 : Good1 leaf0 := ⟨rfl, by decide, by decide, rfl, by decide +kernel, fun c hc => by simp [leaf0] at hc⟩
theorem gA : Good1 nA := ⟨rfl, by decide +kernel, by decide, rfl, by decide +kernel, fun c hc => by simp [nA] at hc; subst hc; exact ⟨rfl, by decide⟩⟩
theorem gB : Good1 nB := ⟨rfl, by decide +kernel, by decide, rfl, by decide +kernel, fun c hc => by simp [nB] at hc; rcases hc with rfl | rfl <;> exact ⟨rfl, by decide⟩⟩
theorem gC : Good1 nC := ⟨rfl, by decide +kernel, by decide, rfl, by decide +kernel, fun c hc => by simp [nC] at hc; rcases hc with rfl | rfl <;> exact ⟨rfl, by decide⟩⟩
theorem fA : findR leaf0 [98] = (0, false) := by decide +kernel
theorem fB : findR nA [97] = (0, false) := by decide +kernel
theorem fC : findR nB [98] = (1, true) := by decide +kernel
theorem fD : findR nC [98] = (1, true) := by decide +kernel
theorem fE : findR nC [99] = (2, false) := by decide +kernel
theorem pA : put1N leaf0 [98] [120] = nA := by unfold put1N; rw [fA]; rfl
theorem pB : put1N nA [97] [121] = nB := by unfold put1N; rw [fB]; rfl
theorem pC : put1N nB [98] [122] = nC := by unfold put1N; rw [fC]; rfl
theorem e97 : bs [97] = ⟨#[97]⟩ := rfl
theorem e98 : bs [98] = ⟨#[98]⟩ := rfl
theorem e99 : bs [99] = ⟨#[99]⟩ := rfl
theorem e120 : bs [120] = ⟨#[120]⟩ := rfl
theorem e121 : bs [121] = ⟨#[121]⟩ := rfl
theorem e122 : bs [122] = ⟨#[122]⟩ := rfl
set_option maxRecDepth 100000 in
set_option maxHeartbeats 8000000 in
theorem awake_any (w : World) : Calls Tryz.prog 9 #[] w fun e w' => e = .returned (.bool true) ∧ Below w.heap.size w w' := by
  go_enter Tryz.func9, Tryz.ntmps9
  go_wp2_with fail
  refine (ShL.new 500 (by decide) (by decide) (Below.refl _ _)).mono ?_
  rintro e w1 ⟨s, d, rfl, k1⟩
  have HM := hid (make_any k1 (by decide) (by decide) Sh.inv_new (by decide) (by decide) (fun e => absurd e.2 (by decide)))
  clear k1
  go_wp2_with fail
  refine HM.out.mono ?_
  rintro e w2 ⟨p, h2, S2, F2, rfl, k2, inv2, -, -, hp1, hp2, hfl, -, hpg, -⟩
  have hF2 : F2 = [] := List.length_eq_zero_iff.1 (by simpa using hfl)
  subst hF2
  obtain rfl : p = 1 := by have := inv2.pg; simp at this; omega
  have O2 : Hid (One leaf0 h2 S2) := hid ⟨inv2, hpg, g0⟩
  have HP := hid (put_one k2 (by decide) O2.out [98] [120] (by decide) (by decide) pA gA)
  rw [e98, e120] at HP
  clear k2 inv2 hp1 hp2 hfl hpg HM
  go_wp2_with fail
  refine HP.out.mono ?_
  rintro e w3 ⟨h3, S3, rfl, k3, o3, -⟩
  have HP2 := hid (put_one k3 (by decide) o3 [97] [121] (by decide) (by decide) pB gB)
  rw [e97, e121] at HP2
  clear k3 o3 HP O2
  go_wp2_with fail
  refine HP2.out.mono ?_
  rintro e w4 ⟨h4, S4, rfl, k4, o4, -⟩
  have HP3 := hid (put_one k4 (by decide) o4 [98] [122] (by decide) (by decide) pC gC)
  rw [e98, e122] at HP3
  clear k4 o4 HP2
  go_wp2_with fail
  refine HP3.out.mono ?_
  rintro e w5 ⟨h5, S5, rfl, k5, o5, -⟩
  have O5 := hid o5
  have hge : getM S5.f [98] 20 1 = (([122], true), 0) := by
    rw [get_one o5 [98] (by rw [fD]; decide), fD]
    rfl
  have HG := hid (get_any k5 (by decide) (root := 1) (Sh.wf_of (by decide) (by decide)) [98])
  rw [hge] at HG
  unfold GetPost aV at HG
  simp only at HG
  rw [e98, e122] at HG
  clear k5 o5 hge HP3
  go_wp2_with fail
  refine HG.out.mono ?_
  rintro e w6 ⟨rfl, k6, -⟩
  have HD := hid (del_leaf k6 (by decide) (by decide) O5.out.inv (by have := O5.out.inv.pg; simp at this; omega) (root := 1) (Sh.wf_of (by decide) (by decide)) O5.out.load [99] (O5.out.leaf [99]) (fun n' h' arm' S' x => by
    obtain ⟨_, _, ⟨hq, _⟩ | ⟨_, hq, _⟩⟩ := x
    · cases hq
    · rw [fE] at hq; cases hq))
  rw [e99] at HD
  clear k6 HG
  go_wp2_with fail
  refine HD.out.mono ?_
  rintro e w7 ⟨q, n', h7, arm7, S7, x, -, hh⟩
  obtain ⟨-, rfl, hx⟩ := x
  rw [fE] at hx
  have hx2 : q = false ∧ n' = nC ∧ h7 = h5 ∧ S7 = S5 := by
    rcases hx with ⟨a, -, b, c, d⟩ | ⟨-, hq, -⟩
    · exact ⟨a, b, c, d⟩
    · cases hq
  obtain ⟨rfl, rfl, rfl, rfl⟩ := hx2
  have hh2 : e = .returned (.tuple #[.bool false, .int .i64 0]) ∧ ShL s d w.heap.size (0 + 6 + 403 + 403 + 403 + 203) 500 h7 0 S7 w w7 := by
    rcases hh with ⟨-, a, b⟩ | ⟨hq, -⟩
    · exact ⟨a, b⟩
    · cases hq
  obtain ⟨rfl, k7⟩ := hh2
  clear hx hh
  have HL := hid (list_any k7 (by decide) (list_one O5.out) (by decide) (fun x hx => by rw [List.mem_singleton.1 hx]; exact Sh.wf_of (by decide) (by decide)) (by decide))
  clear k7 HD
  go_wp2_with fail
  refine HL.out.mono ?_
  rintro e w8 ⟨v8, rfl, ow8, -, k8, -⟩
  obtain ⟨ao8, cap8, rfl, hc8⟩ := Ch.own_cell ow8
  obtain ⟨g8, rfl, hg8, -⟩ := hc8 0 (by decide)
  have OW8 := hid ow8
  have K8 := hid k8
  clear hc8 ow8 k8 HL hg8
  obtain ⟨w9, hmk, hcv, hb9⟩ := Part.make_conv w8 65 (by decide) (by decide)
  have hmk2 : (Instr.makeSlice 42 (.int .i64 65) (.int .i64 65)).run Tryz.prog w8 = .ok (.slice (some ⟨w8.heap.size, 0, none⟩) 65 65) w9 := hmk
  have K9 := hid (K8.out.kept hb9)
  have OW9 := hid (OW8.out.on hb9)
  have HPL := hid (put_long (Part.zerosL 65) [] (by decide) s 1 w9)
  have e0 : bs [] = ⟨#[]⟩ := rfl
  have ez : bs (Part.zerosL 65) = Part.zerosS 65 := rfl
  rw [e0, ez] at HPL
  clear hmk hb9 e0 ez
  go_wp2_with fail
  refine HPL.out.mono ?_
  rintro e w10 ⟨rfl, hb10⟩
  have K10 := hid (K9.out.kept hb10)
  have OW10 := hid (OW9.out.on hb10)
  have HDR := hid (drop_any K10.out (by decide) O5.out.inv (by have := O5.out.inv.pg; simp at this; omega) (list_one O5.out) (by decide) (fun x hx => by rw [List.mem_singleton.1 hx]; exact Sh.wf_of (by decide) (by decide)) (by decide) (fun x hx => hx))
  clear hb10 hmk2 hcv HPL
  go_wp2_with fail
  refine HDR.out.mono ?_
  rintro e w11 ⟨h11, S11, U11, F11, rfl, k11, c11, fr⟩
  have hsp : h11.spare = 1 := by rw [fr.inv.sp, fr.fl]; rfl
  have OW11 := OW10.out.turned c11
  have HH := hid (head_ok k11.at'.blk)
  unfold hV at HH
  have F3 := Sh.fld3
  obtain ⟨ao9, cap9, e9, hc9⟩ := Ch.own_cell OW11
  cases e9
  obtain ⟨g9, e10, hg9, hcc⟩ := hc9 0 (by decide)
  cases e10
  have hcc2 : w11.cell? ⟨g8, 0, none⟩ = some (.int .i64 1) := hcc
  have HBE := hid k11.be
  clear fr c11 k11 OW11 hc9 hcc HDR
  go_wp2_with fail
  refine HH.out.mono ?_
  rintro e w12 ⟨rfl, hb12⟩
  have HBF := hid (HBE.out.trans (hb12.mono (by have := HBE.out.size; omega)))
  clear hb12 hcc2
  go_wp2
  go_ret
  exact ⟨rfl, HBF.out⟩
end Tr
end Go.Proofs.YtoifhcmgeackdaaGreatDoor
