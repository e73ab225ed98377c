/-
  Nodes of a tree on a shelf of the call's own: save, fits, way, valueIn.
-/
import Derived.Test.YtoifhcmgeackdaaGreatDoorTreeLoad
import Derived.Test.YtoifhcmgeackdaaGreatDoorGrpTrChC
namespace Go.Proofs.YtoifhcmgeackdaaGreatDoor
open Go.RowKit
namespace Tr
open Num (hid)
open Mem (Bs bs ptr Chg)
open Sp (Hd)
open Sh (ShL St Two Wf Small)
open Ch (pV valM)
open No (N C NOw NAt Nb noN nV nilV decR encR sizeN okN findR fV tN noObj gObj put4 Fit fi isAt)
/-- What save does. -/
def saveM (S : St) (p : Int) (n : N) : Int × St := if (encR n).e = 0 then S.put p (encR n).s else (30, S)
theorem put_small {S : St} {c : Nat} (h : Small c S) (p : Int) (x : Bs) : Small (c + 3) (S.put p x).2 := by
  unfold Sh.St.put
  unfold Small at *
  split
  · split
    · show S.n ≤ _; omega
    · show S.n + 1 ≤ _; omega
  · show S.n ≤ _; omega
variable {s d N cnt : Nat} {lim : Int} {h : Hd} {arm : Int} {S : St} {w0 w : World}
def SavePost (s d N cnt : Nat) (lim : Int) (h : Hd) (arm : Int) (S : St) (w0 w : World) (p : Int) (n : No.N) (e : Ending) (w' : World) : Prop :=
  e = .returned (.int .i64 (saveM S p n).1) ∧ ShL s d N (cnt + 3) lim h arm (saveM S p n).2 w0 w' ∧ Chg (Two s d) w w'
set_option maxRecDepth 100000 in
set_option maxHeartbeats 4000000 in
theorem save_any (k : ShL s d N cnt lim h arm S w0 w) (ha : arm < 1) (hc : cnt ≤ 40000) {p : Int} (hp : Wf p) {ks cs ps : Value} {n : No.N} (hf : Fit n) (hn : NAt w ks cs ps n) :
    Calls Tryz.prog 96 #[pV s, .int .i64 p, nV n.f ks cs ps] w (SavePost s d N cnt lim h arm S w0 w p n) := by
  have K := hid k
  have HA1 := hid ((Below.refl w.heap.size w).alloc (Nat.le_refl _) (gObj n ks cs ps))
  have hg := Nb.new n.f ks cs ps w
  have HE := hid (No.encode_any ks cs ps n hf _ (hn.on HA1.out))
  have HP := hid (fun (w2 : World) (kz : ShL s d N cnt lim h arm S w0 w2) => Sh.put_ok kz.at' ha kz.sm (by omega) hp (encR n).s)
  have HS := hid (put_small k.sm p (encR n).s)
  have HM : Hid (saveM S p n = if (encR n).e = 0 then S.put p (encR n).s else (30, S)) := hid rfl
  obtain ⟨a1, c1, a2, c2, a3, c3, rfl, rfl, rfl⟩ := No.nat_slices hn
  unfold No.sV2 at HE
  obtain ⟨b0, b1, b2, b3⟩ := hg.cells
  clear k ha hc hp hf hn hg
  unfold nV at *
  generalize encR n = X at *
  by_cases hde : X.e = 0
  · rw [if_pos hde] at HM
    go_enter Tryz.func96, Tryz.ntmps96
    go_wp2_with fail
    refine HE.out.mono ?_
    rintro e w2 ⟨rfl, hb⟩
    have HB := hid (HA1.out.trans (hb.mono HA1.out.size))
    have HPO := hid (HP.out w2 (K.out.kept HB.out))
    clear hb b0 b1 b2 b3
    go_wp2_with fail
    refine HPO.out.mono ?_
    rintro e w3 ⟨rfl, hA, hC⟩
    have K3 := hid ((K.out.kept HB.out).turned hA hC HS.out)
    have C3 := hid ((Chg.of_below (F := Two s d) HB.out).trans hC)
    clear hA hC
    go_wp2
    go_ret
    unfold SavePost
    rw [HM.out]
    exact ⟨rfl, K3.out, C3.out⟩
  · rw [if_neg hde] at HM
    have hne : (X.e == 0) = false := by simpa using hde
    have hne2 : (X.e != 0) = true := by simpa using hde
    go_enter Tryz.func96, Tryz.ntmps96
    go_wp2_with fail
    refine HE.out.mono ?_
    rintro e w2 ⟨rfl, hb⟩
    have HB := hid (HA1.out.trans (hb.mono HA1.out.size))
    clear hb b0 b1 b2 b3
    go_wp2
    go_ret
    unfold SavePost
    rw [HM.out]
    exact ⟨rfl, (K.out.kept HB.out).more (by omega), Chg.of_below HB.out⟩
/-! ### fits -/
def fitsM (n : No.N) : Bool := decide (n.ks.length < 232) && decide (sizeN n ≤ 232)
set_option maxRecDepth 100000 in
set_option maxHeartbeats 4000000 in
theorem fits_any {ks cs ps : Value} {n : No.N} (hl : n.ks.length ≤ 1000000) (hp : n.ps.length ≤ 1000 ∨ 232 ≤ n.ks.length) (hn : NAt w ks cs ps n) :
    Calls Tryz.prog 54 #[nV n.f ks cs ps] w fun e w' => e = .returned (.bool (fitsM n)) ∧ Below w.heap.size w w' := by
  have HA1 := hid ((Below.refl w.heap.size w).alloc (Nat.le_refl _) (gObj n ks cs ps))
  have hg := Nb.new n.f ks cs ps w
  have HS := hid (fun (hf : Fit n) => No.size_any ks cs ps n hf _ (hn.on HA1.out))
  obtain ⟨a1, c1, a2, c2, a3, c3, rfl, rfl, rfl⟩ := No.nat_slices hn
  obtain ⟨b0, b1, b2, b3⟩ := hg.cells
  unfold fitsM nV at *
  by_cases hk : n.ks.length < 232
  · have HS1 := hid (HS.out ⟨by omega, by omega⟩)
    have hk2 : (n.ks.length : Int) < 232 := by omega
    rw [decide_eq_true hk, Bool.true_and]
    have HZ : Hid (decide (sizeN n ≤ 232) = decide ((sizeN n : Int) ≤ 232)) := hid (by by_cases h : sizeN n ≤ 232 <;> simp [h] <;> omega)
    rw [HZ.out]
    clear HS hl hp hn hg HZ
    generalize sizeN n = z at *
    generalize n.ks.length = j at *
    go_enter Tryz.func54, Tryz.ntmps54
    go_wp2_with fail
    refine HS1.out.mono ?_
    rintro e w2 ⟨rfl, hb⟩
    have HB := hid (HA1.out.trans (hb.mono HA1.out.size))
    clear hb b0 b1 b2 b3
    go_wp2
    go_ret
    exact ⟨rfl, HB.out⟩
  · have hk2 : ¬ (n.ks.length : Int) < 232 := by omega
    rw [decide_eq_false hk, Bool.false_and]
    clear HS hl hp hn hg
    generalize n.ks.length = j at *
    go_enter Tryz.func54, Tryz.ntmps54
    go_wp2
    go_ret
    exact ⟨rfl, HA1.out⟩
/-! ### way -/
def wayM (n : No.N) (key : Bs) : Nat := (findR n key).1 + if (findR n key).2 then 1 else 0
set_option maxRecDepth 100000 in
set_option maxHeartbeats 4000000 in
theorem way_any {ks cs ps : Value} {n : No.N} (key : Bs) (hl : n.ks.length ≤ 1000000) (hp : n.ps.length ≤ 4000) (hn : NAt w ks cs ps n) :
    Calls Tryz.prog 44 #[nV n.f ks cs ps, .string (bs key)] w fun e w' => e = .returned (.int .i64 (wayM n key : Nat)) ∧ Below w.heap.size w w' := by
  have HA1 := hid ((Below.refl w.heap.size w).alloc (Nat.le_refl _) (gObj n ks cs ps))
  have hg := Nb.new n.f ks cs ps w
  have HF := hid (No.find_any ks cs ps n key hp hl _ (hn.on HA1.out))
  have hx : (findR n key).1 ≤ 1000000 := by
    unfold findR
    split
    · exact Nat.le_trans (No.fi_le _ _) hl
    · exact Nat.zero_le _
  obtain ⟨a1, c1, a2, c2, a3, c3, rfl, rfl, rfl⟩ := No.nat_slices hn
  obtain ⟨b0, b1, b2, b3⟩ := hg.cells
  unfold wayM fV nV at *
  generalize findR n key = X at *
  obtain ⟨i, q⟩ := X
  clear hl hp hn hg
  cases q with
  | true =>
    go_enter Tryz.func44, Tryz.ntmps44
    go_wp2_with fail
    refine HF.out.mono ?_
    rintro e w2 ⟨rfl, hb⟩
    have HB := hid (HA1.out.trans (hb.mono HA1.out.size))
    clear hb b0 b1 b2 b3
    go_wp2
    go_ret
    exact ⟨by simp, HB.out⟩
  | false =>
    go_enter Tryz.func44, Tryz.ntmps44
    go_wp2_with fail
    refine HF.out.mono ?_
    rintro e w2 ⟨rfl, hb⟩
    have HB := hid (HA1.out.trans (hb.mono HA1.out.size))
    clear hb b0 b1 b2 b3
    go_wp2
    go_ret
    exact ⟨by simp, HB.out⟩
/-! ### valueIn -/
/-- A key's value in a leaf, and whether there is one, and the error. -/
def leafM (f : Ch.Pf) (n : No.N) (key : Bs) : (Bs × Bool) × Int :=
  if (findR n key).2 then (((valM f (n.cs.getD (findR n key).1 ⟨0, [], 0⟩)).1.1, decide ((valM f (n.cs.getD (findR n key).1 ⟨0, [], 0⟩)).2 = 0)), (valM f (n.cs.getD (findR n key).1 ⟨0, [], 0⟩)).2) else (([], false), 0)
def aV (x : (Bs × Bool) × Int) : Value := .tuple #[.string (bs x.1.1), .bool x.1.2, .int .i64 x.2]
def GetPost (s d N cnt : Nat) (lim : Int) (h : Hd) (arm : Int) (S : St) (w0 w : World) (x : (Bs × Bool) × Int) (e : Ending) (w' : World) : Prop :=
  e = .returned (aV x) ∧ ShL s d N cnt lim h arm S w0 w' ∧ Chg (Two s d) w w'
set_option maxRecDepth 100000 in
set_option maxHeartbeats 4000000 in
theorem valuein_any (k : ShL s d N cnt lim h arm S w0 w) (ha : arm < 1) {ks cs ps : Value} {n : No.N} (key : Bs) (hl : n.ks.length ≤ 1000000) (hp : n.ps.length ≤ 4000) (hcl : okN n = true → n.cs.length = n.ks.length) (hn : NAt w ks cs ps n) :
    Calls Tryz.prog 43 #[pV s, nV n.f ks cs ps, .string (bs key)] w (GetPost s d N cnt lim h arm S w0 w (leafM S.f n key)) := by
  have K := hid k
  have HA1 := hid ((Below.refl w.heap.size w).alloc (Nat.le_refl _) (gObj n ks cs ps))
  have hg := Nb.new n.f ks cs ps w
  have HG := hid hg
  have HF := hid (No.find_any ks cs ps n key hp hl _ (hn.on HA1.out))
  have HN := hid (hn.on HA1.out)
  have HV := hid (fun (w2 : World) (kz : ShL s d N cnt lim h arm S w0 w2) (c : No.C) => Ch.value_any kz (by omega) c)
  have HX : Hid ((findR n key).2 = true → (findR n key).1 < n.cs.length) := hid (by
    intro hx
    unfold findR at hx ⊢
    split at hx
    · rename_i hok
      rw [if_pos hok, hcl hok]
      unfold isAt at hx
      simp only [decide_eq_true_eq] at hx
      exact (List.getElem?_eq_some_iff.1 hx).1
    · cases hx)
  have HM : Hid (leafM S.f n key = if (findR n key).2 then (((valM S.f (n.cs.getD (findR n key).1 ⟨0, [], 0⟩)).1.1, decide ((valM S.f (n.cs.getD (findR n key).1 ⟨0, [], 0⟩)).2 = 0)), (valM S.f (n.cs.getD (findR n key).1 ⟨0, [], 0⟩)).2) else (([], false), 0)) := hid rfl
  have HAM := hid ha
  obtain ⟨a1, c1, a2, c2, a3, c3, rfl, rfl, rfl⟩ := No.nat_slices hn
  obtain ⟨b0, b1, b2, b3⟩ := hg.cells
  unfold fV nV at *
  generalize findR n key = X at *
  obtain ⟨i, q⟩ := X
  clear k ha hl hp hcl hn hg
  cases q with
  | false =>
    simp only [Bool.false_eq_true, if_false] at HM
    have e0 : bs [] = ⟨#[]⟩ := rfl
    go_enter Tryz.func43, Tryz.ntmps43
    go_wp2_with fail
    refine HF.out.mono ?_
    rintro e w2 ⟨rfl, hb⟩
    have HB := hid (HA1.out.trans (hb.mono HA1.out.size))
    clear hb b0 b1 b2 b3
    go_wp2
    go_ret3
    unfold GetPost
    rw [HM.out]
    exact ⟨rfl, K.out.kept HB.out, Chg.of_below HB.out⟩
  | true =>
    simp only [if_true] at HM
    have hi := HX.out rfl
    have HI := hid hi
    obtain ⟨ao, cap, e1, -, hcc, hcell⟩ := No.CAt.ways3 HN.out.c
    cases e1
    obtain ⟨g, o, rfl, hgl, x0, x1, x2⟩ := hcell i hi
    have HC := hid (And.intro x0 (And.intro x1 x2))
    have HGL := hid hgl
    have hgd : n.cs.getD i ⟨0, [], 0⟩ = n.cs[i] := by rw [List.getD_eq_getElem?_getD, List.getElem?_eq_getElem hi]; rfl
    rw [hgd] at HM
    generalize n.cs[i] = c at *
    clear hgd hcell x0 x1 x2 hgl
    have hle : (i : Int) < (n.cs.length : Int) := by omega
    go_enter Tryz.func43, Tryz.ntmps43
    go_wp2_with fail
    refine HF.out.mono ?_
    rintro e w2 ⟨rfl, hb⟩
    have HB := hid (HA1.out.trans (hb.mono HA1.out.size))
    have hg2 := HG.out.on hb
    have y0 := (hb.cell (p := ⟨g, o + i * 3, none⟩) HGL.out).trans HC.out.1
    have y1 := (hb.cell (p := ⟨g, o + i * 3 + 1, none⟩) HGL.out).trans HC.out.2.1
    have y2 := (hb.cell (p := ⟨g, o + i * 3 + 2, none⟩) HGL.out).trans HC.out.2.2
    have HVV := hid (HV.out w2 (K.out.kept HB.out) c)
    clear hb b0 b1 b2 b3 hcc
    obtain ⟨b0, b1, b2, b3⟩ := hg2.cells
    clear hg2
    go_wp2_with fail
    refine HVV.out.mono ?_
    rintro e w3 ⟨val, pg, er, arm', rfl, k3, c3, ha1, ha2, hv⟩
    have harm : arm' = arm := ha1 HAM.out
    subst harm
    have hv' : valM S.f c = ((val, pg), er) := by
      rcases hv with hv | hv
      · exact hv.symm
      · have := HAM.out; omega
    rw [hv'] at HM
    have K3 := hid k3
    have C3 := hid ((Chg.of_below (F := Two s d) HB.out).trans c3)
    clear k3 c3 ha1 ha2 hv hv' y0 y1 y2 b0 b1 b2 b3 HVV
    go_wp2
    go_ret3
    unfold GetPost
    rw [HM.out]
    refine ⟨?_, K3.out, C3.out⟩
    unfold aV
    congr 3
end Tr
end Go.Proofs.YtoifhcmgeackdaaGreatDoor
