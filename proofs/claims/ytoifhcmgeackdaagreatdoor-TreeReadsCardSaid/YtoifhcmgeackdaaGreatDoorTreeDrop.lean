/-
  List and Drop.
-/
import Derived.Test.YtoifhcmgeackdaaGreatDoorTreeList
namespace Go.Proofs.YtoifhcmgeackdaaGreatDoor
open Go.RowKit
namespace Tr
open Num (hid)
open Mem (Bs bs ptr Chg tI tIs)
open Sp (Hd)
open Sh (ShL St Two Wf Inv Own)
open Ch (pV ints valM Freed own_cell)
variable {s d N cnt lb mb : Nat} {lim : Int} {h : Hd} {arm : Int} {S : St} {w0 w : World} {U F P : List Int}
theorem list_all (ha : arm < 1) : ∀ k : Nat, k ≤ 20 → TreeC s d N cnt lb mb lim h arm S w0 (k : Int) (listM S.f (k + 1))
  | 0, hk => list_step ha 0 hk (fun p P vp L w hg => by cases hg)
  | k + 1, hk => by
    have ih := list_all ha k (by omega)
    refine list_step ha (k + 1) hk ?_
    have e : ((k + 1 : Nat) : Int) - 1 = (k : Int) := by omega
    rw [e]
    exact ih
def ListPost (s d N cnt : Nat) (lim : Int) (h : Hd) (arm : Int) (S : St) (P : List Int) (w0 w : World) (e : Ending) (w' : World) : Prop :=
  ∃ v, e = .returned (.tuple #[v, .int .i64 0]) ∧ Own s d N tI w' v P.length (ints P) ∧ (∀ g, v.ownBlock = some g → w.heap.size ≤ g) ∧ ShL s d N cnt lim h arm S w0 w' ∧ Chg (Two s d) w w'
set_option maxRecDepth 100000 in
set_option maxHeartbeats 4000000 in
theorem list_any (k : ShL s d N cnt lim h arm S w0 w) (ha : arm < 1) {root : Int} (hl : listM S.f 21 root = some P) (hnew : newM [] P = true) (hwf : ∀ x ∈ P, Wf x) (hlen : P.length ≤ 800000) :
    Calls Tryz.prog 29 #[pV s, .int .i64 root] w (ListPost s d N cnt lim h arm S P w0 w) := by
  have hmk := run_makeMap (P := Tryz.prog) tMs w
  have hb1 : Below w.heap.size w (w.alloc (.map #[] 0)) := (Below.refl _ _).alloc (Nat.le_refl _) _
  have e1 : (w.alloc (.map #[] 0)).heap.size = w.heap.size + 1 := by simp
  have hb2 : Below w.heap.size w ((w.alloc (.map #[] 0)).alloc (.cells #[pV s, .slice none 0 0, .map (some w.heap.size)] tLs)) := hb1.alloc (by simp) _
  have k2 := k.kept hb2
  have hN := k.size
  have hs := k.at'.lt
  have L2 : Ls s d N (w.heap.size + 1) w.heap.size (.slice none 0 0) [] ((w.alloc (.map #[] 0)).alloc (.cells #[pV s, .slice none 0 0, .map (some w.heap.size)] tLs)) := by
    refine ⟨by rw [← e1]; exact Mem.blk_new (w.alloc (.map #[] 0)) _, (setP_new w).on ((Below.refl _ _).alloc (Nat.le_refl _) _), World.ownsRow_nil _ 0 tI 1, ⟨by omega, by omega, by omega⟩, ⟨hN, by omega, by omega⟩, by omega, fun g hg => by simp [Value.ownBlock] at hg, Nat.zero_le _⟩
  have HT := hid (list_all (cnt := cnt) (lim := lim) (h := h) (S := S) (w0 := w0) (s := s) (d := d) (N := N) (lb := w.heap.size + 1) (mb := w.heap.size) ha 20 (Nat.le_refl _) root P _ [] _ hl hnew hwf (by simpa using hlen) L2 k2)
  have HB := hid hb2
  have HSZ : Hid (((w.alloc (.map #[] 0)).alloc (.cells #[pV s, .slice none 0 0, .map (some w.heap.size)] tLs)).heap.size = w.heap.size + 2) := hid (by simp)
  clear k ha hl hnew hwf hlen hb1 hb2 k2 hN hs L2 e1
  go_enter Tryz.func29, Tryz.ntmps29
  go_wp2_with fail
  refine HT.out.mono ?_
  rintro e w1 ⟨v, rfl, l1, q1, c1, k1⟩
  have L1 := hid l1
  have K1 := hid k1
  have C1 : Hid (Chg (Two s d) w w1) := hid ((Chg.of_below (F := Two s d) HB.out).then c1 (fun i _ e => by
    rcases e with e | e | e | e
    · exact Or.inr e
    · exact Or.inl (by omega)
    · exact Or.inl (by omega)
    · simp [Value.ownBlock] at e))
  have Q1 : Hid (∀ g, v.ownBlock = some g → w.heap.size ≤ g) := hid (fun g e => by
    rcases q1 g e with e | e
    · simp [Value.ownBlock] at e
    · have := HSZ.out; omega)
  have x1 := Mem.blk_cell l1.bx 1
  have hlb := lt_of_block l1.bx
  obtain ⟨ao, cap, hv, -⟩ := Mem.row_shape l1.row
  subst hv
  clear l1 q1 c1 k1 HT
  go_wp2
  go_ret2
  refine ⟨_, rfl, ⟨?_, fun g e => ?_⟩, Q1.out, K1.out, C1.out⟩
  · have h5 := L1.out.row
    simpa using h5
  · have h5 := L1.out.rv g e
    exact ⟨h5.1, h5.2.1, h5.2.2.1⟩
/-- A list without a page twice. -/
theorem newM_nodup : ∀ {P L : List Int}, newM L P = true → P.Nodup ∧ ∀ x ∈ P, x ∉ L
  | [], L, _ => ⟨List.nodup_nil, fun x hx => by simp at hx⟩
  | p :: P, L, h => by
    rw [newM_cons] at h
    simp only [Bool.and_eq_true, Bool.not_eq_true', decide_eq_false_iff_not] at h
    obtain ⟨h1, h2⟩ := newM_nodup h.2
    refine ⟨List.nodup_cons.2 ⟨fun e => h2 p e (by simp), h1⟩, fun x hx => ?_⟩
    rcases List.mem_cons.1 hx with rfl | hx
    · exact h.1
    · exact fun e => h2 x hx (by simp [e])
def DropPost (s d N cnt : Nat) (lim : Int) (h : Hd) (arm : Int) (S : St) (U F P : List Int) (w0 w : World) (e : Ending) (w' : World) : Prop :=
  ∃ (h' : Hd) (S' : St) (U' F' : List Int), e = .returned (.int .i64 0) ∧ ShL s d N (cnt + 3 * P.length) lim h' arm S' w0 w' ∧ Chg (Two s d) w w' ∧ Freed h S U F P P.length h' S' U' F'
set_option maxRecDepth 100000 in
set_option maxHeartbeats 8000000 in
theorem drop_any (k : ShL s d N cnt lim h arm S w0 w) (ha : arm < 1) (inv : Inv h S U F) (hp : h.pages ≤ 4096) {root : Int} (hl : listM S.f 21 root = some P) (hnew : newM [] P = true) (hwf : ∀ x ∈ P, Wf x) (hlen : cnt + 3 * P.length ≤ 19000) (hsub : ∀ x ∈ P, x ∈ U) :
    Calls Tryz.prog 30 #[pV s, .int .i64 root] w (DropPost s d N cnt lim h arm S U F P w0 w) := by
  have HR := hid (list_any k ha hl hnew hwf (by omega))
  have HND := hid (newM_nodup hnew).1
  have HS := hid hsub
  have HIV := hid inv
  have HP := hid hp
  have HA := hid ha
  have HLEN := hid hlen
  have hpl : P.length ≤ 19000 := by omega
  clear k ha inv hp hl hnew hwf hlen hsub
  go_enter Tryz.func30, Tryz.ntmps30
  go_wp2_with fail
  refine HR.out.mono ?_
  rintro e w1 ⟨pv, rfl, ho, -, hk, hc⟩
  have HK := hid hk
  have HC := hid hc
  have HO := hid ho
  obtain ⟨ao, cap, rfl, -⟩ := own_cell ho
  have F0 : Hid (Freed h S U F P 0 h S U F) := hid ⟨HIV.out, rfl, rfl, fun x hx _ => ⟨hx, rfl⟩⟩
  clear hk hc ho
  go_wp2_with fail
  go_loopw [21] (fun iv wr => ∃ (j : Nat) (h1 : Hd) (S1 : St) (U1 F1 : List Int), iv = .int .i64 (j : Int) ∧ j ≤ P.length ∧ Hid (ShL s d N (cnt + 3 * j) lim h1 arm S1 w0 wr) ∧ Hid (Chg (Two s d) w wr) ∧ Hid (Own s d N tI wr (.slice ao P.length cap) P.length (ints P)) ∧ Hid (Freed h S U F P j h1 S1 U1 F1)) (fun iv _ => P.length - (intOf iv).toNat)
  case atStart => exact ⟨0, h, S, U, F, rfl, Nat.zero_le _, HK, HC, HO, F0⟩
  case round =>
    obtain ⟨j, h1, S1, U1, F1, rfl, hj, K1, C1, O1, FR⟩ := hrel
    by_cases hlt : j < P.length
    · have hlt' : (j : Int) < (P.length : Int) := by omega
      obtain ⟨ao2, cap2, e2, hcell⟩ := own_cell O1.out
      cases e2
      obtain ⟨g, rfl, hg, x0⟩ := hcell j hlt
      have hmem : P[j] ∈ U1 := (FR.out.st P[j] (HS.out _ (List.getElem_mem hlt)) (fun e => by
        obtain ⟨i, hi, he⟩ := List.getElem_of_mem e
        rw [List.getElem_take] at he
        have hij : i < j := by rw [List.length_take] at hi; omega
        exact (List.pairwise_iff_getElem.1 HND.out i j (by omega) hlt hij) he)).1
      obtain ⟨i, hi, hie⟩ := List.getElem_of_mem hmem
      have HG := hid (K1.out.give HA.out (by have := HLEN.out; omega) FR.out.inv (by have := FR.out.pg; have := HP.out; omega) hi)
      rw [hie] at HG
      have HIE := hid hie
      have HLT := hid hlt
      clear hmem hie hcell
      generalize hpj : P[j] = pj at *
      have HPJ := hid hpj
      clear hpj
      go_wp2_with fail
      refine HG.out.mono ?_
      rintro e w2 ⟨h2, S2, rfl, k2, inv2, pg2, hs2, cc2⟩
      have K2 := hid (k2.more (show cnt + 3 * j + 3 ≤ cnt + 3 * (j + 1) by omega))
      have C2 := hid (C1.out.trans cc2)
      have O2 := hid (O1.out.turned cc2)
      have FR2 := hid (FR.out.next hi HLT.out (HIE.out.trans HPJ.out.symm) (by rw [HIE.out]; exact inv2) pg2 hs2)
      clear k2 inv2 pg2 hs2 cc2 x0
      go_wp2
      go_roundw
      case rel => exact ⟨j + 1, h2, S2, _, _, by go_num, by omega, K2, C2, O2, FR2⟩
      case measure => simp [intOf]; omega
    · have hlt' : ¬ (j : Int) < (P.length : Int) := by omega
      have e : j = P.length := by omega
      have FR2 := hid FR.out
      rw [e] at FR2 K1
      clear e
      go_wp2
      go_ret
      exact ⟨h1, S1, U1, F1, rfl, K1.out, C1.out, FR2.out⟩
end Tr
end Go.Proofs.YtoifhcmgeackdaaGreatDoor
