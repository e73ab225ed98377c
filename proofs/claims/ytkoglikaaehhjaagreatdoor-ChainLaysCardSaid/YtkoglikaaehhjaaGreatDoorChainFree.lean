/-
  Contract of Free: a chain's pages are free, what stands on the others stays.
-/
import Derived.Test.YtkoglikaaehhjaaGreatDoorChainCalls
namespace Go.Proofs.YtkoglikaaehhjaaGreatDoor
open Go.RowKit
namespace Ch
open Num (hid)
open Mem (Bs bs ptr Chg tI tIs IAt)
open Sp (Hd)
open Sh (ShL St Inv Two Own)
open No (okC)
/-- With the first j of ps free. -/
structure Freed (h : Hd) (S : St) (U F ps : List Int) (j : Nat) (h' : Hd) (S' : St) (U' F' : List Int) : Prop where
  inv : Inv h' S' U' F'
  pg : h'.pages = h.pages
  fl : F'.length = F.length + j
  st : ∀ x ∈ U, x ∉ ps.take j → x ∈ U' ∧ S'.f x = S.f x
variable {s d N cnt : Nat} {lim : Int} {h : Hd} {arm : Int} {S : St} {w0 w : World} {U F ps : List Int} {c : No.C} {v : Bs}
def FreePost (s d N cnt : Nat) (lim : Int) (h : Hd) (arm : Int) (S : St) (U F ps : List Int) (w0 w : World) (e : Ending) (w' : World) : Prop :=
  ∃ (h' : Hd) (S' : St) (U' F' : List Int), e = .returned (.int .i64 0) ∧ ShL s d N (cnt + 200) lim h' arm S' w0 w' ∧ Chg (Two s d) w w' ∧ Freed h S U F ps ps.length h' S' U' F'
theorem Freed.next {j : Nat} {h1 h2 : Hd} {S1 S2 : St} {U1 F1 : List Int} (f : Freed h S U F ps j h1 S1 U1 F1) {i : Nat} (hi : i < U1.length) (hj : j < ps.length) (e : U1[i] = ps[j]) (inv : Inv h2 S2 (U1.take i ++ U1.drop (i + 1)) (U1[i] :: F1)) (hp : h2.pages = h1.pages)
    (hs : ∀ x, x ∈ U1.take i ++ U1.drop (i + 1) → S2.f x = S1.f x) : Freed h S U F ps (j + 1) h2 S2 (U1.take i ++ U1.drop (i + 1)) (U1[i] :: F1) := by
  refine ⟨inv, hp.trans f.pg, by rw [List.length_cons, f.fl]; omega, fun x hx hn => ?_⟩
  have htk : ps.take (j + 1) = ps.take j ++ [ps[j]] := by rw [List.take_add_one, List.getElem?_eq_getElem hj]; rfl
  rw [htk] at hn
  have h3 : x ∉ ps.take j := fun e => hn (List.mem_append_left _ e)
  have h4 : x ≠ ps[j] := fun e => hn (List.mem_append_right _ (List.mem_singleton.2 e))
  obtain ⟨h5, h6⟩ := f.st x hx h3
  have h7 : x ∈ U1.take i ++ U1.drop (i + 1) := by
    have hU : U1 = U1.take i ++ U1[i] :: U1.drop (i + 1) := by simp
    rw [hU] at h5
    rcases List.mem_append.1 h5 with h5 | h5
    · exact List.mem_append_left _ h5
    · rcases List.mem_cons.1 h5 with h5 | h5
      · exact absurd (h5.trans e) h4
      · exact List.mem_append_right _ h5
  exact ⟨h7, (hs x h7).trans h6⟩
theorem own_cell {s d N : Nat} {v : Value} {pg : List Int} (o : Own s d N tI w v pg.length (ints pg)) : ∃ ao cap, v = .slice ao pg.length cap ∧ ∀ j (hj : j < pg.length), ∃ g, ao = some ⟨g, 0, none⟩ ∧ g < w.heap.size ∧ w.cell? ⟨g, j, none⟩ = some (.int .i64 pg[j]) := by
  obtain ⟨ao, cap, rfl, h2⟩ := Mem.row_shape o.row
  refine ⟨ao, cap, rfl, fun j hj => ?_⟩
  obtain ⟨g, rfl, hg⟩ := h2 (by omega)
  refine ⟨g, rfl, hg, ?_⟩
  rw [o.row.cellAt j (by omega)]
  simp
set_option maxRecDepth 100000 in
set_option maxHeartbeats 4000000 in
theorem free_any (k : ShL s d N cnt lim h arm S w0 w) (hcn : cnt ≤ 10000) (ha : arm < 1) (inv : Inv h S U F) (hp : h.pages ≤ 4096) (hc : CellOf S.f c v ps) (hnd : ps.Nodup) (hsub : ∀ x ∈ ps, x ∈ U) :
    Calls Tryz.prog 16 #[pV s, cV c] w (FreePost s d N cnt lim h arm S U F ps w0 w) := by
  have hA1 : Below w.heap.size w (w.alloc (cO c)) := (Below.refl w.heap.size w).alloc (Nat.le_refl _) _
  have HA1 := hid hA1
  have hbx := Mem.blk_new w (cO c)
  have c0 := Mem.blk_cell hbx 0
  have c1 := Mem.blk_cell hbx 1
  have c2 := Mem.blk_cell hbx 2
  have HR := hid (list_any (k.kept hA1) (by omega) c)
  have HV := hid hc.val
  have hpl : ps.length ≤ 23 := by
    have h1 := hc.len
    have h2 := hc.1
    unfold partsN at h1
    split at h1 <;> omega
  have HND := hid hnd
  have HS := hid hsub
  have HIV := hid inv
  have HP := hid hp
  have HA := hid ha
  clear k hA1 hbx hc hnd hsub inv hp ha
  go_enter Tryz.func16, Tryz.ntmps16
  go_wp2_with fail
  refine HR.out.mono ?_
  rintro e w1 ⟨val, pg, er, pv, arm', rfl, hk, hc, ho, hn, ha1, -, hv⟩
  have hv2 : val = v ∧ pg = ps ∧ er = 0 := by
    rcases hv with hv | hv
    · rw [HV.out] at hv
      simp only [Prod.mk.injEq] at hv
      exact ⟨hv.1.1, hv.1.2, hv.2⟩
    · exact absurd hv.1 (by have := HA.out; omega)
  obtain ⟨rfl, rfl, rfl⟩ := hv2
  rw [ha1 HA.out] at hk
  have HK := hid hk
  have HC := hid ((Chg.of_below HA1.out).trans hc)
  have HO := hid ho
  obtain ⟨ao, cap, rfl, -⟩ := own_cell ho
  have F0 : Hid (Freed h S U F pg 0 h S U F) := hid ⟨HIV.out, rfl, rfl, fun x hx _ => ⟨hx, rfl⟩⟩
  clear hk hc ho hn ha1 hv c0 c1 c2
  go_wp2_with fail
  go_loopw [21] (fun iv wr => ∃ (j : Nat) (h1 : Hd) (S1 : St) (U1 F1 : List Int), iv = .int .i64 (j : Int) ∧ j ≤ pg.length ∧ Hid (ShL s d N (cnt + 3 * j) lim h1 arm S1 w0 wr) ∧ Hid (Chg (Two s d) w wr) ∧ Hid (Own s d N tI wr (.slice ao pg.length cap) pg.length (ints pg)) ∧ Hid (Freed h S U F pg j h1 S1 U1 F1)) (fun iv _ => pg.length - (intOf iv).toNat)
  case atStart => exact ⟨0, h, S, U, F, rfl, Nat.zero_le _, HK, HC, HO, F0⟩
  case round =>
    obtain ⟨j, h1, S1, U1, F1, rfl, hj, K1, C1, O1, FR⟩ := hrel
    by_cases hlt : j < pg.length
    · have hlt' : (j : Int) < (pg.length : Int) := by omega
      obtain ⟨ao2, cap2, e2, hcell⟩ := own_cell O1.out
      cases e2
      obtain ⟨g, rfl, hg, x0⟩ := hcell j hlt
      have hmem : pg[j] ∈ U1 := (FR.out.st pg[j] (HS.out _ (List.getElem_mem hlt)) (fun e => by
        obtain ⟨i, hi, he⟩ := List.getElem_of_mem e
        rw [List.getElem_take] at he
        have hij : i < j := by rw [List.length_take] at hi; omega
        exact (List.pairwise_iff_getElem.1 HND.out i j (by omega) hlt hij) he)).1
      obtain ⟨i, hi, hie⟩ := List.getElem_of_mem hmem
      have HG := hid (K1.out.give HA.out (by omega) FR.out.inv (by have := FR.out.pg; have := HP.out; omega) hi)
      rw [hie] at HG
      have HIE := hid hie
      have HLT := hid hlt
      clear hmem hie hcell
      generalize hpj : pg[j] = pj at *
      have HPJ := hid hpj
      clear hpj
      go_wp2_with fail
      refine HG.out.mono ?_
      rintro e w2 ⟨h2, S2, rfl, k2, inv2, pg2, hs2, cc2⟩
      have K2 := hid (k2.more (show cnt + 3 * j + 3 ≤ cnt + 3 * (j + 1) by omega))
      have C2 := hid (C1.out.trans cc2)
      have O2 := hid (O1.out.turned cc2)
      have FR2 := hid (FR.out.next hi HLT.out (HIE.out.trans HPJ.out.symm) (by rw [HIE.out]; exact inv2) pg2 hs2)
      clear k2 inv2 pg2 hs2 cc2 x0
      go_wp2
      go_roundw
      case rel => exact ⟨j + 1, h2, S2, _, _, by go_num, by omega, K2, C2, O2, FR2⟩
      case measure => simp [intOf]; omega
    · have hlt' : ¬ (j : Int) < (pg.length : Int) := by omega
      have e : j = pg.length := by omega
      have FR2 := hid FR.out
      rw [e] at FR2
      clear e
      go_wp2
      go_ret
      exact ⟨h1, S1, U1, F1, rfl, K1.out.more (by omega), C1.out, FR2.out⟩
end Ch
end Go.Proofs.YtkoglikaaehhjaaGreatDoor
