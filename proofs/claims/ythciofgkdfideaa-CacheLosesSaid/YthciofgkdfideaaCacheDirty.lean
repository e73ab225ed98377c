/-
  The cache's Dirty.
-/
import Derived.Test.YthciofgkdfideaaCacheSorted
import Derived.Test.YthciofgkdfideaaCacheRefDirM
import Derived.Deep.RegionHeld3
import Derived.LaidEqlPtr
import Derived.Lib.Builder
namespace Go.Proofs.Ythciofgkdfideaa
open Go.RowKit
namespace Ca
open Num (hid)
open Mem (Bs bs tI tS Chg Row ptr blk_cell blk_free blk_new blk_set blk_other blk_alloc wpList_append_run)
variable {R : Nat → Prop} {w w' : World} {c size m z s : Nat} {B L r : List Nat} {f : Nat → One} {nx pv : Fn} {l : Row} {n : Int}
theorem Lk.walk {nx pv : Fn} {a b : Nat} {l : List Nat} (h : Lk nx pv a l b) (k : Nat) (hk : k ≤ l.length) : nx ((a :: l)[k]'(by simp; omega)) = (l ++ [b])[k]'(by simp; omega) := by
  induction l generalizing a k with
  | nil =>
    have : k = 0 := by simpa using hk
    subst this
    exact h.1
  | cons y l ih =>
    cases k with
    | zero => exact h.1
    | succ k =>
      have h2 : k ≤ l.length := by simpa using hk
      simpa using ih h.2.2 k h2
/-- The slot at which a way round the ring stands behind k steps. -/
def stop (B : List Nat) (z k : Nat) : Nat := (B ++ [z]).getD k z
theorem stop_in {B : List Nat} {z k : Nat} (h : k < B.length) : stop B z k = B[k] := by
  unfold stop
  rw [List.getD_eq_getElem?_getD, List.getElem?_append_left h, List.getElem?_eq_getElem h]
  rfl
theorem stop_end {B : List Nat} {z k : Nat} (h : k = B.length) : stop B z k = z := by
  unfold stop
  subst h
  rw [List.getD_eq_getElem?_getD, List.getElem?_append_right (Nat.le_refl _), Nat.sub_self]
  rfl
theorem Rg.first (h : Rg w z B f nx pv) : nx z = stop B z 0 := by
  have := h.lk.walk 0 (Nat.zero_le _)
  unfold stop
  rw [List.getD_eq_getElem?_getD, List.getElem?_eq_getElem (by simp)]
  exact this
theorem Rg.step (h : Rg w z B f nx pv) {k : Nat} (hk : k < B.length) : nx B[k] = stop B z (k + 1) := by
  have := h.lk.walk (k + 1) hk
  unfold stop
  rw [List.getD_eq_getElem?_getD, List.getElem?_eq_getElem (by simp; omega)]
  exact this
theorem goneP_all {l : Row} {k : Nat} (h : k = l.length) : goneP k l = (l.filter One.w).map pgOf := by
  unfold goneP
  rw [List.take_of_length_le (by omega)]
theorem fold_mem (a o : List Pg) (y : Pg) : y ∈ a.foldl (fun o x => ins x o) o ↔ y ∈ o ∨ y ∈ a := by
  induction a generalizing o with
  | nil => simp
  | cons x a ih =>
    rw [List.foldl_cons, ih, mem_ins, List.mem_cons]
    constructor
    · rintro ((h | h) | h)
      · exact Or.inr (Or.inl h)
      · exact Or.inl h
      · exact Or.inr (Or.inr h)
    · rintro (h | h | h)
      · exact Or.inl (Or.inr h)
      · exact Or.inl (Or.inl h)
      · exact Or.inr h
theorem sorted_is {l : Row} (h : (nos l).Nodup) {t : List Pg} (hr : Rise t) (hp : t.Perm ((l.filter One.w).map pgOf)) : t = dirtyM l := by
  refine rise_eq hr (dirty_rise h) (fun y => ?_)
  unfold dirtyM
  rw [fold_mem, hp.mem_iff]
  simp
theorem run_neq_ptr_other {P : Program} (w : World) {tp te : TypeId} {j : TypeInfo} {a b : Addr} {ca cb : Array Value} {ta tb : TypeId} (hp : P.underlying tp = some (.pointer te)) (hte : P.info? te = some j) (hsz : j.size ≠ 0)
    (hne : a ≠ b) (ha : w.heap[a.block]? = some (.cells ca ta (0, 0))) (hb : w.heap[b.block]? = some (.cells cb tb (0, 0))) :
    (binOp .neq tp (.pointer (some a)) (.pointer (some b))).run P w = .ok (.bool true) w := by
  have h : ∀ d : Nat, (Op.equalIn (d + 1) tp (.pointer (some a)) (.pointer (some b))).run P w = .ok false w := fun d => by
    simp [Op.equalIn, run_underlying hp, sizeOf, typeInfo, hte, hsz, run_sameAddr_other w hne ha hb]
  simp only [binOp]
  simp [Op.equal, Op.maxDepth, h 9999]
theorem slInfo : ∃ i, Try.prog.info? tSl = some i ∧ i.size ≠ 0 := ⟨_, rfl, by decide⟩
theorem neq_yes {f : Nat → One} {nx pv : Fn} {s z : Nat} (hs : Sl w f nx pv s) (hz : Sl w f nx pv z) (hne : ¬ s = z) : (binOp .neq 51 (ptr s) (ptr z)).run Try.prog w = .ok (.bool true) w := by
  obtain ⟨i, h1, h2⟩ := slInfo
  exact run_neq_ptr_other w Try.underlying51 h1 h2 (fun e => hne (by injection e)) hs hz
theorem neq_no (z : Nat) (w : World) : (binOp .neq 51 (ptr z) (ptr z)).run Try.prog w = .ok (.bool false) w := by
  obtain ⟨i, h1, h2⟩ := slInfo
  exact Lib.run_neq_ptr_same w ⟨z, 0, none⟩ Try.underlying51 h1
set_option maxRecDepth 100000 in
set_option maxHeartbeats 4000000 in
theorem dirty_any (h : CA R w c size l) (hd : (nos l).Nodup) (hl : l.length ≤ 900) (hf : ∀ x ∈ l, Fits x.d) :
    Calls Try.prog 20 #[ptr c] w fun e w' => ∃ v, e = .returned v ∧ PR (fun g => w.heap.size ≤ g) w' v (dirtyM l) ∧ Below w.heap.size w w' := by
  obtain ⟨m, z, B, f, nx, pv, h, rfl⟩ := h
  have HH := hid h
  have HD := hid hd
  have hl2 : B.length ≤ 900 := by rw [List.length_map] at hl; exact hl
  have HB := hid hl2
  have HC := hid (fun k (hk : k < B.length) => clone_fit (hf (f B[k]) (List.mem_map_of_mem (List.getElem_mem hk))))
  have N0 : Hid (NS w (.slice none 0 0) (goneP 0 (B.map f)) w) := hid ⟨Below.refl _ _, World.ownsRow_nil w 0 tP 2, fun g hg => by simp [Value.ownBlock] at hg⟩
  obtain ⟨-, c1, c2, lc, -, -⟩ := h.cells
  have hz := h.rg.sl z (Or.inl rfl)
  unfold Sl at hz
  rw [h.rg.first] at hz
  obtain ⟨-, -, -, -, z4, lz⟩ := sObj_cells hz
  have hcz : z ≠ c := (h.ne.1 z (Or.inl rfl)).1
  have HLC := hid (And.intro c2 (And.intro lc lz))
  obtain ⟨D, hD⟩ : ∃ x, dirtyM (B.map f) = x := ⟨_, rfl⟩
  have HDD := hid hD
  rw [hD]
  clear h hd hl hf hz hl2 c1 hD hcz
  go_enter Try.func20, Try.ntmps20
  go_wp2_with fail
  go_loopg [3, 4] (B.length) (fun gk vo sv wr => ∃ k : Nat, gk = B.length - k ∧ k ≤ B.length ∧ sv = ptr (stop B z k) ∧ Hid (NS w vo (goneP k (B.map f)) wr))
  case atStart => exact ⟨0, rfl, Nat.zero_le _, rfl, N0⟩
  case round =>
    obtain ⟨k, hgk, hk, rfl, HS⟩ := hrel
    clear N0 c2 lc z4 lz
    have hca := HH.out.on HS.out.bel
    obtain ⟨-, -, c2, lc, -, -⟩ := hca.cells
    by_cases hkl : k < B.length
    · have hsl := hca.rg.sl B[k] (Or.inr (List.getElem_mem hkl))
      have hne : ¬ B[k] = z := fun e => (List.nodup_cons.1 hca.rg.nd).1 (e ▸ List.getElem_mem hkl)
      have hneq := neq_yes hsl (hca.rg.sl z (Or.inl rfl)) hne
      unfold Sl at hsl
      rw [hca.rg.step hkl] at hsl
      obtain ⟨s0, s1, s2, -, s4, ls⟩ := sObj_cells hsl
      have hslw := HH.out.rg.sl B[k] (Or.inr (List.getElem_mem hkl))
      unfold Sl at hslw
      rw [HH.out.rg.step hkl] at hslw
      obtain ⟨q0c, q1c, -, -, q4c, lsw⟩ := sObj_cells hslw
      have HJ4 := hid (fun (wz : World) (hb : Below w.heap.size w wz) => And.intro ((hb.cell (p := ⟨B[k], 4, none⟩) lsw).trans q4c) (Nat.lt_of_lt_of_le lsw hb.size))
      have HJ := hid (fun (wz : World) (hb : Below w.heap.size w wz) => And.intro ((hb.cell (p := ⟨B[k], 0, none⟩) lsw).trans q0c) ((hb.cell (p := ⟨B[k], 1, none⟩) lsw).trans q1c))
      clear hslw q0c q1c q4c lsw
      have HX := hid (goneP_at (f := f) hkl)
      have HCL := hid (HC.out k hkl)
      have HGL := hid (goneP_len k (B.map f))
      rw [List.length_map] at HGL
      rw [stop_in hkl]
      have HK2 : Hid (gk - 1 < gk ∧ gk - 1 = B.length - (k + 1) ∧ k + 1 ≤ B.length) := hid (by omega)
      obtain ⟨s5, hs5⟩ : ∃ x, stop B z (k + 1) = x := ⟨_, rfl⟩
      rw [hs5] at s4 HJ4
      have HS5 : Hid (ptr s5 = ptr (stop B z (k + 1))) := hid (by rw [hs5])
      generalize B[k] = s at *
      clear hca hsl hgk hk hkl hs5
      cases hw : (f s).w with
      | false =>
        have HH2 : Hid (NS w u3 (goneP (k + 1) (B.map f)) wr) := by rw [HX.out.1 hw]; exact HS
        rw [hw] at s2
        clear HX HCL hw s0 s1
        go_wp2
        go_roundg (gk - 1)
        case rel => exact ⟨k + 1, HK2.out.2.1, HK2.out.2.2, HS5.out, HH2⟩
        case measure => exact HK2.out.1
      | true =>
        rw [hw] at s2
        have HY := hid (HX.out.2 hw)
        have HGL2 : Hid ((goneP k (B.map f)).length ≤ 2000) := hid (by have := HGL.out; have := HB.out; omega)
        generalize (f s).n = q0 at *
        generalize (f s).d = q1 at *
        have J0 := hid (HJ.out wr.drew HS.out.bel.drew)
        clear hw HGL HX
        go_upto_region 8 with fail
        clear c2 lc s0 s1 s2 s4 hneq
        go_region_held3 (fun W => W.cell? ⟨s, 0, none⟩ = some (.int .i64 q0) ∧ W.cell? ⟨s, 1, none⟩ = some (.string (bs q1)))
          (first | with_reducible exact J0.out | with_reducible exact J1.out | with_reducible exact J2.out | with_reducible exact J3.out)
          (first
            | go_at_call 26; refine (HCL.out _).mono ?_; rintro e w5 ⟨rfl, hb5⟩; obtain ⟨v2, w6, hr2, hs2⟩ := HS.out.push (wq := w5) ((Below.refl wr.heap.size wr).drew.trans hb5) (q0, q1) HGL2.out; have HR2 := hid hr2; have HS2 := hid hs2; have hw5 := HS.out.bel.trans (((Below.refl wr.heap.size wr).drew.trans hb5).mono HS.out.bel.size); have J1 := hid (HJ.out w5 hw5); have J2 := hid (HJ.out _ (hw5.trans (((Below.refl _ w5).alloc (Nat.le_refl _) (.cells #[.int .i64 q0, .string (bs q1)] tP)).mono hw5.size))); have J3 := hid (HJ.out w6 hs2.bel); clear hr2 hs2 hb5 hw5
            | refine Mem.step_append_run (by rfl) (.tmp 28) (.tmp 41) tPs tPs (by rfl) _ _ (by simp [Act.eval]) (by simp [Act.eval]) HR2.out ?_)
        have HH2 : Hid (NS w v2 (goneP (k + 1) (B.map f)) w6) := by rw [HY.out]; exact HS2
        obtain ⟨s4, hls6⟩ := HJ4.out w6 HS2.out.bel
        clear HR2 HS2 J0 J1 J2 J3 ls
        go_wp2
        go_roundg (gk - 1)
        case rel => exact ⟨k + 1, HK2.out.2.1, HK2.out.2.2, HS5.out, HH2⟩
        case measure => exact HK2.out.1
    · have hke : k = B.length := by omega
      rw [stop_end hke]
      have hneq := neq_no z wr
      have hn := HS.out
      rw [goneP_all (by rw [List.length_map]; exact hke)] at hn
      have hnp : ((((B.map f).filter One.w).map pgOf).map Prod.fst).Nodup := pgs_nodup HD.out
      have HSO := hid (sort_any hn.row hnp (by rw [List.length_map]; have := List.length_filter_le One.w (B.map f); rw [List.length_map] at this; have := HB.out; omega))
      have HBE := hid hn.bel
      have HRO := hid hn.row
      clear hca hgk hk hkl hke hn hnp
      go_wp2_with fail
      refine HSO.out.mono ?_
      rintro e w2 ⟨rfl, t, ht, hp, hrow, hch⟩
      have HF : Hid (PR (fun g => w.heap.size ≤ g) w2 u3 D ∧ Below w.heap.size w w2) := by
        rw [← HDD.out, ← sorted_is HD.out ht hp]
        exact hid ⟨hrow, HBE.out.trans (hch.below HBE.out.size (fun k hk e => by have := HRO.out.2 k e; omega))⟩
      clear ht hp hrow hch c2 lc hneq
      go_wp2
      go_ret
      exact ⟨_, rfl, HF.out⟩
end Ca
end Go.Proofs.Ythciofgkdfideaa
