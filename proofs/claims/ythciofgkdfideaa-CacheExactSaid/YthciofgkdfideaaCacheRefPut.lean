/-
  The reference's Put.
-/
import Derived.Test.YthciofgkdfideaaCacheRefGet
import Derived.Deep.Cut
import Derived.Deep.RegionHeldLaw
namespace Go.Proofs.Ythciofgkdfideaa
open Go.RowKit
namespace Ca
open Num (hid)
open Mem (Bs bs tI tS Chg Row ptr blk_cell blk_free blk_new blk_set blk_other blk_alloc row_kept row_shape row_type append_from wpList_append_run)
theorem slice_one {n cap : Nat} (b o : Nat) (hm : 1 ≤ n) (hn : n ≤ cap) (w : World) : (Instr.sliceAt tOs (.slice (some ⟨b, o, none⟩) n cap) (some (.int .i64 1)) none none).run Try.prog w = .ok (Mem.dropS 3 (some ⟨b, o, none⟩) n cap 1) w := by
  have hu := Try.underlying36
  by_cases hc : cap = 1
  · subst hc
    have h3 : n = 1 := Nat.le_antisymm hn hm
    subst h3
    simp [go_sem, Mem.dropS, hu]
  · have h4 : ¬ (n : Int) < 1 := by omega
    simp [go_sem, Mem.dropS, hu, hc, h4]
/-- What has gone of the row so far. -/
def gone (L : Row) (k : Nat) : List Pg := ((L.take k).filter One.w).map pgOf
theorem gone_yes {L : Row} {k : Nat} (h : k < L.length) (e : L[k].w = true) : gone L (k + 1) = gone L k ++ [(L[k].n, L[k].d)] := by
  unfold gone
  rw [take_succ_at h, List.filter_append, List.filter_cons_of_pos e, List.filter_nil, List.map_append]
  rfl
theorem gone_no {L : Row} {k : Nat} (h : k < L.length) (e : L[k].w = false) : gone L (k + 1) = gone L k := by
  unfold gone
  rw [take_succ_at h, List.filter_append, List.filter_cons_of_neg (by simp [e]), List.filter_nil, List.append_nil]
def lenV (v : Value) : Nat := match v with | .slice _ n _ => n | _ => 0
/-- What the loop carries. -/
structure PS (w : World) (L : Row) (k : Nat) (v vp : Value) (wr : World) : Prop where
  bel : Below w.heap.size w wr
  row : LR (fun g => w.heap.size ≤ g) wr v (L.drop k)
  out : PR (fun g => w.heap.size ≤ g) wr vp (gone L k)
variable {R : Nat → Prop} {w w1 wr : World} {u size : Nat} {l L : Row} {n : Int} {v vp : Value} {k : Nat}
theorem LR.below {Q : Nat → Prop} {m : Row} (h : LR Q w v m) (hb : Below w.heap.size w w1) : LR Q w1 v m := h.at (F := fun _ => False) (Chg.of_below hb) (fun _ _ _ _ h => h.elim)
theorem PR.below {Q : Nat → Prop} {m : List Pg} (h : PR Q w v m) (hb : Below w.heap.size w w1) : PR Q w1 v m := h.kept (F := fun _ => False) (Chg.of_below hb) (fun _ _ h => h.elim)
theorem gone_len (L : Row) (k : Nat) : (gone L k).length ≤ L.length := by
  unfold gone
  rw [List.length_map]
  exact Nat.le_trans (List.length_filter_le _ _) (by rw [List.length_take]; omega)
theorem PS.push {wq : World} (p : PS w L k v vp wr) (hb : Below wr.heap.size wr wq) (hk : k < L.length) (e : L[k].w = true) (hL : L.length ≤ 1000) {v2 : Value} (hv : LR (fun g => w.heap.size ≤ g) wr v2 (L.drop (k + 1))) :
    ∃ v' w', (Builtin.append_ #[tPs, tPs] tPs #[vp, .slice (some ⟨wq.heap.size, 0, none⟩) 1 1]).run Try.prog (wq.alloc (.cells #[.int .i64 L[k].n, .string (bs L[k].d)] tP)) = .ok v' w' ∧ PS w L (k + 1) v2 v' w' ∧ ∀ b cur i, wr.heap[b]? = some (.cells cur tO (0, 0)) → w'.cell? ⟨b, i, none⟩ = wr.cell? ⟨b, i, none⟩ := by
  have hs := p.bel.size
  have hs2 := hb.size
  have hp := p.out.below hb
  have hg := gone_len L k
  obtain ⟨v', w', hr, ho, hc, -⟩ := push_p hp (fun j hj => by show w.heap.size ≤ j; omega) (L[k].n, L[k].d) (by omega)
  have hty : ∀ b cur, wq.heap[b]? = some (.cells cur tO (0, 0)) → ¬ vp.ownBlock = some b := fun b cur h1 h2 => by
    obtain ⟨cur2, h3⟩ := row_type hp.1 h2
    rw [h1] at h3
    simp only [Option.some.injEq, Obj.cells.injEq] at h3
    exact absurd h3.2.1 (by decide)
  refine ⟨v', w', hr, ⟨(p.bel.trans (hb.mono hs)).trans (hc.below (by omega) (fun j hj e => by have := hp.2 j e; omega)), (hv.below hb).at hc (fun b cur _ h1 => hty b cur h1), ?_⟩, fun b cur i h1 => ?_⟩
  · rw [gone_yes hk e]
    exact ho
  · have h2 : wq.heap[b]? = some (.cells cur tO (0, 0)) := (hb.block b (lt_of_block h1)).trans h1
    rw [hc.cell (lt_of_block h2) (hty b cur h2)]
    exact hb.cell (p := ⟨b, i, none⟩) (lt_of_block h1)
theorem LR.typed {Q : Nat → Prop} {m : Row} {b o cap' n' : Nat} (h : LR Q w (.slice (some ⟨b, o, none⟩) n' cap') m) (hn : 0 < n') : ∃ cur, w.heap[b]? = some (.cells cur tO (0, 0)) := by
  rcases h with ⟨hv, rfl⟩ | ⟨b, o, cap, cur, hv, h2, h3, h4, h5⟩
  · cases hv
  · cases hv
    exact ⟨cur, h4⟩
theorem PS.skip (p : PS w L k v vp wr) (hk : k < L.length) (e : L[k].w = false) {v2 : Value} (hv : LR (fun g => w.heap.size ≤ g) wr v2 (L.drop (k + 1))) : PS w L (k + 1) v2 vp wr :=
  ⟨p.bel, hv, by rw [gone_no hk e]; exact p.out⟩
set_option maxRecDepth 100000 in
set_option maxHeartbeats 4000000 in
theorem rput_any (h : RU R w u size l) (hn : (nos l).Nodup) (hl : l.length ≤ 900) (hR : ∀ k, w.heap.size ≤ k → R k) (n : Int) (d : Bs) (dt : Bool) :
    Calls Try.prog 13 #[ptr u, .int .i64 n, .string (bs d), .bool dt] w fun e w' => ∃ vp, e = .returned vp ∧ PR (fun g => w.heap.size ≤ g) w' vp (outM size n d dt l) ∧ RU R w' u size (putM size n d dt l) ∧ Chg (· = u) w w' := by
  have hw := rwo_any h hn (by omega) n
  obtain ⟨⟨⟨t0, t1, t2⟩, t3⟩, hF⟩ : ∃ x, foundM n l = x := ⟨_, rfl⟩
  rw [hF] at hw
  dsimp only at hw
  have HW := hid hw
  have HU := hid h
  have HR := hid hR
  have HL := hid hl
  have HLT := hid h.lt
  obtain ⟨PM, hPM⟩ : ∃ x, putM size n d dt l = x := ⟨_, rfl⟩
  obtain ⟨OM, hOM⟩ : ∃ x, outM size n d dt l = x := ⟨_, rfl⟩
  rw [hPM, hOM]
  clear hw hF h hR hl
  go_enter Try.func13, Try.ntmps13
  go_wp2_with fail
  refine HW.out.mono ?_
  rintro e w1 ⟨v, rfl, ho, hb⟩
  have ba : Below w1.heap.size w1 (w1.alloc (oObj ⟨t0, t1, t2⟩)) := (Below.refl _ w1).alloc (Nat.le_refl _) _
  have hlow : ∀ g, v.ownBlock = some g → w.heap.size ≤ g ∧ g < w1.heap.size := fun g hg => ⟨ho.2 g hg, (ho.1.lt g hg).2⟩
  have hwl := wo_len n l
  obtain ⟨v', w2, hr, ho2, hc, hk⟩ := push_o (ho.on ba) (fun k hk => by have := hb.size; have := ba.size; show w.heap.size ≤ k; omega) ⟨n, d, dt⟩ (by have := HL.out; omega)
  have hs : w.heap.size ≤ (w1.alloc (oObj ⟨t0, t1, t2⟩)).heap.size := Nat.le_trans hb.size ba.size
  have hb2 : Below w.heap.size w w2 := (hb.trans (ba.mono hb.size)).trans (hc.below hs (fun k hk e => by have := (hlow k e).1; omega))
  have hON : wo n l ++ [⟨n, d, dt⟩] = onto n d dt l := rfl
  have hLn : (onto n d dt l).length ≤ 901 := by rw [onto_len]; have := HL.out; omega
  rw [hON] at ho2
  have P0 : Hid (PS w (onto n d dt l) 0 v' (.slice (some ⟨w2.heap.size, 0, none⟩) 0 0) (w2.alloc (.cells #[] tP))) := by
    have b3 : Below w2.heap.size w2 (w2.alloc (.cells #[] tP)) := (Below.refl _ w2).alloc (Nat.le_refl _) _
    refine hid ⟨hb2.trans (b3.mono hb2.size), ?_, ⟨rfl, Or.inr ⟨w2.heap.size, 0, #[], rfl, Nat.zero_le _, blk_new w2 _, Nat.le_refl _, Nat.zero_le _, rfl, rfl⟩⟩, fun g hg => ?_⟩
    · rw [List.drop_zero]
      exact ho2.read.below b3
    · have e : w2.heap.size = g := by simpa [Value.ownBlock] using hg
      have := hb2.size
      show w.heap.size ≤ g
      omega
  have HPM : Hid (PM = (onto n d dt l).drop ((onto n d dt l).length - size)) := hid hPM.symm
  have HOM : Hid (OM = gone (onto n d dt l) ((onto n d dt l).length - size)) := hid hOM.symm
  have HLn := hid hLn
  have HR1 := hid hr
  clear hr ho ho2 hb hb2 hc hk hlow hwl hs ba hON hLn hPM hOM
  generalize onto n d dt l = L at *
  obtain ⟨nl, hnl⟩ : ∃ x, L.length = x := ⟨_, rfl⟩
  have HNL := hid hnl
  rw [hnl] at HPM HOM
  clear hnl
  dsimp only [oObj] at HR1
  go_wp2_with (at_builtin; refine wpList_append_run rfl (.tmp 20) (.tmp 25) tOs tOs rfl _ _ (by simp [Act.eval]) (by simp [Act.eval]) HR1.out ?_)
  go_loopw [9, 12] (fun v vp wr => ∃ k : Nat, (k = 0 ∨ k ≤ nl - size) ∧ Hid (PS w L k v vp wr)) (fun v _ _ => lenV v)
  case atStart => exact ⟨0, Or.inl rfl, P0⟩
  case round =>
    obtain ⟨k, hk, HS⟩ := hrel
    clear P0
    have hu := HU.out.on HS.out.bel
    obtain ⟨v0, c0, c1, c2, c3⟩ := hu.cells
    obtain ⟨ao, cap, hv, hcap, hx⟩ := HS.out.row.ways
    obtain ⟨m, hm⟩ : ∃ x, (L.drop k).length = x := ⟨_, rfl⟩
    have HM2 : Hid (m = nl - k) := hid (by rw [← hm, List.length_drop, HNL.out])
    rw [hm] at hv hcap
    subst hv
    by_cases hlt : size < m
    · have hlt1 : (size : Int) < (m : Int) := by omega
      have hkl : k < L.length := by have := HM2.out; rw [HNL.out]; omega
      obtain ⟨g, o, hao, hg, x0, x1, x2⟩ := hx 0 (by rw [hm]; omega)
      subst hao
      have e0 : (L.drop k)[0]'(by rw [hm]; omega) = L[k] := by simp
      rw [e0, Nat.zero_mul, Nat.add_zero] at x0 x1 x2
      obtain ⟨cur, hty⟩ := HS.out.row.typed (by omega)
      have hrow := HS.out.row.tail (by omega)
      rw [List.drop_drop] at hrow
      have m1 : (0 : Int) < (m : Int) := by omega
      have HRW := hid hrow
      clear hrow e0 hx hm
      cases hy : L[k].w with
      | true =>
        rw [hy] at x2
        have HP := hid (fun (wq : World) (hb : Below wr.heap.size wr wq) => HS.out.push hb hkl hy (by have := HLn.out; omega) HRW.out)
        generalize L[k].n = y0 at *
        generalize L[k].d = y1 at *
        go_upto_region 6 with fail
        obtain ⟨v2, w2, hr2, hs2, hsame⟩ := HP.out wr.drew (Below.refl _ wr).drew
        have k0 : w2.cell? ⟨g, o, none⟩ = some (.int .i64 y0) := (hsame g cur o hty).trans x0
        have k1 : w2.cell? ⟨g, o + 1, none⟩ = some (.string (bs y1)) := (hsame g cur (o + 1) hty).trans x1
        have HR2 := hid hr2
        have HS2 := hid hs2
        clear hr2 hs2 HP hsame
        go_region_held_law (fun W => W.cell? ⟨g, o, none⟩ = some (.int .i64 y0) ∧ W.cell? ⟨g, o + 1, none⟩ = some (.string (bs y1)))
          (first | go_keep | exact ⟨k0, k1⟩)
          ((refine Mem.step_append_run (by rfl) (.tmp 39) (.tmp 49) tPs tPs (by rfl) _ _ (by simp [Act.eval]) (by simp [Act.eval]) HR2.out ?_))
        go_wp2
        all_goals exact ⟨⟨k + 1, Or.inr (by have := HM2.out; omega), HS2⟩, by simp only [lenV]; omega⟩
      | false =>
        rw [hy] at x2
        have HS2 := hid (HS.out.skip hkl hy HRW.out)
        go_wp2
        go_roundw
        case rel => exact ⟨k + 1, Or.inr (by have := HM2.out; omega), HS2⟩
        case measure => simp only [lenV]; omega
    · have hlt1 : ¬ (size : Int) < (m : Int) := by omega
      have hke : k = nl - size := by
        have := HM2.out
        rcases hk with h | h <;> omega
      have hs2 := HS.out
      rw [hke] at hs2
      have hrow := hs2.row
      have hout := hs2.out
      rw [← HPM.out] at hrow
      rw [← HOM.out] at hout
      have ht := hu.turn (hrow.mono (fun g _ hg => HR.out g hg))
      have HT := hid (And.intro ht.1 ((Chg.of_below hs2.bel).trans ht.2))
      have HO : Hid (PR (fun g => w.heap.size ≤ g) (wr.setCell ⟨u, 1, none⟩ (.slice ao m cap)) _ OM) := hid (hout.kept ht.2 (fun g hg e => by have := hout.2 g hg; have := HLT.out; omega))
      clear hs2 hrow hout ht hu hx
      go_wp2
      go_ret
      exact ⟨_, rfl, HO.out, HT.out⟩
end Ca
end Go.Proofs.Ythciofgkdfideaa
