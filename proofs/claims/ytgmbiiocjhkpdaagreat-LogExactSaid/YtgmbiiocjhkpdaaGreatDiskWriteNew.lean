/-
  Contract of the project's disk: Write, of a file that is not there.
-/
import Derived.Test.YtgmbiiocjhkpdaaGreatDiskWrite
namespace Go.Proofs.YtgmbiiocjhkpdaaGreat
open Go.RowKit
namespace Disk
open Num (hid bcells)

theorem Out.ofExt {tag tag' : Nat → Tag} {d m : Nat} {M : Mod} {w w' : World} (h : Out tag' d m M w w') (ht : ∀ k, k < w.heap.size → tag' k = tag k) : Out tag d m M w w' := by
  obtain ⟨t2, L', h1, h2, h3, h4⟩ := h
  refine ⟨t2, L', h1, h2, fun k hk => (h3 k hk).trans (ht k hk), h4.mono ?_⟩
  intro k hk h
  unfold Mine at h ⊢
  rw [ht k hk] at h
  exact h
/-- A file that was just made. -/
theorem fresh_file (tag : Nat → Tag) (w : World) (n : Nam) : FileAt (upd tag w.heap.size (.file n)) (w.alloc (.cells #[.slice none 0 0, .bool false] tFile)) n w.heap.size emptyFil (.slice none 0 0) [] :=
  ⟨blk_new _ _, upd_same _ _ _, World.ownsRow_nil _ _ _ _, (fun g hg => by cases hg), (fun x hx => by cases hx), rfl, Nat.zero_le _⟩

set_option maxRecDepth 100000 in
set_option maxHeartbeats 4000000 in
theorem write1_new (tag : Nat → Tag) (w : World) (d m : Nat) (c : Ctl) (L : Ents) (D : DiskAt tag w d m c L) (s : ByteArray) (hs : s.size ≤ maxLen) (hg : get? L s.data.toList = none) (l : ByteArray) (hl256 : l.size = 256) (k : Nat) (a1 a2 a3 a4 : Nat)
    (B : WBox w d s (k : Int) l a1 a2 a3 a4) :
    Calls Tryz.prog 93 #[ptr a1, ptr a2, ptr a3, ptr a4] w (Gives fun x w' => x = (writeD c.room s.data.toList k l.data.toList (dirOf L)).1 ∧ Out tag d m ⟨c, (writeD c.room s.data.toList k l.data.toList (dirOf L)).2⟩ w w') := by
  obtain ⟨c0, c1, -, -, -, -, -, -⟩ := root_cells D.root.blk
  have hl := Owns.look (w := w.drew) D.owns s hs
  rw [hg] at hl
  have hl2 : _ = Result.ok (Value.pointer none) w.drew := hl
  have x1 := cell_of_one B.b1
  have x2 := cell_of_one B.b2
  have x3 := cell_of_one B.b3
  have x4 := cell_of_one B.b4
  have hcan : canB L s.data.toList = decide (L.length < 8) := by unfold canB; rw [hg]; rfl
  have hle := lens_le tag w d m c L D
  have la1 := lt_of_block B.b1
  have la2 := lt_of_block B.b2
  have la3 := lt_of_block B.b3
  have la4 := lt_of_block B.b4
  have ld := lt_of_block D.root.blk
  have H0 := hid D
  have HG := hid hg
  have HCAN := hid hcan
  have H256 := hid hl256
  have hgd : get? (dirOf L) s.data.toList = none := by rw [dirOf_get, hg]; rfl
  have HGD := hid hgd
  have ht : ∀ j, j < w.heap.size → upd tag w.heap.size (.file s.data.toList) j = tag j := fun j hj => upd_ne _ _ (by omega)
  have HT := hid ht
  have ca : Chg (fun _ => False) w (w.alloc (.cells #[.slice none 0 0, .bool false] tFile)) := (Chg.refl _ w).alloc _
  have D1 : DiskAt (upd tag w.heap.size (.file s.data.toList)) (w.alloc (.cells #[.slice none 0 0, .bool false] tFile)) d m c L := D.kept ca ht (fun _ h => h.elim)
  have HD := hid D1
  have HB := hid (B.kept ca (fun h => h) (fun h => h) (fun h => h) (fun h => h))
  have HCW : Hid (Chg (Mine (upd tag w.heap.size (.file s.data.toList))) w (w.alloc (.cells #[.slice none 0 0, .bool false] tFile))) := hid (ca.mono (fun _ _ h => h.elim))
  have HF := hid (fresh_file tag w s.data.toList)
  by_cases h0 : 0 < k
  · have e : writeD c.room s.data.toList k l.data.toList (dirOf L) = (14, dirOf L) := by
      unfold writeD; simp only [hgd, Option.getD_none]; rw [if_pos (by show ((0 : Nat) : Int) < _; omega)]
    have HE := hid e
    clear hl hg D B hcan hgd e hl256 ht ca D1
    go_enter Tryz.func93, Tryz.ntmps93
    go_wp2
    go_region
    all_goals
      go_wp2
      go_ret
      refine ⟨14, rfl, ?_⟩
      rw [HE.out]
      exact ⟨rfl, Out.same (H0.out.kept (F := fun _ => False) (((Chg.refl _ w).alloc _).drew) (fun _ _ => rfl) (fun _ h => h.elim)) (((Chg.refl _ w).alloc _).drew)⟩
  · obtain rfl : k = 0 := by omega
    by_cases hfew : L.length < 8
    · have HFW := hid hfew
      have hcan2 : canB L s.data.toList = true := by rw [hcan]; exact decide_eq_true hfew
      have HCAN2 := hid hcan2
      have hsz : (w.alloc (.cells #[.slice none 0 0, .bool false] tFile)).heap.size = w.heap.size + 1 := by simp
      have LA1 : Hid (a1 < (w.alloc (.cells #[.slice none 0 0, .bool false] tFile)).heap.size) := hid (by rw [hsz]; omega)
      have LD : Hid (d < (w.alloc (.cells #[.slice none 0 0, .bool false] tFile)).heap.size) := hid (by rw [hsz]; omega)
      clear hl hg D B hcan hgd hl256 ht ca D1 hfew hcan2 h0 hsz
      go_enter Tryz.func93, Tryz.ntmps93
      go_wp2
      go_region
      all_goals
        go_wp2
        go_region_with (first
          | (go_at_call 85; refine (canHold_any (upd tag w.heap.size (.file s.data.toList)) _ d m c L (by exact HD.out.drew.drew) s hs).mono ?_; rintro e w' ⟨rfl, rfl⟩; rw [HCAN2.out])
          | (go_at_call 94; refine (sectors_any (upd tag w.heap.size (.file s.data.toList)) _ d m c L (by exact HD.out.drew.drew)).mono ?_; rintro e w' ⟨rfl, hb⟩; have y1 := (hb.cell (p := ⟨a1, 0, none⟩) LA1.out).trans (cell_of_one HB.out.b1); have y2 := (hb.cell (p := ⟨d, 1, none⟩) LD.out).trans (root_cells HD.out.root.blk).2.1))
        all_goals
          have hWc : Chg (fun _ => False) (w.alloc (.cells #[.slice none 0 0, .bool false] tFile)) w' := ((Chg.refl _ (w.alloc (.cells #[.slice none 0 0, .bool false] tFile))).drew.drew).trans (Chg.of_below hb)
          clear hb y1 y2
          by_cases hfull : c.room ≤ (lens L : Int)
          · have e : writeD c.room s.data.toList (0 : Nat) l.data.toList (dirOf L) = (12, dirOf L) := by
              unfold writeD; simp only [HGD.out, Option.getD_none, dirOf_lens]; rw [if_neg (by show ¬ ((0 : Nat) : Int) < _; omega), if_pos ⟨rfl, Or.inr hfull⟩]
            have HE := hid e
            have hfd : decide (c.room ≤ (lens L : Int)) = true := decide_eq_true hfull
            have HWC := hid hWc
            clear e hfull hWc
            go_wp2
            all_goals try (exfalso; have := of_decide_eq_true hfd; omega)
            go_ret
            refine ⟨12, rfl, ?_⟩
            have e2 := HE.out
            refine ⟨by rw [e2], ?_⟩
            rw [e2]
            refine Out.ofExt ⟨upd tag w.heap.size (.file s.data.toList), L, HD.out.kept HWC.out (fun _ _ => rfl) (fun _ h => h.elim), rfl, fun _ _ => rfl, HCW.out.trans (HWC.out.mono (fun _ _ h => h.elim))⟩ HT.out
          · have e : writeD c.room s.data.toList (0 : Nat) l.data.toList (dirOf L) = (0, ins (dirOf L) s.data.toList (emptyFil.write 0 l.data.toList)) := by
              unfold writeD; simp only [HGD.out, Option.getD_none, dirOf_lens, dirOf_can, HCAN2.out]; rw [if_neg (by show ¬ ((0 : Nat) : Int) < _; omega), if_neg (fun h => h.2.elim (fun h => by cases h) (fun h => hfull h))]; rfl
            have HE := hid e
            have hfd : decide (c.room ≤ (lens L : Int)) = false := decide_eq_false hfull
            clear e hfull
            go_wp2
            all_goals try (exfalso; have := of_decide_eq_false hfd; omega)
            have hWc2 := hWc
            generalize w' = W3 at hWc hWc2 ⊢
            have D3 : DiskAt (upd tag w.heap.size (.file s.data.toList)) W3 d m c L := HD.out.kept hWc (fun _ _ => rfl) (fun _ h => h.elim)
            have B3 := HB.out.kept hWc (fun h => h) (fun h => h) (fun h => h) (fun h => h)
            have hF3 : ∃ v Q, FileAt (upd tag w.heap.size (.file s.data.toList)) W3 s.data.toList w.heap.size emptyFil v Q := ⟨_, _, HF.out.kept hWc (fun _ _ => rfl) (fun _ h => h.elim)⟩
            obtain ⟨w4, hrun4, ho4, ht4⟩ := Owns.put (w := W3.drew) D3.owns s hs (by have := D3.few; unfold maxLen; omega) w.heap.size emptyFil
            obtain ⟨D4, hc4⟩ := D3.drew.putted (by obtain ⟨v3, Q3, h3⟩ := hF3; exact ⟨v3, Q3, h3.drew⟩) ho4 ht4 (by have h1 : ∀ {α : Type} (L : List (Nam × α)) (n : Nam) (a : α), (∀ e ∈ L, e.1 ≠ n) → (ins L n a).length = L.length + 1 := (fun L n a h => by unfold ins; rw [insB_len, del_self h]); rw [h1 _ _ _ (get?_none HG.out)]; have := HFW.out; omega)
            have y0 := (root_cells D3.root.blk).1
            have y1 := cell_of_one B3.b1
            have y2 := cell_of_one B3.b2
            have hnm : ∀ a v t, W3.drew.heap[a]? = some (.cells #[v] t (0, 0)) → ¬ a = m := by
              intro a v t ha e
              obtain ⟨es, clock, hm⟩ := D3.owns.at
              have ha2 : W3.heap[a]? = some (.cells #[v] t (0, 0)) := ha
              rw [e, hm] at ha2; cases ha2
            have z3 := cell_of_one (hc4.at (w := W3.drew) B3.b3 (hnm _ _ _ B3.b3))
            have z4 := cell_of_one (hc4.at (w := W3.drew) B3.b4 (hnm _ _ _ B3.b4))
            have hcw : Chg (Mine (upd tag w.heap.size (.file s.data.toList))) w w4 := ((HCW.out.trans (hWc.mono (fun _ _ h => h.elim))).trans ((Chg.refl _ W3).drew)).trans (hc4.mono (by rintro j _ rfl; unfold Mine; rw [D3.root.tagm]; simp))
            have HD4 := hid D4
            have HCW4 := hid hcw
            clear D3 B3 hF3 ho4 ht4 D4 hc4 hnm hcw hWc hWc2
            go_region
            all_goals
              obtain ⟨v4, Q4, hf4⟩ := HD4.out.file (get?_ins L s.data.toList (w.heap.size, emptyFil))
              have hq4 : emptyFil.ps.length = Q4.length := by rw [hf4.ps, List.length_map]
              have hw5 := fwrite_any (upd tag w.heap.size (.file s.data.toList)) w4 s.data.toList w.heap.size emptyFil v4 Q4 hf4 0 (Nat.zero_le _) (fun e => by omega) l H256.out
              have HW5 := hid hw5
              clear hf4 hq4 hw5
              go_wp2_with fail
              refine HW5.out.mono ?_
              rintro e w5 ⟨rfl, ht5⟩
              have HT5 := hid ht5
              clear ht5
              go_wp2
              go_ret
              refine ⟨0, rfl, ?_⟩
              have e2 := HE.out
              refine ⟨by rw [e2], ?_⟩
              rw [e2]
              exact (Out.ofExt (wrote_out HD4.out HCW4.out HT5.out) HT.out)
    · have hcan2 : canB L s.data.toList = false := by rw [hcan]; exact decide_eq_false hfew
      have HCAN2 := hid hcan2
      have e : writeD c.room s.data.toList (0 : Nat) l.data.toList (dirOf L) = (12, dirOf L) := by
        unfold writeD; simp only [hgd, Option.getD_none, dirOf_can, hcan2]; rw [if_neg (by show ¬ ((0 : Nat) : Int) < _; omega), if_pos ⟨rfl, Or.inl trivial⟩]
      have HE := hid e
      clear hl hg D B hcan hgd hl256 ht ca D1 hfew hcan2 h0 e
      go_enter Tryz.func93, Tryz.ntmps93
      go_wp2
      go_region
      all_goals
        go_wp2
        go_region_with (first
          | (go_at_call 85; refine (canHold_any (upd tag w.heap.size (.file s.data.toList)) _ d m c L (by exact HD.out.drew.drew) s hs).mono ?_; rintro e w' ⟨rfl, rfl⟩; rw [HCAN2.out]))
        all_goals
          go_wp2
          go_ret
          refine ⟨12, rfl, ?_⟩
          have e2 := HE.out
          refine ⟨by rw [e2], ?_⟩
          rw [e2]
          exact Out.same (H0.out.kept (F := fun _ => False) (((Chg.refl _ w).alloc _).drew.drew) (fun _ _ => rfl) (fun _ h => h.elim)) (((Chg.refl _ w).alloc _).drew.drew)

end Disk
end Go.Proofs.YtgmbiiocjhkpdaaGreat
