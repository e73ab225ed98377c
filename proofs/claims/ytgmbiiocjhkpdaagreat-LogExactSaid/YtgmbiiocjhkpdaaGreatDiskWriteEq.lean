/-
  Contract of the project's disk: Write, at the end of a file.
-/
import Derived.Test.YtgmbiiocjhkpdaaGreatDiskWrite
namespace Go.Proofs.YtgmbiiocjhkpdaaGreat
open Go.RowKit
namespace Disk
open Num (hid bcells)

set_option maxRecDepth 100000 in
set_option maxHeartbeats 4000000 in
theorem write1_eq (tag : Nat → Tag) (w : World) (d m : Nat) (c : Ctl) (L : Ents) (D : DiskAt tag w d m c L) (s : ByteArray) (hs : s.size ≤ maxLen) (b : Nat) (F : Fil) (hg : get? L s.data.toList = some (b, F)) (l : ByteArray) (hl256 : l.size = 256) (k : Nat) (hk : k = F.ps.length) (a1 a2 a3 a4 : Nat)
    (B : WBox w d s (k : Int) l a1 a2 a3 a4) :
    Calls Tryz.prog 93 #[ptr a1, ptr a2, ptr a3, ptr a4] w (Gives fun x w' => x = (writeD c.room s.data.toList k l.data.toList (dirOf L)).1 ∧ Out tag d m ⟨c, (writeD c.room s.data.toList k l.data.toList (dirOf L)).2⟩ w w') := by
  obtain ⟨c0, c1, -, -, -, -, -, -⟩ := root_cells D.root.blk
  have hl := Owns.look (w := w.drew) D.owns s hs
  rw [hg] at hl
  have hl2 : _ = Result.ok (Value.pointer (some ⟨b, 0, none⟩)) w.drew := hl
  obtain ⟨v, Q, hf⟩ := D.file hg
  have hps : F.ps.length = Q.length := by rw [hf.ps, List.length_map]
  have x1 := cell_of_one B.b1
  have x2 := cell_of_one B.b2
  have x3 := cell_of_one B.b3
  have x4 := cell_of_one B.b4
  have f0 : w.cell? ⟨b, 0, none⟩ = some v := blk_cell hf.blk 0
  have hcan : canB L s.data.toList = true := by unfold canB; rw [hg]; rfl
  have hle := lens_le tag w d m c L D
  have hlen := hf.len
  have hlr := len_run hf.row
  have HD := hid D
  have HG := hid hg
  have HF := hid hf
  have HCAN := hid hcan
  have HB := hid B
  have HPS := hid hps
  have H256 := hid hl256
  have la1 := lt_of_block B.b1
  have la2 := lt_of_block B.b2
  have la3 := lt_of_block B.b3
  have la4 := lt_of_block B.b4
  have ld := lt_of_block D.root.blk
  have hgd : get? (dirOf L) s.data.toList = some F := by rw [dirOf_get, hg]; rfl
  have HGD := hid hgd
  have h1 : ¬ Q.length < k := by omega
  have h2 : k = Q.length := by omega
  have hr1 := hid h2
  have hnr : decide (Q.length < k) = false := decide_eq_false (by omega)
  have heq : ((k : Int) == (Q.length : Int)) = true := by simp [h2]
  have HCW : Hid (Chg (Mine tag) w w) := hid (Chg.refl _ _)
  clear hl hg hf hps D B hcan hgd hl256 h1 h2 hk
  go_enter Tryz.func93, Tryz.ntmps93
  go_wp2
  go_region
  all_goals
    go_wp2
    go_region_with (first
      | (go_at_call 85; refine (canHold_any tag _ d m c L (by exact HD.out.drew.drew) s hs).mono ?_; rintro e w' ⟨rfl, rfl⟩; rw [HCAN.out])
      | (go_at_call 94; refine (sectors_any tag _ d m c L (by exact HD.out.drew.drew)).mono ?_; rintro e w' ⟨rfl, hb⟩; have y1 := (hb.cell (p := ⟨a1, 0, none⟩) la1).trans x1; have y2 := (hb.cell (p := ⟨d, 1, none⟩) ld).trans c1))
    all_goals
      have hWc : Chg (fun _ => False) w w' := ((Chg.refl _ w).drew.drew).trans (Chg.of_below hb)
      clear hb y1 y2
      by_cases hfull : c.room ≤ (lens L : Int)
      · have e : writeD c.room s.data.toList k l.data.toList (dirOf L) = (12, dirOf L) := by
          have hp := HPS.out
          unfold writeD; simp only [HGD.out, Option.getD_some, dirOf_lens]; rw [if_neg (by have := hr1.out; omega), if_pos ⟨by have := hr1.out; omega, Or.inr hfull⟩]
        have HE := hid e
        have hfd : decide (c.room ≤ (lens L : Int)) = true := decide_eq_true hfull
        have HWC := hid hWc
        clear e hfull hWc
        go_wp2
        all_goals try (exfalso; have := of_decide_eq_true hfd; omega)
        go_ret
        refine ⟨12, rfl, ?_⟩
        rw [HE.out]
        exact ⟨rfl, tag, L, HD.out.kept HWC.out (fun _ _ => rfl) (fun _ h => h.elim), rfl, fun _ _ => rfl, HWC.out.mono (fun _ _ h => h.elim)⟩
      · have e : writeD c.room s.data.toList k l.data.toList (dirOf L) = (0, ins (dirOf L) s.data.toList (F.write k l.data.toList)) := by
          have hp := HPS.out
          unfold writeD; simp only [HGD.out, Option.getD_some, dirOf_lens, dirOf_can, HCAN.out, Int.toNat_natCast]; rw [if_neg (by have := hr1.out; omega), if_neg (fun h => h.2.elim (fun h => by cases h) (fun h => hfull h))]
        have HE := hid e
        have hfd : decide (c.room ≤ (lens L : Int)) = false := decide_eq_false hfull
        have HFU := hid hfull
        clear e hfull
        go_wp2
        all_goals try (exfalso; have := of_decide_eq_false hfd; omega)
        have hWc2 := hWc
        generalize w' = W3 at hWc hWc2 ⊢
        have D3 : DiskAt tag W3 d m c L := HD.out.kept hWc (fun _ _ => rfl) (fun _ h => h.elim)
        have B3 := HB.out.kept hWc (fun h => h) (fun h => h) (fun h => h) (fun h => h)
        have hF3 : ∃ v Q, FileAt tag W3 s.data.toList b F v Q := D3.file HG.out
        obtain ⟨w4, hrun4, ho4, ht4⟩ := Owns.put (w := W3.drew) D3.owns s hs (by have := D3.few; unfold maxLen; omega) b F
        obtain ⟨D4, hc4⟩ := D3.drew.putted (by obtain ⟨v3, Q3, h3⟩ := hF3; exact ⟨v3, Q3, h3.drew⟩) ho4 ht4 (by rw [(datum_there D3.owns.rises (F' := F) HG.out).2]; exact D3.few)
        have y0 := (root_cells D3.root.blk).1
        have y1 := cell_of_one B3.b1
        have y2 := cell_of_one B3.b2
        have hnm : ∀ a v t, W3.drew.heap[a]? = some (.cells #[v] t (0, 0)) → ¬ a = m := by
          intro a v t ha e
          obtain ⟨es, clock, hm⟩ := D3.owns.at
          have ha2 : W3.heap[a]? = some (.cells #[v] t (0, 0)) := ha
          rw [e, hm] at ha2; cases ha2
        have z3 := cell_of_one (hc4.at (w := W3.drew) B3.b3 (hnm _ _ _ B3.b3))
        have z4 := cell_of_one (hc4.at (w := W3.drew) B3.b4 (hnm _ _ _ B3.b4))
        have hcw : Chg (Mine tag) w w4 := ((HCW.out.trans (hWc.mono (fun _ _ h => h.elim))).trans ((Chg.refl _ W3).drew)).trans (hc4.mono (by rintro j _ rfl; unfold Mine; rw [D3.root.tagm]; simp))
        have HD4 := hid D4
        have HCW4 := hid hcw
        clear D3 B3 hF3 ho4 ht4 D4 hc4 hnm hcw hWc hWc2
        go_region
        all_goals
          obtain ⟨v4, Q4, hf4⟩ := HD4.out.file (get?_ins L s.data.toList (b, F))
          have hq4 : F.ps.length = Q4.length := by rw [hf4.ps, List.length_map]
          have hw5 := fwrite_any tag w4 s.data.toList b F v4 Q4 hf4 k (by have := HPS.out; have := hr1.out; omega) (fun _ => by have h1 := HFU.out; have h2 := HD.out.root.ok.room.2; have h3 := lens_mem (get?_mem HG.out); have h4 : F.ps.length ≤ lens L := h3; omega) l H256.out
          have HW5 := hid hw5
          clear hf4 hq4 hw5
          go_wp2_with fail
          refine HW5.out.mono ?_
          rintro e w5 ⟨rfl, ht5⟩
          have HT5 := hid ht5
          clear ht5
          go_wp2
          go_ret
          refine ⟨0, rfl, ?_⟩
          rw [HE.out]
          exact ⟨rfl, wrote_out HD4.out HCW4.out HT5.out⟩

end Disk
end Go.Proofs.YtgmbiiocjhkpdaaGreat
