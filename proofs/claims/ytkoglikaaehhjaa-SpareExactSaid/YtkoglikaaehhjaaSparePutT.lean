/-
  Contracts of the project's putTrunk and trunkFor.
-/
import Derived.Test.YtkoglikaaehhjaaSpareTrunk
namespace Go.Proofs.Ytkoglikaaehhjaa
open Go.RowKit
namespace Sp
open Num (hid)
open Mem (Bs bs IAt tI tS tIs tSs Chg Row ptr blk_cell blk_free blk_new blk_set blk_other blk_alloc row_kept row_shape row_type wpList_append_run)
variable {R : Nat → Prop} {w : World} {d b : Nat} {S : St}
theorem ptr_bad {t : Tr} {n : Int} (h : okT t = false) : putTrunk S n t = (1, S) := by unfold putTrunk; rw [h]; rfl
theorem ptr_ok {t : Tr} {n : Int} (h : okT t = true) : putTrunk S n t = S.put n (pageT t) := by unfold putTrunk; rw [if_pos h]
set_option maxRecDepth 100000 in
set_option maxHeartbeats 4000000 in
theorem puttrunk_any (h : DeskR R w d b S) (hR : ∀ k, w.heap.size ≤ k → R k) {c : Nat} (hS : Small c S) (hc : c ≤ 50000) (n : Int) (t : Tr) (lv : Value) (hI : IAt w lv t.list) :
    Calls Try.prog 36 #[dkV d, .int .i64 n, trV t lv] w fun e w' => e = .returned (.int .i64 (putTrunk S n t).1) ∧ DeskR R w' d b (putTrunk S n t).2 ∧ Chg R w w' := by
  obtain ⟨ao, cap, rfl, hm, -, -⟩ := Mem.IAt.ways1 hI
  have T1 := hid (Tb.new t.next (.slice ao t.list.length cap) w)
  have B1 := hid ((Below.refl w.heap.size w).alloc (Nat.le_refl _) (tObj t.next (.slice ao t.list.length cap)))
  have HE := hid (encode_any t (.slice ao t.list.length cap) _ (hI.on B1.out))
  obtain ⟨c0, c1⟩ := T1.out.cells
  have HD := hid h
  have HW := hid hR
  have HP := hid (fun (w2 : World) (D2 : DeskR R w2 d b S) (hz : ∀ k, w2.heap.size ≤ k → R k) (x : Bs) => dput_any D2 hz hS hc n x)
  unfold trV sV2 at *
  cases ho : okT t with
  | false =>
    rw [ptr_bad ho]
    rw [enc_bad ho] at HE
    clear h hI hS hc ho hR
    go_enter Try.func36, Try.ntmps36
    go_wp2_with fail
    refine HE.out.mono ?_
    rintro e w3 ⟨rfl, hb⟩
    have B2 := hid (B1.out.trans (hb.mono B1.out.size))
    clear hb c0 c1
    go_wp2
    go_ret
    exact ⟨rfl, HD.out.on B2.out, Chg.of_below B2.out⟩
  | true =>
    rw [ptr_ok ho]
    rw [enc_good ho] at HE
    clear h hI hS hc ho hR
    generalize pageT t = P at *
    go_enter Try.func36, Try.ntmps36
    go_wp2_with fail
    refine HE.out.mono ?_
    rintro e w3 ⟨rfl, hb⟩
    have B2 := hid (B1.out.trans (hb.mono B1.out.size))
    clear hb c0 c1
    have HPx := hid (HP.out w3 (HD.out.on B2.out) (fun k hk => HW.out k (Nat.le_trans B2.out.size hk)) P)
    go_wp2_with fail
    refine HPx.out.mono ?_
    rintro e w4 ⟨rfl, hd4, hc4⟩
    have D4 := hid hd4
    have C4 := hid ((Chg.of_below B2.out).trans hc4)
    clear hd4 hc4
    go_wp2
    go_ret
    exact ⟨rfl, D4.out, C4.out⟩
end Sp
end Go.Proofs.Ytkoglikaaehhjaa
