/-
  ShelfFails: whatever stands on the pages, there are just the head's; calls that fail; what an act puts.
-/
import Derived.Test.YtbenjlddihpciaaShelfRows
import Derived.Test.YtbenjlddihpciaaShelfOpen
namespace Go.Proofs.Ytbenjlddihpciaa
open Go.RowKit
namespace Sh
open Sp (Hd hd0 Tr noT okT okT_iff pageT decT takeNew takeTrunk badT zeros last_split tH hV hObj)
open Num (hid)
open Mem (Bs bs IAt tI tS tIs tSs Chg Row ptr blk_cell blk_free blk_new blk_set blk_other blk_alloc row_kept row_shape row_type)
variable {s d N cnt : Nat} {lim : Int} {h : Hd} {arm : Int} {S : St} {w0 w w' : World}
theorem put_dom (k : Dom h S) (n : Int) (x : Bs) : Dom h (S.put n x).2 := by
  unfold St.put
  split
  · rename_i e he
    split
    · exact k
    · exact k.of rfl (set_dom he)
  · exact k
theorem ptr_dom (k : Dom h S) (n : Int) (t : Tr) : Dom h (putTrunk S n t).2 := by
  unfold putTrunk
  split
  · exact put_dom k n _
  · exact k
theorem tat_some {n : Int} (he : (trunkAt S n).1.2 = 0) : ∃ x, S.f n = some x := by
  cases e : S.f n with
  | some x => exact ⟨x, rfl⟩
  | none =>
    exfalso
    unfold trunkAt at he
    rw [get_no e, if_pos (show (21 : Int) ≠ 0 by decide)] at he
    exact absurd (show (21 : Int) = 0 from he) (by decide)
/-- Whatever stands on the pages. -/
structure Held (h : Hd) (S : St) : Prop where
  fit : Fit h
  dom : Dom h S
theorem held_new (k : Held h S) (lim : Int) : Held (newM lim h S).2.1 (newM lim h S).2.2 := by
  have hf := k.fit
  unfold Fit at hf
  unfold newM
  split
  · exact k
  · rename_i h0
    unfold takeM
    split
    · rename_i hs
      unfold takeNew
      split
      · exact k
      · rename_i hp
        refine ⟨?_, k.dom.new hf.1 _⟩
        show 1 ≤ h.pages + 1 ∧ h.pages + 1 ≤ 4096 ∧ (0 ≤ h.trunk ∧ h.trunk < h.pages + 1) ∧ (0 ≤ h.spare ∧ h.spare ≤ h.pages + 1)
        omega
    · rename_i hs
      unfold takeOf
      rw [tat_st]
      by_cases he : (trunkAt S h.trunk).1.2 = 0
      · rw [if_neg (fun e => e he)]
        obtain ⟨x, hx⟩ := tat_some he
        have htr := (k.dom h.trunk).1 ⟨x, hx⟩
        have hok := (okT_iff _).1 (tat_okT S h.trunk he)
        by_cases hb : badT h (trunkAt S h.trunk).1.1 = true
        · rw [if_pos hb]
          exact k
        · rw [if_neg hb]
          have hb2 : (trunkAt S h.trunk).1.1.next < h.pages ∧ (0 < (trunkAt S h.trunk).1.1.list.length → (trunkAt S h.trunk).1.1.list.getLastD 0 < h.pages) := by
            unfold badT at hb
            simp only [Bool.or_eq_true, decide_eq_true_eq, Bool.and_eq_true, not_or, not_and] at hb
            refine ⟨by omega, fun hl => ?_⟩
            have := hb.2 (by omega)
            omega
          by_cases hz : (trunkAt S h.trunk).1.1.list.length = 0
          · rw [if_pos hz]
            unfold takeTrunk
            split
            · exact k
            · refine ⟨?_, (k.dom.set htr.1 htr.2 _).of rfl (fun _ => Iff.rfl)⟩
              show 1 ≤ h.pages ∧ h.pages ≤ 4096 ∧ (0 ≤ (trunkAt S h.trunk).1.1.next ∧ (trunkAt S h.trunk).1.1.next < h.pages) ∧ (0 ≤ h.spare - 1 ∧ h.spare - 1 ≤ h.pages)
              omega
          · rw [if_neg hz]
            have hm := (last_split hz).2
            have hl1 := hok.2.2 _ hm
            have hl2 := hb2.2 (by omega)
            have hd2 := ptr_dom k.dom h.trunk ⟨(trunkAt S h.trunk).1.1.next, (trunkAt S h.trunk).1.1.list.dropLast⟩
            split
            · rename_i h1
              unfold more
              rw [if_pos h1]
              exact ⟨k.fit, hd2⟩
            · refine ⟨?_, (hd2.set hl1.1 hl2 _).of rfl (fun _ => Iff.rfl)⟩
              show 1 ≤ h.pages ∧ h.pages ≤ 4096 ∧ (0 ≤ h.trunk ∧ h.trunk < h.pages) ∧ (0 ≤ h.spare - 1 ∧ h.spare - 1 ≤ h.pages)
              omega
      · rw [if_pos he]
        unfold more
        rw [if_pos he]
        exact k
theorem tf_st (n : Int) : (trunkFor h S n).2 = S := by
  unfold trunkFor
  split
  · rfl
  · split
    · exact tat_st S h.trunk
    · split
      · exact tat_st S h.trunk
      · exact tat_st S h.trunk
theorem tf_at (n : Int) (he : (trunkFor h S n).1.2.2 = 0) : (trunkFor h S n).1.1 = n ∨ (trunkFor h S n).1.1 = h.trunk := by
  unfold trunkFor at he ⊢
  split
  · exact Or.inl rfl
  · split
    · rename_i h1 h2
      rw [if_neg h1, if_pos h2] at he
      exact absurd he h2
    · split
      · exact Or.inr rfl
      · exact Or.inl rfl
theorem held_free (k : Held h S) (n : Int) : Held (freeM h S n).2.1 (freeM h S n).2.2 := by
  have hf := k.fit
  unfold Fit at hf
  unfold freeM
  split
  · exact k
  · unfold giveM
    split
    · exact k
    · rename_i h1
      split
      · exact k
      · rename_i h2
        unfold giveOf
        rw [tf_st]
        by_cases he : (trunkFor h S n).1.2.2 = 0
        · rw [if_neg (fun e => e he)]
          have hat := tf_at n he
          have hd2 := ptr_dom k.dom (trunkFor h S n).1.1 (trunkFor h S n).1.2.1
          split
          · rename_i h3
            unfold after
            rw [if_pos h3]
            exact ⟨k.fit, hd2⟩
          · refine ⟨?_, hd2.of rfl (fun _ => Iff.rfl)⟩
            show 1 ≤ h.pages ∧ h.pages ≤ 4096 ∧ (0 ≤ (trunkFor h S n).1.1 ∧ (trunkFor h S n).1.1 < h.pages) ∧ (0 ≤ h.spare + 1 ∧ h.spare + 1 ≤ h.pages)
            omega
        · rw [if_pos he]
          unfold after
          rw [if_pos he]
          exact k
theorem held_put (k : Held h S) (n : Int) (x : Bs) : Held h (S.put n x).2 := ⟨k.fit, put_dom k.dom n x⟩
/-! ### calls that fail -/
set_option maxRecDepth 100000 in
theorem new_io (b : ShBlk s d lim h 1 w) :
    Calls Try.prog 13 #[ptr s] w fun e w' => e = .returned (.tuple #[.int .i64 0, .int .i64 11]) ∧ w = w' := by
  have HC := hid (call_io b)
  clear b
  go_enter Try.func13, Try.ntmps13
  go_wp2_with fail
  refine HC.out.mono ?_
  rintro e w1 ⟨rfl, rfl⟩
  go_wp2
  go_ret2
  exact ⟨rfl, rfl⟩
set_option maxRecDepth 100000 in
theorem new_nil (w : World) :
    Calls Try.prog 13 #[.pointer none] w fun e w' => e = .returned (.tuple #[.int .i64 0, .int .i64 2]) ∧ w = w' := by
  have HC := hid (call_nil w)
  go_enter Try.func13, Try.ntmps13
  go_wp2_with fail
  refine HC.out.mono ?_
  rintro e w1 ⟨rfl, rfl⟩
  go_wp2
  go_ret2
  exact ⟨rfl, rfl⟩
set_option maxRecDepth 100000 in
theorem free_io (b : ShBlk s d lim h 1 w) (n : Int) :
    Calls Try.prog 15 #[ptr s, .int .i64 n] w fun e w' => e = .returned (.int .i64 11) ∧ w = w' := by
  have HC := hid (call_io b)
  clear b
  go_enter Try.func15, Try.ntmps15
  go_wp2_with fail
  refine HC.out.mono ?_
  rintro e w1 ⟨rfl, rfl⟩
  go_wp2
  go_ret
  exact ⟨rfl, rfl⟩
/-! ### what an act puts -/
def datum (x : ActM) : ByteArray := if x.full then full x.data else x.data
def bl (b : ByteArray) : Bs := b.data.toList
theorem bs_bl (b : ByteArray) : bs (bl b) = b := by
  show (⟨b.data.toList.toArray⟩ : ByteArray) = b
  rw [Array.toArray_toList]
abbrev actA (x : ActM) : Value := .agg #[.int .i64 x.kind, .int .i64 x.n, .string x.data, .bool x.full]
abbrev actO (x : ActM) : Obj := .cells #[.int .i64 x.kind, .int .i64 x.n, .string x.data, .bool x.full] tAct
theorem act_cells {b : Nat} {x : ActM} {w : World} (k : w.heap[b]? = some (actO x)) : w.cell? ⟨b, 0, none⟩ = some (.int .i64 x.kind) ∧ w.cell? ⟨b, 1, none⟩ = some (.int .i64 x.n) ∧ w.cell? ⟨b, 2, none⟩ = some (.string x.data) ∧ w.cell? ⟨b, 3, none⟩ = some (.bool x.full) :=
  ⟨blk_cell k 0, blk_cell k 1, blk_cell k 2, blk_cell k 3⟩
set_option maxRecDepth 100000 in
theorem data_any (x : ActM) (w : World) :
    Calls Try.prog 19 #[actA x] w fun e w' => e = .returned (.string (bs (bl (datum x)))) ∧ Below w.heap.size w w' := by
  rw [bs_bl]
  obtain ⟨xk, xn, xd, xf⟩ := x
  have hb := hid ((Below.refl w.heap.size w).alloc (Nat.le_refl _) (actO ⟨xk, xn, xd, xf⟩))
  cases xf with
  | true =>
    have e : datum ⟨xk, xn, xd, true⟩ = full xd := rfl
    rw [e]
    have HF := hid (fun w => full_any xd w)
    clear e
    go_enter Try.func19, Try.ntmps19
    go_wp2_with fail
    refine (HF.out _).mono ?_
    rintro e w1 ⟨rfl, hb1⟩
    have HB := hid (hb.out.trans (hb1.mono hb.out.size))
    clear hb1
    go_wp2
    go_ret
    exact ⟨rfl, HB.out⟩
  | false =>
    have e : datum ⟨xk, xn, xd, false⟩ = xd := rfl
    rw [e]
    clear e
    go_enter Try.func19, Try.ntmps19
    go_wp2
    go_ret
    exact ⟨rfl, hb.out⟩
end Sh
end Go.Proofs.Ytbenjlddihpciaa
