/-
  Contract of the statements' own long: a value of so many bytes.
-/
import Derived.Test.YtkoglikaaehhjaaGreatDoorGrpNumC
import Derived.Test.YtkoglikaaehhjaaGreatDoorMem
namespace Go.Proofs.YtkoglikaaehhjaaGreatDoor
open Go.RowKit
namespace Ch
open Num (hid bcells)
open Mem (Bs bs)
/-- Its byte number i. -/
def lb (i : Nat) : UInt8 := UInt8.ofNat (i % 251 + 1)
def longB (n : Nat) : Bs := (List.range n).map lb
theorem long_len (n : Nat) : (longB n).length = n := by unfold longB; simp
theorem long_succ (k : Nat) : longB (k + 1) = longB k ++ [lb k] := by unfold longB; rw [List.range_succ, List.map_append]; rfl
theorem lb_nat (i : Nat) : ((lb i).toNat : Int) = ((i : Int) % 251 + 1) := by
  unfold lb
  rw [Num.ofNat_toNat]
  omega
theorem long_at {w : World} {base g n k : Nat} {e : TypeId} (h : w.ownsRow base e 1 (.slice (some ⟨g, 0, none⟩) n n) n (bcells (longB k ++ Num.zeroB (n - k)))) (hk : k < n) :
    w.cell? ⟨g, k, none⟩ = some (.int .u8 0) := by
  rw [h.cellAt k (by omega)]
  simp [bcells, Num.zeroB, List.getElem?_append, long_len]
  rw [show n - k = (n - (k + 1)) + 1 by omega]
  rfl
theorem long_store {w : World} {base g n k : Nat} {e : TypeId} (h : w.ownsRow base e 1 (.slice (some ⟨g, 0, none⟩) n n) n (bcells (longB k ++ Num.zeroB (n - k)))) (hk : k < n) :
    (w.setCell ⟨g, k, none⟩ (.int .u8 ((k : Int) % 251 + 1))).ownsRow base e 1 (.slice (some ⟨g, 0, none⟩) n n) n (bcells (longB (k + 1) ++ Num.zeroB (n - (k + 1)))) := by
  have h2 := (h.stored k (.int .u8 ((k : Int) % 251 + 1))).1
  have e1 : (bcells (longB k ++ Num.zeroB (n - k))).set k (.int .u8 ((k : Int) % 251 + 1)) = bcells (longB (k + 1) ++ Num.zeroB (n - (k + 1))) := by
    have e2 : Num.zeroB (n - k) = 0 :: Num.zeroB (n - (k + 1)) := by
      have : n - k = (n - (k + 1)) + 1 := by omega
      rw [this]
      rfl
    rw [e2, long_succ, ← lb_nat]
    simp only [bcells, List.map_append, List.map_cons]
    rw [List.set_append_right _ _ (by simp [long_len])]
    simp [long_len]
  rw [e1] at h2
  exact h2
set_option maxRecDepth 100000 in
set_option maxHeartbeats 1000000 in
theorem long_any (n : Nat) (h1 : 1 ≤ n) (hn : n ≤ 100000) (w : World) :
    Calls Tryz.prog 24 #[.int .i64 (n : Int)] w fun e w' => e = .returned (.string (bs (longB n))) ∧ Below w.heap.size w w' := by
  obtain ⟨i0, hi, hz0, hz1, hz2⟩ := info_parts Num.Tryz.info5
  have hn' : (n : Int) ≤ 9223372036854775807 := by omega
  go_enter Tryz.func24, Tryz.ntmps24
  go_wp2_with (at_make; refine wpList_make_full _ rfl _ _ 84 rfl w.heap.size 5 i0 (.int .u8 0) 1 Tryz.underlying84 hi hz0 hz1 .i64 .i64 _ _ n rfl rfl rfl rfl (by rw [hz2]; omega) (by unfold maxLen; omega) (Nat.le_refl _) ?_)
  intro w1 hown hgrow
  have hb1 : Below w.heap.size w w1 := (Below.refl _ _).grown hgrow (Nat.le_refl _) (fun k hk => by cases hk)
  have hown1 := Num.made_zero hown
  rw [List.append_nil] at hown1
  clear hgrow hown
  go_wp2
  go_loopw [4] (fun i wr => ∃ (k : Nat), i = .int .i64 (k : Int) ∧ k ≤ n ∧ wr.ownsRow w.heap.size 5 1 (.slice (some ⟨w.heap.size, 0, none⟩) n n) n (bcells (longB k ++ Num.zeroB (n - k))) ∧ Below w.heap.size w wr) (fun i _ => n - (intOf i).toNat)
  case atStart => exact ⟨0, rfl, Nat.zero_le _, hown1, hb1⟩
  case round =>
    clear hown1 hb1
    obtain ⟨k, rfl, hk, hown, hbel⟩ := hrel
    by_cases hlt : k < n
    · have hlt' : (k : Int) < (n : Int) := by omega
      have hc := long_at hown hlt
      have hf := hown.frozenAt k
      have HS := hid (long_store hown hlt)
      have HB := hid (hbel.setCell (p := ⟨w.heap.size, k, none⟩) (Nat.le_refl _) (.int .u8 ((k : Int) % 251 + 1)))
      have hm : (k : Int).tmod 251 = (k : Int) % 251 := Int.tmod_eq_emod_of_nonneg (by omega)
      have hm1 : IntKind.u8.wrap ((k : Int) % 251 + 1) = (k : Int) % 251 + 1 := by rw [IntKind.wrap_u8]; omega
      have hm2 : ((k : Int) % 251 + 1) % 256 = (k : Int) % 251 + 1 := by omega
      have hm3 : 0 ≤ (k : Int) % 251 ∧ (k : Int) % 251 ≤ 250 := by omega
      have HO := hid hown
      clear hown
      go_wp2
      go_roundw
      case rel => exact ⟨k + 1, by go_num, by omega, HS.out, HB.out⟩
      case measure => simp [intOf]; omega
    · have hlt' : ¬ (k : Int) < (n : Int) := by omega
      have e : k = n := by omega
      subst e
      have hown2 := hown
      rw [Nat.sub_self, show Num.zeroB 0 = [] from rfl, List.append_nil] at hown2
      have hcv := Num.conv_own (P := Tryz.prog) (l := longB k) (n := k) 84 9 5 Tryz.underlying84 Tryz.underlying5 Tryz.underlying9 (long_len k).symm (by rw [long_len]; omega) hown2
      clear hown hown2
      go_wp2
      go_ret
      exact ⟨rfl, hbel⟩
end Ch
end Go.Proofs.YtkoglikaaehhjaaGreatDoor
