/-
  Contracts of the project's sectors: a new one.
-/
import Derived.Test.YtiomojidfkpagaaDiskCtl
import Derived.Laws.CopyRow
import Derived.Deep.WholeRow
import Derived.Lib.SlBuf
namespace Go.Proofs.Ytiomojidfkpagaa
open Go.RowKit
namespace Disk
open Num (hid bcells)

/-- 'copy(dst, s)' of a string of whatever length into the first of a row. -/
theorem run_copy_head {P : Program} (w : World) (dT sT ty elem : TypeId) (g dLen dCap : Nat) (s : ByteArray) (cur : Array Value) (t : TypeId)
    (hu : P.underlying dT = some (.slice elem)) (hs : (P.info? elem).map (·.size) = some 1) (hg : w.heap[g]? = some (.cells cur t (0, 0))) (hfit : dLen ≤ cur.size) :
    (Builtin.copy_ #[dT, sT] ty #[.slice (some ⟨g, 0, none⟩) dLen dCap, .string s]).run P w =
      .ok (goInt (min s.size dLen)) (w.setRow g (bcells (s.data.toList.take dLen) ++ cur.toList.drop (min s.size dLen)).toArray) := by
  have hsz : s.size = s.data.toList.length := rfl
  have hlen : (bcells (s.data.toList.take (min s.size dLen))).length = min s.size dLen := by rw [Num.bcells_len, List.length_take, hsz]; omega
  have hst := run_storeCells_at P g 0 t (bcells (s.data.toList.take (min s.size dLen))) 0 cur w hg (by rw [hlen]; omega) (by
    intro v hv; simp only [bcells, List.mem_map] at hv; obtain ⟨b, _, rfl⟩ := hv; rfl)
  have htk : List.take (min s.size dLen) (List.map (fun b : UInt8 => Value.int IntKind.u8 (b.toNat : Int)) s.data.toList) = bcells (s.data.toList.take (min s.size dLen)) := by
    unfold bcells; rw [List.map_take]
  have htt : s.data.toList.take (min s.size dLen) = s.data.toList.take dLen := by
    rw [hsz]; rcases Nat.le_total dLen s.data.toList.length with h | h
    · rw [Nat.min_eq_right h]
    · rw [Nat.min_eq_left h, List.take_of_length_le (Nat.le_refl _), List.take_of_length_le h]
  rw [hlen] at hst
  simp only [Nat.add_zero, Nat.zero_add, List.take_zero, List.nil_append] at hst
  cases hq : P.info? elem with
  | none => simp [hq] at hs
  | some i =>
    have hm : Nat.min s.size dLen = min s.size dLen := rfl
    simp [Builtin.copy_, run_underlying hu, Builtin.lenOf, Builtin.firstCells, sizeOf, typeInfo, hq, hm]
    rw [htk, hst, htt]
    simp [Result.andThen]
    exact congrArg goInt (by omega)

theorem zeroSector : Try.zeroCells142 = secCells (some zeros) := by kernel_rfl

theorem drop_zero (k : Nat) (hk : k ≤ 256) : (Try.zeroCells142).toList.drop k = bcells (List.replicate (256 - k) 0) ++ [Value.bool false] := by
  rw [zeroSector]
  unfold secCells zeros
  simp only [Option.getD_some, Option.isNone_some, List.drop_append]
  have h1 : (bcells (List.replicate 256 0)).length = 256 := by rw [Num.bcells_len, List.length_replicate]
  rw [h1, Nat.sub_eq_zero_of_le hk, List.drop_zero]
  unfold bcells
  rw [← List.map_drop, List.drop_replicate]
theorem sector_copied (l : List UInt8) : (bcells (l.take 256) ++ (Try.zeroCells142).toList.drop (min l.length 256)).toArray = secCells (some (fitted l)) := by
  rw [drop_zero _ (by omega)]
  unfold secCells fitted
  have e : 256 - min l.length 256 = 256 - l.length := by omega
  rw [e, Option.getD_some, Option.isNone_some]
  unfold bcells
  rw [List.map_append, List.append_assoc]

set_option maxRecDepth 100000 in
theorem newSector_any (s : ByteArray) (w : World) :
    Calls Try.prog 116 #[.string s] w fun e w' => e = .returned (ptr w.heap.size) ∧ w' = w.alloc (.cells (secCells (some (fitted s.data.toList))) tSector) := by
  have hr := run_copy_head (P := Try.prog) (w.alloc (.cells Try.zeroCells142 tSector)) 103 9 3 5 w.heap.size 256 256 s Try.zeroCells142 tSector Try.underlying103 (by kernel_rfl) (blk_new _ _) (by
    have : (Try.zeroCells142).size = 257 := by kernel_rfl
    omega)
  have hsz : s.size = s.data.toList.length := rfl
  rw [World.setRow_alloc_new, hsz, sector_copied] at hr
  unfold tSector at hr
  have HZ := hid hsz
  clear hsz
  go_enter Try.func116, Try.ntmps116
  go_wp2
  go_ret
  exact ⟨rfl, rfl⟩

end Disk
end Go.Proofs.Ytiomojidfkpagaa
