/-
  Contract of the project's onFile, over whatever function is handed to it.
-/
import Derived.Test.YtgmbiiocjhkpdaaGreatGrpJDkb
import Derived.RegionTactic
namespace Go.Proofs.YtgmbiiocjhkpdaaGreat
open Go.RowKit
namespace Disk
open Num (hid bcells)

theorem DiskAt.drew {tag : Nat → Tag} {w : World} {d m : Nat} {c : Ctl} {L : Ents} (h : DiskAt tag w d m c L) : DiskAt tag w.drew d m c L :=
  h.kept ((Chg.refl (fun _ => False) w).drew) (fun _ _ => rfl) (fun _ h => h.elim)
theorem DiskAt.alloc {tag : Nat → Tag} {w : World} {d m : Nat} {c : Ctl} {L : Ents} (h : DiskAt tag w d m c L) (o : Obj) : DiskAt tag (w.alloc o) d m c L :=
  h.kept ((Chg.refl (fun _ => False) w).alloc o) (fun _ _ => rfl) (fun _ h => h.elim)

set_option maxRecDepth 100000 in
set_option maxHeartbeats 2000000 in
theorem onfile_any (tag : Nat → Tag) (w : World) (d m : Nat) (c : Ctl) (L : Ents) (s : ByteArray) (hs : s.size ≤ maxLen) (fit : Bool) (g : FuncId) (caps : Array Value) (P : Int → World → Prop)
    (hop : Calls Tryz.prog 92 #[ptr d, .bool (fit && nameOk s), .func (.func 130) #[] #[ptr w.heap.size, ptr (w.heap.size + 1), ptr (w.heap.size + 1 + 1)]] ((((w.alloc (.cells #[ptr d] 24)).alloc (.cells #[.string s] tStr)).alloc (.cells #[.func (.func g) #[] caps] 135)).drew)
      (Ran tag d m c L (fit && nameOk s) P w)) :
    Calls Tryz.prog 102 #[ptr d, .string s, .bool fit, .func (.func g) #[] caps] w (Ran tag d m c L (fit && nameOk s) P w) := by
  have hmf : ∀ (fn : Fn) (first cap : Array Value) (w : World), (Instr.makeFunc fn first cap).run Tryz.prog w = .ok (.func fn first cap) w := fun _ _ _ _ => rfl
  have HOP := hid hop
  clear hop
  cases fit with
  | false =>
    rw [Bool.false_and] at HOP ⊢
    go_enter Tryz.func102, Tryz.ntmps102
    go_wp2
    go_region_with ((go_at_call 92; refine HOP.out.mono ?_; rintro e w' ⟨x, rfl, h⟩))
    all_goals
      have HH := hid h
      clear h
      go_wp2
      go_ret
      exact ⟨x, rfl, HH.out⟩
  | true =>
    rw [Bool.true_and] at HOP ⊢
    go_enter Tryz.func102, Tryz.ntmps102
    go_wp2
    go_region_with (first
      | (go_at_call 84; refine (isName_any s hs _).mono ?_; rintro e w' ⟨rfl, rfl⟩)
      | (go_at_call 92; refine HOP.out.mono ?_; rintro e w' ⟨x, rfl, h⟩))
    all_goals
      have HH := hid h
      clear h
      go_wp2
      go_ret
      exact ⟨x, rfl, HH.out⟩

end Disk
end Go.Proofs.YtgmbiiocjhkpdaaGreat
