/-
  Where a function has a node's box: the box, what was there, the node's lists.
-/
import Derived.Test.YtkoglikaaehhjaaGreatDoorNodeGood
import Derived.BigQuiet
import Derived.Deep.QuietTactic
namespace Go.Proofs.YtkoglikaaehhjaaGreatDoor
open Go.RowKit
namespace No
structure Gst (w : World) (f : Bool) (ks cs ps : Value) (n : N) (wr : World) : Prop where
  bx : Nb w.heap.size f ks cs ps wr
  be : Below w.heap.size w wr
  na : NAt wr ks cs ps n
theorem Gst.on {w wr w' : World} {f : Bool} {ks cs ps : Value} {n : N} (h : Gst w f ks cs ps n wr) (hb : Below wr.heap.size wr w') : Gst w f ks cs ps n w' := ⟨h.bx.on hb, h.be.trans (hb.mono h.be.size), h.na.on hb⟩
theorem Gst.drew {w wr : World} {f : Bool} {ks cs ps : Value} {n : N} (h : Gst w f ks cs ps n wr) : Gst w f ks cs ps n wr.drew := h.on (Below.refl _ _).drew
theorem Gst.alloc {w wr : World} {f : Bool} {ks cs ps : Value} {n : N} (h : Gst w f ks cs ps n wr) (o : Obj) : Gst w f ks cs ps n (wr.alloc o) := h.on ((Below.refl _ _).alloc (Nat.le_refl _) o)
theorem Gst.new {w : World} {f : Bool} {ks cs ps : Value} {n : N} (h : NAt w ks cs ps n) : Gst w f ks cs ps n (w.alloc (.cells #[.bool f, ks, cs, ps] tN)) := ⟨Nb.new f ks cs ps w, (Below.refl w.heap.size w).alloc (Nat.le_refl _) _, h.on ((Below.refl w.heap.size w).alloc (Nat.le_refl _) _)⟩
theorem wp_quiet_in {P : Program} {id : Nat} {Q : Exit → Act → World → Prop} {a : Act} {w : World} {l : List Oper} (C : World → Prop) (hm : P.follows .mixedOrders = true) (hB : Region.lexB .any l.toArray = true) (hC : C w.drew)
    (h : wpQuiet P l.toArray C (fun a' => ∀ w', C w' → Q .normal a' w') l a) : (Code.region id l.toArray true).wp P Q a w :=
  wp_region_quiet (C := C) hm hB hC (by simpa using h)
end No
end Go.Proofs.YtkoglikaaehhjaaGreatDoor
