/-
  A head that came in by value, as it is read.
-/
import Derived.Test.YtpfolialjajafaaHeadMath
import Derived.Test.YtpfolialjajafaaChecked
import Derived.ProofKit
import Derived.OpenShut
import Derived.ShutString
import Derived.Carry
import Derived.Lib.SmallJoins
namespace Go.Proofs.Ytpfolialjajafaa
open Go.ChangeShapes Go.WideShapes Go.ChangeAt Go.RowKit Go.Joins Go.Deep
open Go.ChangeMaps (open_string shut_string)
namespace Head

theorem array6 {α : Type} {cs : Array α} (h : cs.size = 6) : ∃ a b c d e f, cs = #[a, b, c, d, e, f] := by
  obtain ⟨l⟩ := cs
  match l, h with
  | [a, b, c, d, e, f], _ => exact ⟨a, b, c, d, e, f, rfl⟩
theorem cellsHead : Try.prog.cellsOf 24 = 6 := by kernel_rfl
theorem cellsI : Try.prog.cellsOf 3 = 1 := by kernel_rfl
theorem cellsU : Try.prog.cellsOf 22 = 1 := by kernel_rfl

set_option maxRecDepth 100000 in
theorem head_of {H : Type} {enc : TypeId × Value → H} {W : World} {base b0 : Nat} {sp : Nat → Bool} {held : Bool} {r : Reach} {v : Value} {d : DataW H} {ps : List MemPlace} (hv : Value.okWide Try.prog W r b0 24 v) (hd : DataW.Trod enc Try.prog W base sp held 24 v d ps) :
    ∃ (M P T S R : Int) (C : Nat), v = .agg #[.int .i64 M, .int .i64 P, .int .i64 T, .int .i64 S, .int .i64 R, .int .u64 C] ∧ C < 18446744073709551616 ∧ ps = [] := by
  obtain ⟨cs, rfl, hsz⟩ := okWide_struct Try.underlying24 hv
  obtain ⟨c0, c1, c2, c3, c4, c5, rfl⟩ := array6 (hsz.trans cellsHead)
  obtain ⟨fuel, hf⟩ := hd
  have hf' : DataW.trod enc Try.prog W base sp held fuel 24 [c0, c1, c2, c3, c4, c5] = some (d, ps) := hf
  obtain ⟨xs, n, _, hx, hl, hlen, hg⟩ := DataW.trod_struct Try.underlying24 hf'
  match xs, hlen with
  | [y0, y1, y2, y3, y4, y5], _ =>
    have e0 : DataW.trod enc Try.prog W base sp held n 3 [c0] = some y0 := by
      have e : DataW.trod enc Try.prog W base sp held n 3 (List.take (Try.prog.cellsOf 3) (List.drop 0 [c0, c1, c2, c3, c4, c5])) = some y0 := hg 0 _ rfl
      rw [cellsI] at e; exact e
    have e1 : DataW.trod enc Try.prog W base sp held n 3 [c1] = some y1 := by
      have e : DataW.trod enc Try.prog W base sp held n 3 (List.take (Try.prog.cellsOf 3) (List.drop 1 [c0, c1, c2, c3, c4, c5])) = some y1 := hg 1 _ rfl
      rw [cellsI] at e; exact e
    have e2 : DataW.trod enc Try.prog W base sp held n 3 [c2] = some y2 := by
      have e : DataW.trod enc Try.prog W base sp held n 3 (List.take (Try.prog.cellsOf 3) (List.drop 2 [c0, c1, c2, c3, c4, c5])) = some y2 := hg 2 _ rfl
      rw [cellsI] at e; exact e
    have e3 : DataW.trod enc Try.prog W base sp held n 3 [c3] = some y3 := by
      have e : DataW.trod enc Try.prog W base sp held n 3 (List.take (Try.prog.cellsOf 3) (List.drop 3 [c0, c1, c2, c3, c4, c5])) = some y3 := hg 3 _ rfl
      rw [cellsI] at e; exact e
    have e4 : DataW.trod enc Try.prog W base sp held n 3 [c4] = some y4 := by
      have e : DataW.trod enc Try.prog W base sp held n 3 (List.take (Try.prog.cellsOf 3) (List.drop 4 [c0, c1, c2, c3, c4, c5])) = some y4 := hg 4 _ rfl
      rw [cellsI] at e; exact e
    have e5 : DataW.trod enc Try.prog W base sp held n 22 [c5] = some y5 := by
      have e : DataW.trod enc Try.prog W base sp held n 22 (List.take (Try.prog.cellsOf 22) (List.drop 5 [c0, c1, c2, c3, c4, c5])) = some y5 := hg 5 _ rfl
      rw [cellsU] at e; exact e
    obtain ⟨z0, h0, rfl, w0⟩ := DataW.trod_int Try.underlying3 e0
    obtain ⟨z1, h1, rfl, w1⟩ := DataW.trod_int Try.underlying3 e1
    obtain ⟨z2, h2, rfl, w2⟩ := DataW.trod_int Try.underlying3 e2
    obtain ⟨z3, h3, rfl, w3⟩ := DataW.trod_int Try.underlying3 e3
    obtain ⟨z4, h4, rfl, w4⟩ := DataW.trod_int Try.underlying3 e4
    obtain ⟨z5, h5, rfl, w5⟩ := DataW.trod_int Try.underlying22 e5
    simp at h0 h1 h2 h3 h4 h5
    subst h0 h1 h2 h3 h4 h5
    obtain ⟨C, hC, rfl⟩ := Num.nat_u64 w5
    refine ⟨z0, z1, z2, z3, z4, C, rfl, hC, ?_⟩
    simpa using congrArg Prod.snd hx
end Head
end Go.Proofs.Ytpfolialjajafaa
