/-
  Proved: for all numbers, strings and groups, MixTells(from, around, groups) returns true (a group of four bytes that is changed changes the sum, whatever stands around it; so does another beginning), leaves its arguments and the old memory as they were. No conditions.
-/
import Derived.Test.YtijppgjjbbkjoaaRows
import Derived.Test.YtijppgjjbbkjoaaMixTellsW
import Derived.ProofKit
import Derived.OpenShut
import Derived.ShutString
import Derived.SizedLaws
import Derived.Carry
import Derived.Laws.IdiomArrays
import Derived.Lib.SmallJoins
namespace Go.Proofs.Ytijppgjjbbkjoaa.mixTells
open Go.ChangeShapes Go.WideShapes Go.ChangeAt Go.RowKit
open Go.ChangeMaps (open_string shut_string)

theorem own : ownKnob Try.prog.godebug = none := by kernel_rfl
theorem laidOut : laidOutB Try.prog = true := by kernel_rfl
theorem cells1 : Try.prog.cellsOf 22 = 1 := by kernel_rfl
theorem cells2 : Try.prog.cellsOf 9 = 1 := by kernel_rfl
theorem cells3 : Try.prog.cellsOf 29 = 4 := by kernel_rfl
theorem cells4 : Try.prog.cellsOf 5 = 1 := by kernel_rfl
theorem cellsA : Try.prog.cellsOf 27 = 2 := by kernel_rfl
theorem cellsB : Try.prog.cellsOf 28 = 2 := by kernel_rfl
theorem cellsC : Try.prog.cellsOf 30 = 8 := by kernel_rfl

theorem array2 {α : Type} {cs : Array α} (h : cs.size = 2) : ∃ a b, cs = #[a, b] := by
  obtain ⟨l⟩ := cs
  match l, h with
  | [a, b], _ => exact ⟨a, b, rfl⟩
theorem array8 {α : Type} {cs : Array α} (h : cs.size = 8) : ∃ a b c d e f g k, cs = #[a, b, c, d, e, f, g, k] := by
  obtain ⟨l⟩ := cs
  match l, h with
  | [a, b, c, d, e, f, g, k], _ => exact ⟨a, b, c, d, e, f, g, k, rfl⟩
theorem list2 {α : Type} {l : List α} (h : l.length = 2) : ∃ a b, l = [a, b] := by
  match l, h with
  | [a, b], _ => exact ⟨a, b, rfl⟩

theorem okWide_array {P : Program} {W : World} {r : Reach} {b0 n : Nat} {t e : TypeId} {v : Value} (ht : P.underlying t = some (.array n e)) (h : Value.okWide P W r b0 t v) : ∃ cs : Array Value, v = .agg cs ∧ cs.size = P.cellsOf t := by
  simp only [Value.okWide, ht] at h
  obtain ⟨cs, h1, h2, _⟩ := h
  exact ⟨cs, h1, h2⟩

theorem byte_of {a : Int} (h : (Lit.int .u8 a).wf = true) : ∃ b : UInt8, a = (b.toNat : Int) := by
  have hb := bounds_u8 h
  refine ⟨UInt8.ofNat a.toNat, ?_⟩
  rw [UInt8.toNat_ofNat']
  omega

section
variable {H : Type} {enc : TypeId × Value → H} {W : World} {base b0 : Nat} {sp : Nat → Bool} {held : Bool} {r : Reach}
theorem open_f {v : Value} {d : DataW H} {ps : List MemPlace} (hv : Value.okWide Try.prog W r b0 27 v) (hd : DataW.Trod enc Try.prog W base sp held 27 v d ps) :
    ∃ n m : Nat, n < 18446744073709551616 ∧ m < 18446744073709551616 ∧ v = .agg #[.int .u64 n, .int .u64 m] ∧ ps = [] := by
  obtain ⟨cs, rfl, hsz⟩ := okWide_array Try.underlying27 hv
  obtain ⟨a, b, rfl⟩ := array2 (hsz.trans cellsA)
  obtain ⟨fuel, hf⟩ := hd
  obtain ⟨xs, k, rfl, hx, _, hl, he⟩ := DataW.trod_array Try.underlying27 hf
  obtain ⟨x, y, rfl⟩ := list2 hl
  have e0 := he 0 (by omega)
  have e1 := he 1 (by omega)
  rw [cells1] at e0 e1
  obtain ⟨n, hc0, rfl, wn⟩ := DataW.trod_int Try.underlying22 e0
  obtain ⟨m, hc1, rfl, wm⟩ := DataW.trod_int Try.underlying22 e1
  simp [Value.cells] at hc0 hc1
  subst hc0; subst hc1
  obtain ⟨n', hn, rfl⟩ := Num.nat_u64 wn
  obtain ⟨m', hm, rfl⟩ := Num.nat_u64 wm
  exact ⟨n', m', hn, hm, rfl, by simpa using congrArg Prod.snd hx⟩

theorem open_s {v : Value} {d : DataW H} {ps : List MemPlace} (hv : Value.okWide Try.prog W r b0 28 v) (hd : DataW.Trod enc Try.prog W base sp held 28 v d ps) :
    ∃ s0 s1 : ByteArray, v = .agg #[.string s0, .string s1] ∧ d = .agg [.lit (.string s0.data.toList), .lit (.string s1.data.toList)] ∧ ps = [] := by
  obtain ⟨cs, rfl, hsz⟩ := okWide_array Try.underlying28 hv
  obtain ⟨a, b, rfl⟩ := array2 (hsz.trans cellsB)
  obtain ⟨fuel, hf⟩ := hd
  obtain ⟨xs, k, rfl, hx, _, hl, he⟩ := DataW.trod_array Try.underlying28 hf
  obtain ⟨x, y, rfl⟩ := list2 hl
  have e0 := he 0 (by omega)
  have e1 := he 1 (by omega)
  rw [cells2] at e0 e1
  obtain ⟨s0, hc0, rfl, _⟩ := DataW.trod_string Try.underlying9 e0
  obtain ⟨s1, hc1, rfl, _⟩ := DataW.trod_string Try.underlying9 e1
  simp [Value.cells] at hc0 hc1
  subst hc0; subst hc1
  exact ⟨s0, s1, rfl, by simpa using congrArg Prod.fst hx, by simpa using congrArg Prod.snd hx⟩

theorem open_b {fuel : Nat} {a b c e : Value} {x : DataW H × List MemPlace} (h : DataW.trod enc Try.prog W base sp held fuel 29 [a, b, c, e] = some x) :
    ∃ g0 g1 g2 g3 : UInt8, a = .int .u8 (g0.toNat : Int) ∧ b = .int .u8 (g1.toNat : Int) ∧ c = .int .u8 (g2.toNat : Int) ∧ e = .int .u8 (g3.toNat : Int) ∧ x.2 = [] := by
  obtain ⟨y0, y1, y2, y3, n, rfl, e0, e1, e2, e3⟩ := trod_array4 Try.underlying29 cells4 h
  obtain ⟨n0, h0, rfl, w0⟩ := DataW.trod_int Try.underlying5 e0
  obtain ⟨n1, h1, rfl, w1⟩ := DataW.trod_int Try.underlying5 e1
  obtain ⟨n2, h2, rfl, w2⟩ := DataW.trod_int Try.underlying5 e2
  obtain ⟨n3, h3, rfl, w3⟩ := DataW.trod_int Try.underlying5 e3
  simp at h0 h1 h2 h3
  subst h0; subst h1; subst h2; subst h3
  obtain ⟨g0, rfl⟩ := byte_of w0
  obtain ⟨g1, rfl⟩ := byte_of w1
  obtain ⟨g2, rfl⟩ := byte_of w2
  obtain ⟨g3, rfl⟩ := byte_of w3
  exact ⟨g0, g1, g2, g3, rfl, rfl, rfl, rfl, rfl⟩
theorem open_g {v : Value} {d : DataW H} {ps : List MemPlace} (hv : Value.okWide Try.prog W r b0 30 v) (hd : DataW.Trod enc Try.prog W base sp held 30 v d ps) :
    ∃ g0 g1 g2 g3 h0 h1 h2 h3 : UInt8, v = .agg #[.int .u8 (g0.toNat : Int), .int .u8 (g1.toNat : Int), .int .u8 (g2.toNat : Int), .int .u8 (g3.toNat : Int), .int .u8 (h0.toNat : Int), .int .u8 (h1.toNat : Int), .int .u8 (h2.toNat : Int), .int .u8 (h3.toNat : Int)] ∧ ps = [] := by
  obtain ⟨cs, rfl, hsz⟩ := okWide_array Try.underlying30 hv
  obtain ⟨c0, c1, c2, c3, c4, c5, c6, c7, rfl⟩ := array8 (hsz.trans cellsC)
  obtain ⟨fuel, hf⟩ := hd
  obtain ⟨xs, k, rfl, hx, _, hl, he⟩ := DataW.trod_array Try.underlying30 hf
  obtain ⟨x, y, rfl⟩ := list2 hl
  have e0 := he 0 (by omega)
  have e1 := he 1 (by omega)
  rw [cells3] at e0 e1
  obtain ⟨g0, g1, g2, g3, rfl, rfl, rfl, rfl, p0⟩ := open_b e0
  obtain ⟨h0, h1, h2, h3, rfl, rfl, rfl, rfl, p1⟩ := open_b e1
  exact ⟨g0, g1, g2, g3, h0, h1, h2, h3, rfl, by simpa [p0, p1] using congrArg Prod.snd hx⟩
end

theorem sized_two {H : Type} {ts : List TypeId} {ds : List (DataW H)} (h : (DataW.weightsEach Try.prog ts ds).all (· ≤ reachBytes) = true) {j : Nat} {l0 l1 : List UInt8} (ht : ts[j]? = some 28) (hd : ds[j]? = some (.agg [.lit (.string l0), .lit (.string l1)])) : l0.length ≤ reachBytes ∧ l1.length ≤ reachBytes := by
  constructor
  · have := List.all_eq_true.1 h _ (DataW.weights_mem_each ht hd l0.length (by simp [DataW.weights, DataW.weightsAll, Try.underlying28]))
    simpa using this
  · have := List.all_eq_true.1 h _ (DataW.weights_mem_each ht hd l1.length (by simp [DataW.weights, DataW.weightsAll, Try.underlying28]))
    simpa using this

set_option maxRecDepth 100000 in
theorem lifted (os : Os) (started : os.Started) (H : Type) (enc : TypeId × Value → H) :
    ReturnsInHanded {} Try.checked os 5 .any (Rows.mixTellsSpec.pre6 enc Try.prog Try.f5 Rows.mixTellsRow.domain false) (Rows.mixTellsSpec.post enc Try.prog Try.f5 false true false false) := by
  refine returnsInHanded_of_change_sized (C := Try.checked) own started (by kernel_rfl) Try.func5
    (ChangeSpec.witness6 (enc := enc) (C := Try.checked) false ⟨#[], #[.agg #[.int .u64 0, .int .u64 0], .agg #[.string ByteArray.empty, .string ByteArray.empty], .agg #[.int .u8 0, .int .u8 0, .int .u8 0, .int .u8 0, .int .u8 0, .int .u8 0, .int .u8 0, .int .u8 0]], []⟩ 8 (by kernel_rfl) (by kernel_rfl) (by kernel_rfl) (by kernel_rfl)) ?_
  intro W base args ds gs before hval0 hW hcnd hsz0 _
  have hval : ∀ (j : Nat) t v, Try.f5.params[j]? = some t → args[j]? = some v → Value.okWide Try.prog W .any base t v := hval0
  have hW' := hW
  obtain ⟨p, q, hA0, hV, rfl, hfz, hnd⟩ := hW
  have hA : DataW.TrodAll enc Try.prog W 0 (fun _ => true) true Try.f5.params.toList args.toList ds p := hA0
  have hsz : (DataW.weightsEach Try.prog (Try.f5.params.toList ++ Rows.mixTellsSpec.plain.varTypes Try.prog) (ds ++ gs)).all (· ≤ reachBytes) = true := hsz0
  rw [Try.params5] at hA hval hsz
  obtain ⟨v0, vs0, d0, ds0, p0, q0, hargs, rfl, rfl, h0, r0⟩ := trodAll_cons hA
  obtain ⟨v1, vs1, d1, ds1, p1, q1, rfl, rfl, rfl, h1, r1⟩ := trodAll_cons r0
  obtain ⟨v2, vs2, d2, ds2, p2, q2, rfl, rfl, rfl, h2, r2⟩ := trodAll_cons r1
  obtain ⟨rfl, rfl, rfl⟩ := trodAll_nil r2
  obtain rfl : args = #[v0, v1, v2] := by cases args; simp_all
  obtain ⟨rfl, rfl⟩ := trodVars_none hV
  have k0 := h0
  have k1 := h1
  have k2 := h2
  obtain ⟨n, m, hn, hm, rfl, rfl⟩ := open_f (hval 0 27 v0 rfl rfl) h0
  obtain ⟨s0, s1, rfl, rfl, rfl⟩ := open_s (hval 1 28 v1 rfl rfl) h1
  obtain ⟨g0, g1, g2, g3, i0, i1, i2, i3, rfl, rfl⟩ := open_g (hval 2 30 v2 rfl rfl) h2
  have hz := sized_two hsz (j := 1) rfl rfl
  have z0 : s0.size ≤ 140737488351232 := by have := hz.1; simpa [reachBytes] using this
  have z1 : s1.size ≤ 140737488351232 := by have := hz.2; simpa [reachBytes] using this
  clear hA0 hval0
  simp only [List.append_nil] at hW'
  refine (walk n m hn hm s0 s1 g0 g1 g2 g3 i0 i1 i2 i3 z0 z1 W).mono fun e W' ⟨he, bel⟩ => ?_
  subst he
  exact ⟨_, rfl, _, _, _, [], _, [], hW', trodAll_mk1 (shut_bool Try.underlying4 _), trodAll_cons_mk (Below.trod laidOut (by kernel_rfl) (of_decide_eq_true (by kernel_rfl)) k0 bel (fun _ hx => by simp at hx)) (trodAll_cons_mk (Below.trod laidOut (by kernel_rfl) (of_decide_eq_true (by kernel_rfl)) k1 bel (fun _ hx => by simp at hx)) (trodAll_cons_mk (Below.trod laidOut (by kernel_rfl) (of_decide_eq_true (by kernel_rfl)) k2 bel (fun _ hx => by simp at hx)) trodAll_mk0)), rfl, bel.frame _, fun h => by cases h⟩

/-- The statement. -/
theorem proved : Rows.MixTellsSaid :=
  OpenClaim.holds_of_wide 5 Try.f5 rfl rfl rfl rfl rfl rfl rfl ⟨rfl, rfl, rfl, rfl, rfl⟩ rfl rfl rfl rfl rfl (by kernel_rfl) Try.func5 (by kernel_rfl)
    (of_decide_eq_true (by kernel_rfl)) (by unfold Func.isWrapper; first | (rw [if_pos (by decide +kernel)]; kernel_rfl) | (rw [if_neg (by decide +kernel)]; exact ⟨rfl, rfl⟩))
    (fun os started H enc _ => lifted os started H enc)

#print axioms proved
end Go.Proofs.Ytijppgjjbbkjoaa.mixTells
