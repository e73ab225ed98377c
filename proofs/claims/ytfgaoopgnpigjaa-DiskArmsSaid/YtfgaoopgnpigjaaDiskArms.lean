/-
  DiskArms: a fault is met in just the operation for which it was armed.
-/
import Derived.Test.YtfgaoopgnpigjaaRows
import Derived.Test.YtfgaoopgnpigjaaDiskArmsW
import Derived.ProofKit
import Derived.OpenShut
import Derived.ShutString
import Derived.Deep.Grids
import Derived.Carry
namespace Go.Proofs.Ytfgaoopgnpigjaa.diskArms
open Go.ChangeShapes Go.WideShapes Go.ChangeAt Go.RowKit
open Go.ChangeMaps (open_string shut_string)

theorem laidOut : laidOutB Try.prog = true := by kernel_rfl
theorem own : ownKnob Try.prog.godebug = none := by kernel_rfl

section
variable {H : Type} {enc : TypeId × Value → H} {W : World} {b0 : Nat} {held : Bool} {r : Reach}
theorem addr_lt {w : World} {a : Addr} {v : Value} (h : w.cell? a = some v) : a.block < w.heap.size ∧ a.spot = none := by
  constructor
  · rcases Nat.lt_or_ge a.block w.heap.size with h' | h'
    · exact h'
    · simp [World.cell?, Array.getElem?_eq_none h'] at h
  · cases hs : a.spot with
    | none => rfl
    | some x =>
      exfalso
      unfold World.cell? at h
      rw [hs] at h
      split at h
      · simp at h
      · cases h
set_option maxRecDepth 100000 in
/-- A slice of bools that came in. -/
theorem open_b {v : Value} {d : DataW H} {ps : List MemPlace} (hv : Value.okWide Try.prog W r b0 58 v) (hd : DataW.Trod enc Try.prog W 0 (fun _ => true) held 58 v d ps) :
    ∃ l : List Bool, l.length ≤ maxLen ∧ BoolsAt W W.heap.size v l ∧ ∀ x ∈ ps, x.block < W.heap.size := by
  obtain ⟨fuel, hf⟩ := hd
  obtain ⟨ao, n, c, rfl⟩ := okWide_slice Try.underlying58 hv
  have hc : Try.prog.cellsOf 4 = 1 := by kernel_rfl
  have e : (Value.slice ao n c).cells.toList = [.slice ao n c] := rfl
  rw [e] at hf
  rcases Deep.open_bools Try.underlying58 Try.underlying4 hc hf with ⟨hcs, hx⟩ | ⟨a, len, cap, B, hcs, _, hle, hm, hx, hcell⟩
  · cases hcs
    cases hx
    exact ⟨[], Nat.zero_le _, Or.inl ⟨none, 0, rfl, rfl⟩, fun x hx => by cases hx⟩
  · cases hcs
    cases hx
    refine ⟨(List.range n).map B, by rw [List.length_map, List.length_range]; omega, ?_, ?_⟩
    · by_cases hn : n = 0
      · subst hn
        exact Or.inl ⟨some a, c, rfl, rfl⟩
      · obtain ⟨hlt, hsp⟩ := addr_lt (hcell 0 (by omega))
        obtain ⟨b, o, sp⟩ := a
        have hsp' : sp = none := hsp
        subst hsp'
        refine Or.inr ⟨b, o, c, by rw [List.length_map, List.length_range], hlt, fun j hj => ?_⟩
        have hj2 : j < n := by simpa using hj
        have := hcell j (by omega)
        rw [show (⟨b, o, none⟩ : Addr).add j = ⟨b, o + j, none⟩ from by simp [Addr.add]] at this
        rw [this]
        simp
    · intro x hx
      obtain ⟨k, hk, rfl⟩ := List.mem_map.1 hx
      have hk2 : k < c := by simpa using hk
      have hb : (a.add k).block = a.block := by unfold Addr.add; repeat' split
                                                all_goals rfl
      have := (addr_lt (hcell k hk2)).1
      rw [hb] at this
      exact this
end

set_option maxRecDepth 100000 in
theorem lifted (os : Os) (started : os.Started) (H : Type) (enc : TypeId × Value → H) :
    ReturnsInHanded {} Try.checked os 11 .any (Rows.diskArmsSpec.pre6 enc Try.prog Try.f11 Rows.diskArmsRow.domain false) (Rows.diskArmsSpec.post enc Try.prog Try.f11 false true false false) := by
  refine returnsInHanded_of_change (C := Try.checked) own started (by kernel_rfl) Try.func11
    (ChangeSpec.witness6 (enc := enc) (C := Try.checked) false ⟨#[], #[.int .i64 0, .int .i64 0, .slice none 0 0], []⟩ 8 (by kernel_rfl) (by kernel_rfl) (by kernel_rfl) (by kernel_rfl)) ?_
  intro W base args ds gs before hval0 hW hcnd _
  have hval : ∀ (j : Nat) t v, Try.f11.params[j]? = some t → args[j]? = some v → Value.okWide Try.prog W .any base t v := hval0
  have hW' := hW
  obtain ⟨p, q, hA0, hV, rfl, hfz, hnd⟩ := hW
  have hA : DataW.TrodAll enc Try.prog W 0 (fun _ => true) true Try.f11.params.toList args.toList ds p := hA0
  rw [Try.params11] at hA hval
  obtain ⟨v0, vs0, d0, ds0, p0, q0, hargs, rfl, rfl, h0, r0⟩ := trodAll_cons hA
  obtain ⟨v1, vs1, d1, ds1, p1, q1, rfl, rfl, rfl, h1, r1⟩ := trodAll_cons r0
  obtain ⟨v2, vs2, d2, ds2, p2, q2, rfl, rfl, rfl, h2, r2⟩ := trodAll_cons r1
  obtain ⟨rfl, rfl, rfl⟩ := trodAll_nil r2
  obtain rfl : args = #[v0, v1, v2] := by cases args; simp_all
  obtain ⟨rfl, rfl⟩ := trodVars_none hV
  obtain ⟨a0, rfl, rfl, rfl, w0⟩ := open_int Try.underlying3 (hval 0 3 v0 rfl rfl) h0
  obtain ⟨a1, rfl, rfl, rfl, w1⟩ := open_int Try.underlying3 (hval 1 3 v1 rfl rfl) h1
  have k2 := h2
  obtain ⟨l, hl, hb, hlt⟩ := open_b (hval 2 58 v2 rfl rfl) h2
  clear hA0 hval0
  simp only [List.append_nil] at hW'
  refine (walk a0 a1 v2 l hl W hb).mono fun e W' ⟨he, bel⟩ => ?_
  subst he
  exact ⟨_, rfl, _, _, _, [], _, [], hW', trodAll_mk1 (shut_bool Try.underlying4 _), (trodAll_cons_mk (shut_int Try.underlying3 w0) (trodAll_cons_mk (shut_int Try.underlying3 w1) (trodAll_cons_mk (Below.trod laidOut (by kernel_rfl) (of_decide_eq_true (by kernel_rfl)) k2 bel hlt) trodAll_mk0))), rfl, bel.frame _, fun h => by cases h⟩

/-- The statement. -/
theorem proved : Rows.DiskArmsSaid :=
  OpenClaim.holds_of_wide 11 Try.f11 rfl rfl rfl rfl rfl rfl rfl ⟨rfl, rfl, rfl, rfl, rfl⟩ rfl rfl rfl rfl rfl (by kernel_rfl) Try.func11 (by kernel_rfl)
    (of_decide_eq_true (by kernel_rfl)) (by unfold Func.isWrapper; first | (rw [if_pos (by decide +kernel)]; kernel_rfl) | (rw [if_neg (by decide +kernel)]; exact ⟨rfl, rfl⟩))
    (fun os started H enc _ => lifted os started H enc)

#print axioms proved
end Go.Proofs.Ytfgaoopgnpigjaa.diskArms
