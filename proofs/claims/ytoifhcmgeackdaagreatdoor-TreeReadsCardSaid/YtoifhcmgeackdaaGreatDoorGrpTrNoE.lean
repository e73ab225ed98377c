/-
  Put together: NodeFind, NodeFrame, NodeLaid, NodeGst.
-/
import Derived.Test.YtoifhcmgeackdaaGreatDoorGrpTrNoB
import Derived.Test.YtoifhcmgeackdaaGreatDoorGrpTrNoA
import Derived.ProofKit
import Derived.OpenShut
import Derived.ShutString
import Derived.Deep.Slices
import Derived.Deep.Fields
import Derived.SizedLaws
import Derived.Carry
import Derived.Lib.SmallJoins
import Derived.Test.YtoifhcmgeackdaaGreatDoorRows
import Derived.HandedShaped
import Derived.Shelf.Vars
import Derived.LaidMore
import Derived.Lay
import Derived.Stop.Joined
import Derived.Test.YtoifhcmgeackdaaGreatDoorNodeGood
import Derived.BigQuiet
import Derived.Deep.QuietTactic
/-
  Contract of the project's Find: the library's binary search over keys that rise.
-/
namespace Go.Proofs.YtoifhcmgeackdaaGreatDoor
open Go.RowKit
namespace No
open Num (hid)
def findR (n : N) (key : Bs) : Nat × Bool := if okN n then (fi n.ks key, isAt n.ks key) else (0, false)
theorem isAt_yes {l : List Bs} {key : Bs} {i : Nat} (hi : i < l.length) (hf : fi l key = i) (h : Lib.compareBytes l[i] key = 0) : isAt l key = true := by
  unfold isAt
  subst hf
  rw [List.getElem?_eq_getElem hi]
  exact decide_eq_true (congrArg some ((cmp_zero _ _).1 h))
theorem isAt_no {l : List Bs} {key : Bs} {i : Nat} (hi : i < l.length) (hf : fi l key = i) (h : ¬ Lib.compareBytes l[i] key = 0) : isAt l key = false := by
  unfold isAt
  subst hf
  rw [List.getElem?_eq_getElem hi]
  refine decide_eq_false fun e => h ?_
  rw [cmp_zero]
  exact Option.some.inj e
theorem isAt_end {l : List Bs} {key : Bs} {i : Nat} (hi : ¬ i < l.length) (hf : fi l key = i) : isAt l key = false := by
  unfold isAt
  rw [hf, List.getElem?_eq_none (by omega)]
  rfl
set_option maxRecDepth 100000 in
set_option maxHeartbeats 2000000 in
theorem bsearch_any (x : Value) (l : List Bs) (key : Bs) (hr : rise l = true) (hmax : l.length ≤ 1000000) (w : World) (h : SAt w x l) :
    Calls Tryz.prog 102 #[x, .string (bs key), .func (.func 103) #[] #[]] w fun e w' => e = .returned (.tuple #[.int .i64 (fi l key : Nat), .bool (isAt l key)]) ∧ Below w.heap.size w w' := by
  obtain ⟨ao, cap, rfl, -, -, hat⟩ := SAt.ways1 h
  have HAT := hid hat
  have HR := hid hr
  clear h hat hr
  go_enter Tryz.func102, Tryz.ntmps102
  go_wp2
  go_loopw [9, 10] (fun i j wr => ∃ lo hi : Nat, i = .int .i64 lo ∧ j = .int .i64 hi ∧ lo ≤ hi ∧ hi ≤ l.length ∧ Hid (∀ t (ht : t < lo) (hl : t < l.length), less l[t] key = true) ∧ Hid (∀ t (ht : hi ≤ t) (hl : t < l.length), less l[t] key = false) ∧ Hid (Below w.heap.size w wr)) (fun i j _ => (intOf j).toNat - (intOf i).toNat)
  case atStart => exact ⟨0, l.length, rfl, rfl, Nat.zero_le _, Nat.le_refl _, hid (fun t ht => absurd ht (Nat.not_lt_zero _)), hid (fun t ht hl => absurd hl (by omega)), hid (Below.refl _ _)⟩
  case round =>
    obtain ⟨lo, hi, rfl, rfl, hlh, hhl, HL, HH, HB⟩ := hrel
    by_cases hlt : lo < hi
    · have hmid : (lo + hi) / 2 < l.length := by omega
      obtain ⟨b, o, rfl, hbl, x0⟩ := HAT.out ((lo + hi) / 2) hmid
      have cm := (HB.out.cell (p := ⟨b, o + (lo + hi) / 2, none⟩) hbl).trans x0
      clear x0
      obtain ⟨y, hy⟩ : ∃ y, l[(lo + hi) / 2] = y := ⟨_, rfl⟩
      rw [hy] at cm
      have HC : Hid (∀ wx, Calls Tryz.prog 103 #[.string (bs y), .string (bs key)] wx fun e w' => e = .returned (.int .i64 (Lib.compareBytes y key)) ∧ wx = w') := hid (cmp_any (bs y) (bs key))
      have HLs := less_cmp y key
      by_cases hyx : Lib.compareBytes y key < 0
      · rw [decide_eq_true hyx] at HLs
        have HY : Hid (less (l[(lo + hi) / 2]) key = true) := hid (by rw [hy]; exact HLs)
        clear HLs hy
        go_wp2_with fail
        refine (HC.out _).mono ?_
        rintro e w' ⟨rfl, rfl⟩
        go_wp2
        go_roundw
        case measure => simp [intOf]; omega
        case rel =>
          refine ⟨(lo + hi) / 2 + 1, hi, by rw [show ((lo : Int) + (hi : Int)) / 2 + 1 = (((lo + hi) / 2 + 1 : Nat) : Int) by omega], rfl, by omega, hhl, hid fun t ht hl => ?_, HH, HB⟩
          by_cases e : t = (lo + hi) / 2
          · subst e; exact HY.out
          · exact less_trans (rise_lt HR.out _ t hmid (by omega)) HY.out
      · rw [decide_eq_false hyx] at HLs
        have HY : Hid (less (l[(lo + hi) / 2]) key = false) := hid (by rw [hy]; exact HLs)
        clear HLs hy
        go_wp2_with fail
        refine (HC.out _).mono ?_
        rintro e w' ⟨rfl, rfl⟩
        go_wp2
        go_roundw
        case measure => simp [intOf]; omega
        case rel =>
          refine ⟨lo, (lo + hi) / 2, rfl, by rw [show ((lo : Int) + (hi : Int)) / 2 = (((lo + hi) / 2 : Nat) : Int) by omega], by omega, by omega, HL, hid fun t ht hl => ?_, HB⟩
          by_cases e : t = (lo + hi) / 2
          · subst e; exact HY.out
          · cases h4 : less l[t] key with
            | false => rfl
            | true =>
              have := less_trans (rise_lt HR.out t ((lo + hi) / 2) hl (by omega)) h4
              rw [HY.out] at this
              cases this
    · obtain rfl : hi = lo := by omega
      have hfi : fi l key = hi := fi_unique l key hi hhl (fun i h => HL.out i h (by omega)) (fun h => HH.out hi (Nat.le_refl _) h)
      by_cases hn : hi < l.length
      · have hn' : (hi : Int) < l.length := by omega
        obtain ⟨b, o, rfl, hbl, x0⟩ := HAT.out hi hn
        have cm := (HB.out.cell (p := ⟨b, o + hi, none⟩) hbl).trans x0
        clear x0
        have HC : Hid (∀ wx, Calls Tryz.prog 103 #[.string (bs l[hi]), .string (bs key)] wx fun e w' => e = .returned (.int .i64 (Lib.compareBytes l[hi] key)) ∧ wx = w') := hid (cmp_any (bs l[hi]) (bs key))
        by_cases hyx : Lib.compareBytes l[hi] key = 0
        · have HE := hid (isAt_yes hn hfi hyx)
          have HF := hid hfi
          have hyx' : (Lib.compareBytes l[hi] key == 0) = true := by simpa using hyx
          clear hfi
          go_wp2_with fail
          refine (HC.out _).mono ?_
          rintro e w' ⟨rfl, rfl⟩
          go_wp2
          go_ret2
          exact ⟨by rw [HE.out, HF.out]; rfl, HB.out⟩
        · have HE := hid (isAt_no hn hfi hyx)
          have HF := hid hfi
          have hyx' : (Lib.compareBytes l[hi] key == 0) = false := by simpa using hyx
          clear hfi
          go_wp2_with fail
          refine (HC.out _).mono ?_
          rintro e w' ⟨rfl, rfl⟩
          go_wp2
          go_ret2
          exact ⟨by rw [HE.out, HF.out]; rfl, HB.out⟩
      · have hn' : ¬ (hi : Int) < l.length := by omega
        have HE := hid (isAt_end hn hfi)
        have HF := hid hfi
        clear hfi
        go_wp2
        go_ret2
        exact ⟨by rw [HE.out, HF.out]; rfl, HB.out⟩
def fV (x : Nat × Bool) : Value := .tuple #[.int .i64 (x.1 : Nat), .bool x.2]
set_option maxRecDepth 100000 in
set_option maxHeartbeats 1000000 in
theorem find_any (kv cv pv : Value) (n : N) (key : Bs) (hp : n.ps.length ≤ 4000) (hk : n.ks.length ≤ 1000000) (w : World) (h : NAt w kv cv pv n) :
    Calls Tryz.prog 63 #[nV n.f kv cv pv, .string (bs key)] w fun e w' => e = .returned (fV (findR n key)) ∧ Below w.heap.size w w' := by
  have B1 := hid ((Below.refl w.heap.size w).alloc (Nat.le_refl _) (.cells #[.bool n.f, kv, cv, pv] tN))
  have N1 := hid (Nb.new n.f kv cv pv w)
  have HA1 := hid (h.on ((Below.refl w.heap.size w).alloc (Nat.le_refl _) (.cells #[.bool n.f, kv, cv, pv] tN)))
  have HG := hid (fun w h => good_any kv cv pv n hp hk w h)
  have HB := hid (fun hr w h => bsearch_any kv n.ks key hr hk w h)
  unfold findR fV
  unfold nV at *
  generalize n.f = f at *
  cases ho : okN n with
  | false =>
    rw [ho] at HG
    rw [if_neg (by decide)]
    clear h ho HB
    go_enter Tryz.func63, Tryz.ntmps63
    go_wp2_with fail
    refine (HG.out _ HA1.out).mono ?_
    rintro e w3 ⟨rfl, hb⟩
    have B2 := hid (B1.out.trans (hb.mono B1.out.size))
    clear hb
    go_wp2
    go_ret2
    exact ⟨rfl, B2.out⟩
  | true =>
    rw [ho] at HG
    have hr : rise n.ks = true := by
      unfold okN at ho
      rw [Bool.and_eq_true, Bool.and_eq_true] at ho
      exact ho.2.1
    have HBB := hid (HB.out hr)
    rw [if_pos rfl]
    clear h ho HB hr
    go_enter Tryz.func63, Tryz.ntmps63
    go_wp2_with fail
    refine (HG.out _ HA1.out).mono ?_
    rintro e w3 ⟨rfl, hb⟩
    have B2 := hid (B1.out.trans (hb.mono B1.out.size))
    have N2 := hid (N1.out.on hb)
    have HA2 := hid (HA1.out.on hb)
    obtain ⟨c0, c1, c2, c3⟩ := N2.out.cells
    clear hb
    go_wp2_with fail
    refine (HBB.out _ HA2.out.k).mono ?_
    rintro e w4 ⟨rfl, hb⟩
    have B3 := hid (B2.out.trans (hb.mono B2.out.size))
    clear hb c0 c1 c2 c3
    go_wp2
    go_ret2
    exact ⟨rfl, B3.out⟩
end No
end Go.Proofs.YtoifhcmgeackdaaGreatDoor

/-
  What the statements' rows give: a node that came in.
-/
namespace Go.Proofs.YtoifhcmgeackdaaGreatDoor
open Go.ChangeShapes Go.WideShapes Go.ChangeAt Go.RowKit Go.Joins Go.Deep
namespace No
/-- What memory can hold. -/
structure Wide (n : N) : Prop where
  k : ∀ x ∈ n.ks, x.length ≤ 140737488351232
  c : ∀ x ∈ n.cs, x.d.length ≤ 140737488351232
theorem addr_lt {w : World} {a : Addr} {v : Value} (h : w.cell? a = some v) : a.block < w.heap.size ∧ a.spot = none := by
  constructor
  · rcases Nat.lt_or_ge a.block w.heap.size with h' | h'
    · exact h'
    · simp [World.cell?, Array.getElem?_eq_none h'] at h
  · cases hs : a.spot with
    | none => rfl
    | some x =>
      exfalso
      unfold World.cell? at h
      rw [hs] at h
      split at h
      · simp at h
      · cases h
theorem add_at (b o n : Nat) : (⟨b, o, none⟩ : Addr).add n = ⟨b, o + n, none⟩ := by simp [Addr.add]
theorem cellsI : Tryz.prog.cellsOf tI = 1 := by kernel_rfl
theorem cellsS : Tryz.prog.cellsOf tS = 1 := by kernel_rfl
theorem cellsB : Tryz.prog.cellsOf 4 = 1 := by kernel_rfl
theorem cellsC : Tryz.prog.cellsOf tC = 3 := by kernel_rfl
theorem cellsSs : Tryz.prog.cellsOf tSs = 1 := by kernel_rfl
theorem cellsIs : Tryz.prog.cellsOf tIs = 1 := by kernel_rfl
theorem cellsCs : Tryz.prog.cellsOf tCs = 1 := by kernel_rfl
theorem cellsN : Tryz.prog.cellsOf tN = 4 := by kernel_rfl
theorem bytesI : 0 < Tryz.prog.bytesOf tI := of_decide_eq_true (by kernel_rfl)
theorem bytesS : 0 < Tryz.prog.bytesOf tS := of_decide_eq_true (by kernel_rfl)
theorem bytesC : 0 < Tryz.prog.bytesOf tC := of_decide_eq_true (by kernel_rfl)
theorem array4 {α : Type} {cs : Array α} (h : cs.size = 4) : ∃ a b c d, cs = #[a, b, c, d] := by
  obtain ⟨l⟩ := cs
  match l, h with
  | [a, b, c, d], _ => exact ⟨a, b, c, d, rfl⟩
section
variable {H : Type} {enc : TypeId × Value → H} {W : World} {b0 : Nat} {held : Bool} {r : Reach}
theorem weights_all {e : TypeId} : ∀ {ds : List (DataW H)} {d : DataW H}, d ∈ ds → ∀ n ∈ d.weights Tryz.prog e, n ∈ DataW.weightsAll Tryz.prog e ds
  | d :: r, x, hx, n, hn => by
    rw [DataW.weightsAll]
    rcases List.mem_cons.1 hx with rfl | hx
    · exact List.mem_append_left _ hn
    · exact List.mem_append_right _ (weights_all hx n hn)
set_option maxRecDepth 100000 in
/-- A slice that came in. -/
theorem list_of {α : Type} (none' : α) (t e : TypeId) (k : Nat) (eα : α → List Value) (big : α → Nat) (hu : Tryz.prog.underlying t = some (.slice e)) (hce : Tryz.prog.cellsOf e = k) (hk : 0 < k) (hby : 0 < Tryz.prog.bytesOf e)
    (hel : ∀ n cs x, DataW.trod enc Tryz.prog W 0 (fun _ => true) held n e cs = some x → ∃ a : α, cs = eα a ∧ (eα a).length = k ∧ (big a = 0 ∨ big a ∈ x.1.weights Tryz.prog e))
    {n : Nat} {v : Value} {x : DataW H × List MemPlace} (h : DataW.trod enc Tryz.prog W 0 (fun _ => true) held n t [v] = some x) (hz : ∀ n ∈ x.1.weights Tryz.prog t, n ≤ reachBytes) :
    ∃ l : List α, LAt k eα W v l ∧ ∀ a ∈ l, big a ≤ reachBytes := by
  rcases open_slice hu h with ⟨hcs, _⟩ | ⟨a, len, cap, m, n', D, Pl, hcs, _, hle, hcap, hm, hx, hi⟩
  · simp only [List.cons.injEq, and_true] at hcs
    subst hcs
    exact ⟨[], LAt.nil _ _ _, fun _ h => (by cases h)⟩
  · simp only [List.cons.injEq, and_true] at hcs
    subst hcs
    simp only [if_true] at hm
    subst hm
    have hdd : x.1 = .slice ((List.range len).map D) ((List.range (m - len)).map fun j => D (len + j)) := congrArg Prod.fst hx
    have hw : x.1.weights Tryz.prog t = (((List.range len).map D).length + ((List.range (m - len)).map fun j => D (len + j)).length) * Tryz.prog.bytesOf e :: (DataW.weightsAll Tryz.prog e ((List.range len).map D) ++ DataW.weightsAll Tryz.prog e ((List.range (m - len)).map fun j => D (len + j))) := by
      rw [hdd]
      simp only [DataW.weights, hu]
    rw [hw] at hz
    have hlen : len ≤ reachBytes := by
      have h0 := hz _ (List.mem_cons_self)
      rw [List.length_map, List.length_range, List.length_map, List.length_range] at h0
      refine Nat.le_trans ?_ h0
      exact Nat.le_trans (Nat.le_add_right len (m - len)) (Nat.le_mul_of_pos_right _ hby)
    have hall : ∀ i, ∃ X : α, i < len → (∀ j, j < k → W.cell? (a.add (i * k + j)) = (eα X)[j]?) ∧ big X ≤ reachBytes ∧ (eα X).length = k := by
      intro i
      by_cases h' : i < len
      · obtain ⟨cs', hc, ht⟩ := hi i (by omega)
        rw [hce] at hc
        obtain ⟨_, hcl, hat⟩ := World.cells?_some hc
        obtain ⟨X, hX, hXl, hmem⟩ := hel _ _ _ ht
        refine ⟨X, fun _ => ⟨fun j hj => ?_, ?_, hXl⟩⟩
        · have := hat j hj
          rw [add_add, hX] at this
          rw [this]
        · rcases hmem with h0 | hmem
          · rw [h0]; exact Nat.zero_le _
          · exact hz _ (List.mem_cons_of_mem _ (List.mem_append_left _ (weights_all (List.mem_map.2 ⟨i, List.mem_range.2 h', rfl⟩) _ hmem)))
      · exact ⟨none', fun h => absurd h h'⟩
    obtain ⟨f, hF⟩ := Classical.axiomOfChoice hall
    by_cases hn : len = 0
    · subst hn
      exact ⟨[], LAt.nil _ _ _, fun _ h => (by cases h)⟩
    · obtain ⟨hc0, -, hl0⟩ := hF 0 (by omega)
      have hc1 := hc0 0 hk
      rw [List.getElem?_eq_getElem (by omega)] at hc1
      obtain ⟨hb, hsp⟩ := addr_lt hc1
      have hb0 : (a.add (0 * k + 0)).block = a.block := by simp [Addr.add]
      have hs0 : (a.add (0 * k + 0)).spot = a.spot := by simp [Addr.add]
      rw [hb0] at hb
      rw [hs0] at hsp
      obtain ⟨b, o, sp⟩ := a
      have hsp' : sp = none := hsp
      subst hsp'
      have hll : ((List.range len).map f).length = len := by rw [List.length_map, List.length_range]
      refine ⟨(List.range len).map f, ⟨Or.inr ⟨b, o, m, by rw [hll], by rw [hll]; exact hle, hb, fun j hj i hi' => ?_⟩, by rw [hll]; unfold reachBytes at hlen; unfold maxLen; omega⟩, ?_⟩
      · have hj2 : j < len := by omega
        have h3 := (hF j hj2).1 i hi'
        have e : ((List.range len).map f)[j] = f j := by simp
        rw [e]
        rw [add_at] at h3
        rw [Nat.add_assoc]
        exact h3
      · intro x hx
        obtain ⟨j, hj, rfl⟩ := List.mem_map.1 hx
        exact (hF j (List.mem_range.1 hj)).2.1
theorem str_el (n : Nat) (cs : List Value) (x : DataW H × List MemPlace) (h : DataW.trod enc Tryz.prog W 0 (fun _ => true) held n tS cs = some x) : ∃ a : Bs, cs = sV a ∧ (sV a).length = 1 ∧ (a.length = 0 ∨ a.length ∈ x.1.weights Tryz.prog tS) := by
  obtain ⟨z, h2, hy, _⟩ := DataW.trod_string Tryz.underlying9 h
  refine ⟨z.data.toList, h2, rfl, Or.inr ?_⟩
  rw [hy]
  simp [DataW.weights]
theorem int_el (n : Nat) (cs : List Value) (x : DataW H × List MemPlace) (h : DataW.trod enc Tryz.prog W 0 (fun _ => true) held n tI cs = some x) : ∃ a : Int, cs = iV a ∧ (iV a).length = 1 ∧ (0 = 0 ∨ 0 ∈ x.1.weights Tryz.prog tI) := by
  obtain ⟨z, h2, hy, _⟩ := DataW.trod_int Tryz.underlying3 h
  exact ⟨z, h2, rfl, Or.inl rfl⟩
set_option maxRecDepth 100000 in
theorem cell_el (n : Nat) (cs : List Value) (x : DataW H × List MemPlace) (h : DataW.trod enc Tryz.prog W 0 (fun _ => true) held n tC cs = some x) : ∃ a : C, cs = a.vals ∧ a.vals.length = 3 ∧ (a.d.length = 0 ∨ a.d.length ∈ x.1.weights Tryz.prog tC) := by
  obtain ⟨ys, k, _, hx, hlen, hyl, hf⟩ := DataW.trod_struct Tryz.underlying103 h
  rw [cellsC] at hlen
  match cs, hlen with
  | [c0, c1, c2], _ =>
    match ys, hyl, hf, hx with
    | [y0, y1, y2], _, hf, hx =>
      have e0 : DataW.trod enc Tryz.prog W 0 (fun _ => true) held k tI [c0] = some y0 := by
        have e : DataW.trod enc Tryz.prog W 0 (fun _ => true) held k tI (List.take (Tryz.prog.cellsOf tI) (List.drop 0 [c0, c1, c2])) = some y0 := hf 0 _ rfl
        rw [cellsI] at e; exact e
      have e1 : DataW.trod enc Tryz.prog W 0 (fun _ => true) held k tS [c1] = some y1 := by
        have e : DataW.trod enc Tryz.prog W 0 (fun _ => true) held k tS (List.take (Tryz.prog.cellsOf tS) (List.drop 1 [c0, c1, c2])) = some y1 := hf 1 _ rfl
        rw [cellsS] at e; exact e
      have e2 : DataW.trod enc Tryz.prog W 0 (fun _ => true) held k tI [c2] = some y2 := by
        have e : DataW.trod enc Tryz.prog W 0 (fun _ => true) held k tI (List.take (Tryz.prog.cellsOf tI) (List.drop 2 [c0, c1, c2])) = some y2 := hf 2 _ rfl
        rw [cellsI] at e; exact e
      obtain ⟨z0, h0, _, w0⟩ := DataW.trod_int Tryz.underlying3 e0
      obtain ⟨z1, h1, hy1, _⟩ := DataW.trod_string Tryz.underlying9 e1
      obtain ⟨z2, h2, _, w2⟩ := DataW.trod_int Tryz.underlying3 e2
      simp at h0 h1 h2
      subst h0 h1 h2
      refine ⟨⟨z0, z1.data.toList, z2⟩, rfl, rfl, Or.inr ?_⟩
      subst hy1
      have hxf : x.1 = .agg [y0.1, .lit (.string z1.data.toList), y2.1] := by rw [hx]; rfl
      rw [hxf]
      simp [DataW.weights, DataW.weightsEach, Tryz.underlying103]
set_option maxRecDepth 100000 in
/-- A node that came in. -/
theorem node_of {v : Value} {d : DataW H} {ps : List MemPlace} (hv : Value.okWide Tryz.prog W r b0 tN v) (hd : DataW.Trod enc Tryz.prog W 0 (fun _ => true) held tN v d ps) (hz : ∀ n ∈ d.weights Tryz.prog tN, n ≤ reachBytes) :
    ∃ (n : N) (kv cv pv : Value), v = nV n.f kv cv pv ∧ NAt W kv cv pv n ∧ Wide n ∧ ∀ x ∈ ps, x.block < W.heap.size := by
  obtain ⟨cs, rfl, hsz⟩ := okWide_struct Tryz.underlying90 hv
  obtain ⟨c0, c1, c2, c3, rfl⟩ := array4 (hsz.trans cellsN)
  obtain ⟨fuel, hf⟩ := hd
  have hlt := DataW.trod_lt _ _ _ _ hf
  have hf' : DataW.trod enc Tryz.prog W 0 (fun _ => true) held fuel tN [c0, c1, c2, c3] = some (d, ps) := hf
  obtain ⟨xs, n, _, hx, hl, hlen, hg⟩ := DataW.trod_struct Tryz.underlying90 hf'
  match xs, hlen, hg, hx with
  | [y0, y1, y2, y3], _, hg, hx =>
    have e0 : DataW.trod enc Tryz.prog W 0 (fun _ => true) held n 4 [c0] = some y0 := by
      have e : DataW.trod enc Tryz.prog W 0 (fun _ => true) held n 4 (List.take (Tryz.prog.cellsOf 4) (List.drop 0 [c0, c1, c2, c3])) = some y0 := hg 0 _ rfl
      rw [cellsB] at e; exact e
    have e1 : DataW.trod enc Tryz.prog W 0 (fun _ => true) held n tSs [c1] = some y1 := by
      have e : DataW.trod enc Tryz.prog W 0 (fun _ => true) held n tSs (List.take (Tryz.prog.cellsOf tSs) (List.drop 1 [c0, c1, c2, c3])) = some y1 := hg 1 _ rfl
      rw [cellsSs] at e; exact e
    have e2 : DataW.trod enc Tryz.prog W 0 (fun _ => true) held n tCs [c2] = some y2 := by
      have e : DataW.trod enc Tryz.prog W 0 (fun _ => true) held n tCs (List.take (Tryz.prog.cellsOf tCs) (List.drop 2 [c0, c1, c2, c3])) = some y2 := hg 2 _ rfl
      rw [cellsCs] at e; exact e
    have e3 : DataW.trod enc Tryz.prog W 0 (fun _ => true) held n tIs [c3] = some y3 := by
      have e : DataW.trod enc Tryz.prog W 0 (fun _ => true) held n tIs (List.take (Tryz.prog.cellsOf tIs) (List.drop 3 [c0, c1, c2, c3])) = some y3 := hg 3 _ rfl
      rw [cellsIs] at e; exact e
    have hd0 : d = .agg [y0.1, y1.1, y2.1, y3.1] := by
      have := congrArg Prod.fst hx
      exact this
    have hwt : ∀ m, (m ∈ y1.1.weights Tryz.prog tSs ∨ m ∈ y2.1.weights Tryz.prog tCs ∨ m ∈ y3.1.weights Tryz.prog tIs) → m ≤ reachBytes := by
      intro m hm
      refine hz m ?_
      rw [hd0]
      rcases hm with hm | hm | hm <;> simp [DataW.weights, DataW.weightsEach, Tryz.underlying90, hm]
    obtain ⟨f, h0, _⟩ := DataW.trod_bool Tryz.underlying4 e0
    obtain ⟨ks, hk, kw⟩ := list_of (α := Bs) [] tSs tS 1 sV List.length Tryz.underlying22 cellsS (by decide) bytesS str_el e1 (fun m hm => hwt m (Or.inl hm))
    obtain ⟨cl, hc, cw⟩ := list_of (α := C) ⟨0, [], 0⟩ tCs tC 3 C.vals (fun c => c.d.length) Tryz.underlying88 cellsC (by decide) bytesC cell_el e2 (fun m hm => hwt m (Or.inr (Or.inl hm)))
    obtain ⟨pl, hp, -⟩ := list_of (α := Int) 0 tIs tI 1 iV (fun _ => 0) Tryz.underlying58 cellsI (by decide) bytesI int_el e3 (fun m hm => hwt m (Or.inr (Or.inr hm)))
    simp at h0
    subst h0
    exact ⟨⟨f, ks, cl, pl⟩, c1, c2, c3, rfl, ⟨hk, hc, hp⟩, ⟨kw, cw⟩, hlt⟩
end
end No
end Go.Proofs.YtoifhcmgeackdaaGreatDoor

/-
  The wrap of a row that lists variables: the list and the world's shape are handed on.
-/
namespace Go.Proofs.YtoifhcmgeackdaaGreatDoor
open Go.ChangeShapes Go.WideShapes Go.ChangeAt Go.RowKit
namespace No
/-- The wrap: a row's list of variables and the world's shape are handed on. -/
theorem returns_laid {H : Type} {enc : TypeId × Value → H} {a : Assume} {C : Checked} {os : Os} {f : FuncId} {fn : Func} {s : ChangeSpec} {conds : List PathCond} {apart fresh handsOn again : Bool} {X : World → Array Value → Prop}
    (hX : ∀ (w w' : World) (args : Array Value), w.heap = w'.heap → X w args → X w' args)
    (own : ownKnob C.prog.godebug = none) (started : os.Started) (noInit : C.prog.inits.idxOf? f = none) (hfn : C.prog.funcs[f]? = some fn)
    (witness : ∃ (w : World) (tape : Tape) (i : Input), w.os = os ∧ (w.forCall tape i).Shaped C.prog ∧ i.vars = [] ∧ Input.okWide C.prog (w.forCall tape i) .any w.heap.size f i ∧
      ((s.pre enc C.prog fn conds apart (w.forCall tape i).memory i.args ∧ X (w.forCall tape i).memory i.args) ∧ sizedMet enc C.prog fn (OpenSpec.ofChange s) apart (w.forCall tape i).memory i.args) ∧ a.holds C.prog (lone (Frame.enter C.prog f i.args .normal) [] (w.forCall tape i)))
    (contract : ∀ (W : World) (base : Nat) (args : Array Value) (ds gs : List (DataW H)) (before : List MemPlace),
      (∀ (j : Nat) t v, fn.params[j]? = some t → args[j]? = some v → Value.okWide C.prog W .any base t v) →
      DataW.Whole enc C.prog fn.params.toList s.vars apart W args.toList ds gs before →
      (DataW.weightsEach C.prog (fn.params.toList ++ s.plain.varTypes C.prog) (ds ++ gs)).all (· ≤ reachBytes) = true → X W args → W.ShapedOpen C.prog →
      Calls C.prog f args W fun e W' => ∃ v, e = .returned v ∧ s.post enc C.prog fn apart fresh handsOn again W args v W') :
    ReturnsInHanded a C os f .any (fun w args => (s.pre enc C.prog fn conds apart w args ∧ X w args) ∧ sizedMet enc C.prog fn (OpenSpec.ofChange s) apart w args) (s.post enc C.prog fn apart fresh handsOn again) := by
  refine returnsInHanded_of_calls own started noInit witness ?_
  intro w tape i _ hsh _ hok hpre _
  obtain ⟨_, _, _, fn', hfn', _, _, _, _, hval⟩ := hok
  have e : fn' = fn := Option.some.inj (hfn'.symm.trans hfn)
  subst e
  obtain ⟨⟨⟨ds, gs, before, hw, hc⟩, hx⟩, hz⟩ := hpre
  have hw' := DataW.Whole.of_heap (w' := w.forCall tape i) (by rfl) hw
  refine (contract (w.forCall tape i) w.heap.size i.args ds gs before hval hw' (hz.weights hw) (hX _ _ _ (by rfl) hx) hsh).mono fun e W' ⟨v, he, hp⟩ => ?_
  subst he
  exact ChangeSpec.post_blind hp
end No
end Go.Proofs.YtoifhcmgeackdaaGreatDoor

/-
  Where a function has a node's box: the box, what was there, the node's lists.
-/
namespace Go.Proofs.YtoifhcmgeackdaaGreatDoor
open Go.RowKit
namespace No
structure Gst (w : World) (f : Bool) (ks cs ps : Value) (n : N) (wr : World) : Prop where
  bx : Nb w.heap.size f ks cs ps wr
  be : Below w.heap.size w wr
  na : NAt wr ks cs ps n
theorem Gst.on {w wr w' : World} {f : Bool} {ks cs ps : Value} {n : N} (h : Gst w f ks cs ps n wr) (hb : Below wr.heap.size wr w') : Gst w f ks cs ps n w' := ⟨h.bx.on hb, h.be.trans (hb.mono h.be.size), h.na.on hb⟩
theorem Gst.drew {w wr : World} {f : Bool} {ks cs ps : Value} {n : N} (h : Gst w f ks cs ps n wr) : Gst w f ks cs ps n wr.drew := h.on (Below.refl _ _).drew
theorem Gst.alloc {w wr : World} {f : Bool} {ks cs ps : Value} {n : N} (h : Gst w f ks cs ps n wr) (o : Obj) : Gst w f ks cs ps n (wr.alloc o) := h.on ((Below.refl _ _).alloc (Nat.le_refl _) o)
theorem Gst.new {w : World} {f : Bool} {ks cs ps : Value} {n : N} (h : NAt w ks cs ps n) : Gst w f ks cs ps n (w.alloc (.cells #[.bool f, ks, cs, ps] tN)) := ⟨Nb.new f ks cs ps w, (Below.refl w.heap.size w).alloc (Nat.le_refl _) _, h.on ((Below.refl w.heap.size w).alloc (Nat.le_refl _) _)⟩
theorem wp_quiet_in {P : Program} {id : Nat} {Q : Exit → Act → World → Prop} {a : Act} {w : World} {l : List Oper} (C : World → Prop) (hm : P.follows .mixedOrders = true) (hB : Region.lexB .any l.toArray = true) (hC : C w.drew)
    (h : wpQuiet P l.toArray C (fun a' => ∀ w', C w' → Q .normal a' w') l a) : (Code.region id l.toArray true).wp P Q a w :=
  wp_region_quiet (C := C) hm hB hC (by simpa using h)
end No
end Go.Proofs.YtoifhcmgeackdaaGreatDoor
