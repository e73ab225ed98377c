/-
  Put together: ChainMath, ChainPage, ChainGood, ChainBld.
-/
import Derived.Test.YtoifhcmgeackdaaGreatDoorGrpTrShA
import Derived.Test.YtoifhcmgeackdaaGreatDoorGrpTrNoA
import Derived.Test.YtoifhcmgeackdaaGreatDoorGrpTrNum
import Derived.Test.YtoifhcmgeackdaaGreatDoorGrpTrNoB
import Derived.Test.YtoifhcmgeackdaaGreatDoorChainShelf
import Derived.Test.YtoifhcmgeackdaaGreatDoorGrpTrSpA
import Derived.Shelf.Strings.Prefix
import Derived.BigQuiet
import Derived.Deep.QuietTactic
import Derived.Test.YtoifhcmgeackdaaGreatDoorGrpTrShC
import Derived.Shelf.Strings.BuilderF
/-
  Plain mathematics of layer 11 (chain): parts of a value, their pages, a chain on pages by their numbers, and how it is gone through. No program in sight.
-/
namespace Go.Proofs.YtoifhcmgeackdaaGreatDoor
namespace Ch
open Num (hid fixF fixF_length)
open Part (numAt mid)
open Mem (Bs bs)
open Sp (zeros zeros_len)
open No (okC)
/-- Pages by their numbers. -/
abbrev Pf := Int → Option Bs
/-- The page of a part, and of the next part's page. -/
def pageB (p : Bs) (nx : Int) : Bs := [3] ++ (fixF 4 nx.toNat ++ (p ++ zeros (227 - p.length)))
theorem page_len {p : Bs} (h : p.length ≤ 227) (nx : Int) : (pageB p nx).length = 232 := by
  unfold pageB
  simp [fixF_length, zeros_len]
  omega
/-- The part on a page where so many bytes are left, and the next part's page. -/
def good (x : Bs) (left : Nat) : Bool := decide (x.length = 232) && (([3] : Bs).isPrefixOf x && (decide (left ≤ 227) == decide (numAt x 1 4 = 0) && No.blank (x.drop (5 + min left 227))))
def partM (x : Bs) (left : Nat) : Option (Bs × Int) := if good x left then some ((x.drop 5).take (min left 227), (numAt x 1 4 : Nat)) else none
theorem blank_zeros (n : Nat) : No.blank (zeros n) = true := by unfold No.blank Sp.zeros; simp
theorem page_drop (p : Bs) (nx : Int) : (pageB p nx).drop 5 = p ++ zeros (227 - p.length) := by
  unfold pageB
  rw [← List.append_assoc, List.drop_append_of_le_length (by simp [fixF_length]), List.drop_of_length_le (by simp [fixF_length]), List.nil_append]
theorem page_num (p : Bs) (nx : Int) (h0 : 0 ≤ nx) (h1 : nx < 4294967296) : numAt (pageB p nx) 1 4 = nx.toNat := by
  have hm : ((pageB p nx).drop 1).take 4 = fixF 4 nx.toNat := mid [3] (fixF 4 nx.toNat) (p ++ zeros (227 - p.length)) 1 4 rfl (fixF_length _ _)
  unfold Part.numAt
  rw [hm, Num.unf_fix]
  exact Nat.mod_eq_of_lt (by omega)
theorem part_page {v : Bs} (_hv : v ≠ []) {nx : Int} (h0 : 0 ≤ nx) (h1 : nx < 4294967296) (h : v.length ≤ 227 ↔ nx = 0) : partM (pageB (v.take 227) nx) v.length = some (v.take 227, nx) := by
  have hl : (v.take 227).length = min v.length 227 := by rw [List.length_take, Nat.min_comm]
  have hn := page_num (v.take 227) nx h0 h1
  have hd := page_drop (v.take 227) nx
  have hz : (pageB (v.take 227) nx).drop (5 + min v.length 227) = zeros (227 - (v.take 227).length) := by
    rw [← List.drop_drop, hd, ← hl, List.drop_left]
  have hg : good (pageB (v.take 227) nx) v.length = true := by
    unfold good
    rw [hz, blank_zeros, page_len (by rw [hl]; omega), hn]
    have hp : ([3] : Bs).isPrefixOf (pageB (v.take 227) nx) = true := by unfold pageB; rfl
    rw [hp]
    have : decide (v.length ≤ 227) = decide (nx.toNat = 0) := by
      by_cases hq : v.length ≤ 227
      · rw [decide_eq_true hq, decide_eq_true (by have := h.1 hq; omega)]
      · rw [decide_eq_false hq, decide_eq_false (fun e => hq (h.2 (by omega)))]
    rw [this]
    simp
  unfold partM
  rw [if_pos hg, hd, hn, ← hl, List.take_left]
  congr 2
  omega
theorem part_len {x : Bs} {left : Nat} {p : Bs} {nx : Int} (h : partM x left = some (p, nx)) : p.length = min left 227 ∧ 0 ≤ nx ∧ nx < 4294967296 := by
  unfold partM at h
  split at h
  · rename_i hg
    unfold good at hg
    simp only [Bool.and_eq_true, decide_eq_true_eq] at hg
    have h2 := Part.numAt_lt x 1 4
    have h5 : (256 : Nat) ^ 4 = 4294967296 := by decide
    simp only [Option.some.injEq, Prod.mk.injEq] at h
    obtain ⟨rfl, rfl⟩ := h
    refine ⟨?_, by omega, by omega⟩
    rw [List.length_take, List.length_drop, hg.1]
    omega
  · cases h
/-- A chain of a value: its pages, from the first on. -/
def Chn (f : Pf) : List Int → Int → Bs → Prop
  | [], n, v => n = 0 ∧ v = []
  | p :: ps, n, v => n = p ∧ (1 ≤ p ∧ p ≤ 4095) ∧ v ≠ [] ∧ f p = some (pageB (v.take 227) (ps.headD 0)) ∧ (v.length ≤ 227 ↔ ps = []) ∧ Chn f ps (ps.headD 0) (v.drop 227)
theorem Chn.head {f : Pf} {ps : List Int} {n : Int} {v : Bs} (h : Chn f ps n v) : n = ps.headD 0 ∧ (0 ≤ n ∧ n ≤ 4095) ∧ (ps = [] ↔ n = 0) ∧ (ps = [] ↔ v = []) := by
  cases ps with
  | nil => exact ⟨h.1, by have := h.1; omega, by simp [h.1], by simp [h.2]⟩
  | cons p ps =>
    have h2 := h.2.1
    have h1 := h.1
    refine ⟨h1, by omega, ?_, ?_⟩
    · constructor
      · intro e; cases e
      · intro e; omega
    · constructor
      · intro e; cases e
      · intro e; exact absurd e h.2.2.1
theorem Chn.mem {f : Pf} : ∀ {ps : List Int} {n : Int} {v : Bs}, Chn f ps n v → ∀ x ∈ ps, 1 ≤ x ∧ x ≤ 4095
  | [], _, _, _, x, hx => by simp at hx
  | p :: ps, _, _, h, x, hx => by
    rcases List.mem_cons.1 hx with rfl | hx
    · exact h.2.1
    · exact Chn.mem h.2.2.2.2.2 x hx
theorem Chn.same {f g : Pf} : ∀ {ps : List Int} {n : Int} {v : Bs}, Chn f ps n v → (∀ x ∈ ps, g x = f x) → Chn g ps n v
  | [], _, _, h, _ => h
  | p :: ps, _, _, h, hs => ⟨h.1, h.2.1, h.2.2.1, (hs p (by simp)).trans h.2.2.2.1, h.2.2.2.2.1, Chn.same h.2.2.2.2.2 (fun x hx => hs x (by simp [hx]))⟩
/-- A part more ahead. -/
theorem Chn.push {f : Pf} {ps : List Int} {n m : Int} {v : Bs} {k : Nat} (h : Chn f ps n (v.drop (227 * (k + 1)))) (hv : 227 * k < v.length) (hm : 1 ≤ m ∧ m ≤ 4095) (hf : f m = some (pageB ((v.drop (227 * k)).take 227) n)) : Chn f (m :: ps) m (v.drop (227 * k)) := by
  obtain ⟨h1, -, -, h4⟩ := h.head
  have hd : (v.drop (227 * k)).drop 227 = v.drop (227 * (k + 1)) := by rw [List.drop_drop]; congr 1
  refine ⟨rfl, hm, ?_, by rw [← h1]; exact hf, ?_, ?_⟩
  · intro e
    have := congrArg List.length e
    rw [List.length_drop] at this
    simp at this
    omega
  · rw [h4]
    rw [List.drop_eq_nil_iff, List.length_drop]
    omega
  · rw [hd, ← h1]
    exact h
theorem Chn.len {f : Pf} : ∀ {ps : List Int} {n : Int} {v : Bs}, Chn f ps n v → ps.length = (v.length + 226) / 227
  | [], _, v, h => by rw [h.2]; rfl
  | p :: ps, _, v, h => by
    have ih := Chn.len h.2.2.2.2.2
    have h5 := h.2.2.2.2.1
    have hv : 0 < v.length := List.length_pos_iff.2 h.2.2.1
    rw [List.length_drop] at ih
    rw [List.length_cons, ih]
    by_cases hq : v.length ≤ 227
    · have : v.length - 227 = 0 := by omega
      rw [this]
      omega
    · omega
/-- A chain is gone through: what is left to read, what was read. -/
def rdM (f : Pf) : Nat → Int → Nat → Bs → List Int → (Bs × List Int) × Int
  | 0, _, _, acc, pg => ((acc, pg), 0)
  | k + 1, n, left, acc, pg => if left = 0 then ((acc, pg), 0) else match f n with
    | none => (([], []), 21)
    | some x => match partM x left with
      | none => (([], []), 30)
      | some (p, nx) => rdM f k nx (left - p.length) (acc ++ p) (pg ++ [n])
theorem rd_done (f : Pf) (k : Nat) (n : Int) (acc : Bs) (pg : List Int) : rdM f k n 0 acc pg = ((acc, pg), 0) := by
  cases k with
  | zero => rfl
  | succ k => exact if_pos rfl
theorem rd_no {f : Pf} {k : Nat} {n : Int} {left : Nat} {acc : Bs} {pg : List Int} (h0 : left ≠ 0) (h : f n = none) : rdM f (k + 1) n left acc pg = (([], []), 21) := by
  unfold rdM
  rw [if_neg h0, h]
theorem rd_bad {f : Pf} {k : Nat} {n : Int} {left : Nat} {acc x : Bs} {pg : List Int} (h0 : left ≠ 0) (h : f n = some x) (h2 : partM x left = none) : rdM f (k + 1) n left acc pg = (([], []), 30) := by
  unfold rdM
  rw [if_neg h0, h]
  simp only
  rw [h2]
theorem rd_next {f : Pf} {k : Nat} {n nx : Int} {left : Nat} {acc x p : Bs} {pg : List Int} (h0 : left ≠ 0) (h : f n = some x) (h2 : partM x left = some (p, nx)) : rdM f (k + 1) n left acc pg = rdM f k nx (left - p.length) (acc ++ p) (pg ++ [n]) := by
  rw [rdM, if_neg h0, h]
  simp only
  rw [h2]
theorem rd_chain {f : Pf} : ∀ {ps : List Int} {n : Int} {v : Bs}, Chn f ps n v → ∀ (k : Nat) (acc : Bs) (pg : List Int), v.length ≤ 227 * k → rdM f k n v.length acc pg = ((acc ++ v, pg ++ ps), 0)
  | [], n, v, h, k, acc, pg, _ => by
    rw [h.2, List.append_nil, List.append_nil]
    exact rd_done f k n acc pg
  | p :: ps, n, v, h, k, acc, pg, hk => by
    obtain ⟨rfl, h2, h3, h4, h5, h6⟩ := h
    have hv : 0 < v.length := List.length_pos_iff.2 h3
    cases k with
    | zero => omega
    | succ k =>
      obtain ⟨-, g2, g3, -⟩ := h6.head
      have hp := part_page h3 g2.1 (by omega) (h5.trans g3)
      rw [rd_next (by omega) h4 hp]
      have hl : v.length - (v.take 227).length = (v.drop 227).length := by rw [List.length_take, List.length_drop]; omega
      rw [hl, rd_chain h6 k _ _ (by rw [List.length_drop]; omega), List.append_assoc, List.append_assoc, List.take_append_drop]
      rfl
/-- What a cell stands for, and its pages. -/
def valM (f : Pf) (c : No.C) : (Bs × List Int) × Int := if okC c = true then (if c.z ≤ 40 then ((c.d, []), 0) else rdM f 23 c.p c.z.toNat [] []) else (([], []), 1)
/-- A cell that stands for a value. -/
def CellOf (f : Pf) (c : No.C) (v : Bs) (ps : List Int) : Prop := v.length ≤ 5000 ∧ ((v.length ≤ 40 ∧ c = ⟨v.length, v, 0⟩ ∧ ps = []) ∨ (40 < v.length ∧ c = ⟨v.length, [], ps.headD 0⟩ ∧ Chn f ps (ps.headD 0) v))
theorem CellOf.ok {f : Pf} {c : No.C} {v : Bs} {ps : List Int} (h : CellOf f c v ps) : okC c = true := by
  obtain ⟨h0, ⟨h1, rfl, rfl⟩ | ⟨h1, rfl, h2⟩⟩ := h
  · unfold okC
    simp
    omega
  · obtain ⟨-, g2, g3, g4⟩ := h2.head
    have hne : ¬ ps.headD 0 = 0 := fun e => by
      have := g4.1 (g3.2 e)
      rw [this] at h1
      simp at h1
    unfold okC No.okP
    have e1 : ¬ ((v.length : Int) ≤ 40) := by omega
    simp only [e1, if_false]
    generalize ps.headD 0 = m at *
    simp
    omega
theorem CellOf.val {f : Pf} {c : No.C} {v : Bs} {ps : List Int} (h : CellOf f c v ps) : valM f c = ((v, ps), 0) := by
  have hok := h.ok
  unfold valM
  rw [if_pos hok]
  obtain ⟨h0, ⟨h1, rfl, rfl⟩ | ⟨h1, rfl, h2⟩⟩ := h
  · rw [if_pos (by show ((v.length : Nat) : Int) ≤ 40; omega)]
  · rw [if_neg (by show ¬ ((v.length : Nat) : Int) ≤ 40; omega)]
    have := rd_chain h2 23 [] [] (by omega)
    simpa using this
theorem CellOf.same {f g : Pf} {c : No.C} {v : Bs} {ps : List Int} (h : CellOf f c v ps) (hs : ∀ x ∈ ps, g x = f x) : CellOf g c v ps := by
  obtain ⟨h0, h1 | ⟨h1, h2, h3⟩⟩ := h
  · exact ⟨h0, Or.inl h1⟩
  · exact ⟨h0, Or.inr ⟨h1, h2, h3.same hs⟩⟩
def partsN (n : Nat) : Nat := if n ≤ 40 then 0 else (n + 226) / 227
theorem CellOf.len {f : Pf} {c : No.C} {v : Bs} {ps : List Int} (h : CellOf f c v ps) : ps.length = partsN v.length := by
  unfold partsN
  obtain ⟨h0, ⟨h1, h2, rfl⟩ | ⟨h1, h2, h3⟩⟩ := h
  · rw [if_pos h1]
    rfl
  · rw [if_neg (by omega)]
    exact h3.len
end Ch
end Go.Proofs.YtoifhcmgeackdaaGreatDoor

/-
  Contracts of pageOf and partOf: the page of a part, the part on a page.
-/
namespace Go.Proofs.YtoifhcmgeackdaaGreatDoor
open Go.RowKit Go.Shelf
namespace Ch
open Num (hid fixF fixF_length)
open Part (numAt)
open Mem (Bs bs)
open Sp (zeros zeros_len bs_append)
abbrev tShp : TypeId := 24
/-- A shelf as Pages. -/
abbrev pV (s : Nat) : Value := .iface tShp (Mem.ptr s)
abbrev ints (U : List Int) : List Value := U.map (Value.int .i64)
theorem hp_c (s p : Bs) (q : Bool) (h : p.isPrefixOf s = q) (w : World) : Calls Tryz.prog 73 #[.string (bs s), .string (bs p)] w fun e w' => e = .returned (.bool q) ∧ w = w' := by
  have := (Any.strings_HasPrefix Tryz.prefL (bs s) (bs p) w).mono (R' := fun e w' => e = .returned (.bool (Lib.hasPrefix s p)) ∧ w = w') fun _ _ h => ⟨h.1, h.2.symm⟩
  rw [show Lib.hasPrefix s p = q from h] at this
  exact this
set_option maxRecDepth 100000 in
set_option maxHeartbeats 1000000 in
theorem pageof_any (p : Bs) (hp : p.length ≤ 227) (m : Nat) (hm : m ≤ 4095) (w : World) :
    Calls Tryz.prog 163 #[.string (bs p), .int .i64 (m : Int)] w fun e w' => e = .returned (.string (bs (pageB p m))) ∧ Below w.heap.size w w' := by
  have hz := Sp.bs_size p
  have HR := hid (fun w => Sp.repeat_any (227 - p.length) (by omega) w)
  have e : ((227 - p.length : Nat) : Int) = 227 - ((bs p).size : Int) := by omega
  rw [e] at HR
  have HF := hid (fun w => Part.fixed4 m (by omega) w)
  have hu := Part.u64_nat m (by omega)
  have hx4 := Part.fx_size 4 m
  have z1 : (⟨#[3]⟩ : ByteArray).size = 1 := rfl
  have z0 := Sp.bs_size (zeros (227 - p.length))
  rw [zeros_len] at z0
  have s1 : ¬ 9223372036854775807 < (⟨#[3]⟩ : ByteArray).size + (Part.fx 4 m).size := by rw [z1, hx4]; omega
  have s2 : ¬ 9223372036854775807 < ((⟨#[3]⟩ : ByteArray) ++ Part.fx 4 m).size + (bs p).size := by rw [ByteArray.size_append, z1, hx4]; omega
  have s3 : ¬ 9223372036854775807 < ((⟨#[3]⟩ : ByteArray) ++ Part.fx 4 m ++ bs p).size + (bs (zeros (227 - p.length))).size := by rw [ByteArray.size_append, ByteArray.size_append, z1, hx4]; omega
  have HE : Hid ((⟨#[3]⟩ : ByteArray) ++ Part.fx 4 m ++ bs p ++ bs (zeros (227 - p.length)) = bs (pageB p m)) := hid (by
    show bs [3] ++ bs (fixF 4 m) ++ bs p ++ bs (zeros (227 - p.length)) = _
    rw [bs_append, bs_append, bs_append]
    unfold pageB
    simp)
  generalize bs (zeros (227 - p.length)) = Z at *
  have hb1 : (bs p).size ≤ 227 := by omega
  clear hz e z1 z0 hx4
  go_enter Tryz.func163, Tryz.ntmps163
  go_wp2_with fail
  refine (HR.out _).mono ?_
  rintro e w1 ⟨rfl, hb⟩
  have B1 := hid hb
  clear hb
  go_wp2_with fail
  refine (HF.out _).mono ?_
  rintro e w2 ⟨rfl, hb⟩
  have B2 := hid (B1.out.trans (hb.mono B1.out.size))
  clear hb
  go_wp2
  go_ret
  exact ⟨by rw [HE.out]; rfl, B2.out⟩
/-- What partOf answers. -/
def partV (o : Option (Bs × Int)) : Value := match o with
  | none => .tuple #[.string ⟨#[]⟩, .int .i64 0, .bool false]
  | some x => .tuple #[.string (bs x.1), .int .i64 x.2, .bool true]
theorem part_no {x : Bs} {left : Nat} (h : good x left = false) : partM x left = none := if_neg (by rw [h]; decide)
theorem part_yes {x : Bs} {left : Nat} (h : good x left = true) : partM x left = some ((x.drop 5).take (min left 227), ((numAt x 1 4 : Nat) : Int)) := if_pos h
theorem nil_iff (d : Bs) : ((bs d).toList == []) = decide (d = []) := by
  rw [show (bs d).toList = d from No.bs_list d]
  cases d <;> rfl
set_option maxRecDepth 100000 in
set_option maxHeartbeats 2000000 in
theorem partof_any (x : Bs) (left : Nat) (h0 : 0 < left) (hl : left ≤ 100000) (w : World) :
    Calls Tryz.prog 161 #[.string (bs x), .int .i64 (left : Int)] w fun e w' => e = .returned (partV (partM x left)) ∧ Below w.heap.size w w' := by
  have hz := Sp.bs_size x
  by_cases h1 : x.length = 232
  · have hs : (bs x).size = 232 := by omega
    cases hp : ([3] : Bs).isPrefixOf x with
    | false =>
      rw [part_no (by unfold good; rw [hp]; simp)]
      have HP := hid (fun w => hp_c x [3] false hp w)
      clear hz hp h1
      go_enter Tryz.func161, Tryz.ntmps161
      go_wp2_with fail
      refine (HP.out _).mono ?_
      rintro e w1 ⟨rfl, rfl⟩
      go_wp2
      go_ret3
      exact ⟨rfl, Below.refl _ _⟩
    | true =>
      have HP := hid (fun w => hp_c x [3] true hp w)
      have HU0 := fun w => Num.unfixed_any ((bs x).extract 1 5) w
      have e1 : ((bs x).extract 1 5).data.toList = (x.drop 1).take 4 := by rw [Sp.ex_mid]; rfl
      rw [e1, Sp.unfix_take x 1 4 (by decide) (by decide) (by omega)] at HU0
      have HU := hid HU0
      have hlt : numAt x 1 4 < 4294967296 := by
        have h2 := Part.numAt_lt x 1 4
        have h5 : (256 : Nat) ^ 4 = 4294967296 := by decide
        omega
      obtain ⟨q, hq⟩ : ∃ q : Nat, q = min left 227 := ⟨_, rfl⟩
      have HT0 : ∀ w, Calls Tryz.prog 121 #[.string (bs (x.drop (5 + q))), .string ⟨#[0]⟩] w fun e w' => (∃ X, e = .returned (.string (bs X)) ∧ decide (X = []) = No.blank (x.drop (5 + q))) ∧ Below w.heap.size w w' := fun w => No.trim_any (x.drop (5 + q)) w (by rw [List.length_drop]; omega)
      have HT := hid HT0
      have hD : (bs x).extract (5 + q) 232 = bs (x.drop (5 + q)) := by rw [← hs]; exact Sp.ex_drop x (5 + q)
      have hM : (bs x).extract 5 (5 + q) = bs ((x.drop 5).take q) := by rw [Sp.ex_mid]; congr 2; omega
      have hg : good x left = ((decide (left ≤ 227) == decide (numAt x 1 4 = 0)) && No.blank (x.drop (5 + q))) := by
        unfold good
        rw [hp, decide_eq_true h1, ← hq]
        simp
      have HG := hid hg
      have HPY : Hid (good x left = true → partM x left = some ((x.drop 5).take q, ((numAt x 1 4 : Nat) : Int))) := hid (fun h => by rw [part_yes h, hq])
      have HPN : Hid (good x left = false → partM x left = none) := hid part_no
      have hq2 : q ≤ 227 := by omega
      have hmn : min (left : Int) 227 = (q : Int) := by omega
      clear HU0 HT0 hg hp e1 hz h1 hq
      generalize numAt x 1 4 = m at *
      have hx : wrap64 (m : Int) = (m : Int) := by rw [Num.wrap_i]; omega
      generalize good x left = gd at *
      generalize partM x left = pm at *
      generalize x.drop (5 + q) = xt at *
      generalize hxm : (x.drop 5).take q = xm at *
      have hway : ((left : Int) ≤ 227 ∧ ((m : Int) == 0) = true ∧ (decide (left ≤ 227) == decide (m = 0)) = true) ∨ (¬ (left : Int) ≤ 227 ∧ ((m : Int) == 0) = false ∧ (decide (left ≤ 227) == decide (m = 0)) = true) ∨ ((left : Int) ≤ 227 ∧ ((m : Int) == 0) = false ∧ (decide (left ≤ 227) == decide (m = 0)) = false) ∨ (¬ (left : Int) ≤ 227 ∧ ((m : Int) == 0) = true ∧ (decide (left ≤ 227) == decide (m = 0)) = false) := by
        by_cases a : left ≤ 227 <;> by_cases b : m = 0
        · exact Or.inl ⟨by omega, by simp [b], by simp [a, b]⟩
        · exact Or.inr (Or.inr (Or.inl ⟨by omega, by simp [b], by simp [a, b]⟩))
        · exact Or.inr (Or.inr (Or.inr ⟨by omega, by simp [b], by simp [a, b]⟩))
        · exact Or.inr (Or.inl ⟨by omega, by simp [b], by simp [a, b]⟩)
      have fin2 : (decide (left ≤ 227) == decide (m = 0)) = false → pm = none := fun h => HPN.out (by rw [HG.out, h]; rfl)
      have fin0 : (decide (left ≤ 227) == decide (m = 0)) = true → No.blank xt = false → pm = none := fun h h2 => HPN.out (by rw [HG.out, h, h2]; rfl)
      have fin1 : (decide (left ≤ 227) == decide (m = 0)) = true → No.blank xt = true → pm = some (xm, (m : Int)) := fun h h2 => HPY.out (by rw [HG.out, h, h2]; rfl)
      have F0 := hid fin0
      have F1 := hid fin1
      have F2 := hid fin2
      clear fin0 fin1 fin2 HG HPY HPN
      go_enter Tryz.func161, Tryz.ntmps161
      go_wp2_with fail
      refine (HP.out _).mono ?_
      rintro e w1 ⟨rfl, rfl⟩
      go_wp2_with fail
      refine (HU.out _).mono ?_
      rintro e w1 ⟨rfl, rfl⟩
      rcases hway with ⟨a, b, c⟩ | ⟨a, b, c⟩ | ⟨a, b, c⟩ | ⟨a, b, c⟩
      · have C := hid c
        clear c
        go_wp2_with fail
        refine (HT.out _).mono ?_
        rintro e w3 ⟨⟨X, rfl, hx⟩, hb⟩
        have HB := hid hb
        have hn := nil_iff X
        rw [hx] at hn
        cases hbk : No.blank xt with
        | true =>
          have hP := F1.out C.out hbk
          subst hP
          rw [hbk] at hn
          clear hb hx hbk
          go_wp2
          go_ret3
          exact ⟨by rw [hM]; rfl, HB.out⟩
        | false =>
          have hP := F0.out C.out hbk
          subst hP
          rw [hbk] at hn
          clear hb hx hbk
          go_wp2
          go_ret3
          exact ⟨rfl, HB.out⟩
      · have C := hid c
        clear c
        go_wp2_with fail
        refine (HT.out _).mono ?_
        rintro e w3 ⟨⟨X, rfl, hx⟩, hb⟩
        have HB := hid hb
        have hn := nil_iff X
        rw [hx] at hn
        cases hbk : No.blank xt with
        | true =>
          have hP := F1.out C.out hbk
          subst hP
          rw [hbk] at hn
          clear hb hx hbk
          go_wp2
          go_ret3
          exact ⟨by rw [hM]; rfl, HB.out⟩
        | false =>
          have hP := F0.out C.out hbk
          subst hP
          rw [hbk] at hn
          clear hb hx hbk
          go_wp2
          go_ret3
          exact ⟨rfl, HB.out⟩
      · have hP := F2.out c
        subst hP
        clear c
        go_wp2
        go_ret3
        exact ⟨rfl, Below.refl _ _⟩
      · have hP := F2.out c
        subst hP
        clear c
        go_wp2
        go_ret3
        exact ⟨rfl, Below.refl _ _⟩
  · rw [part_no (by unfold good; rw [decide_eq_false h1]; rfl)]
    have hs : (((bs x).size : Int) != 232) = true := by rw [hz]; simpa using (by omega : ¬ (x.length : Int) = 232)
    clear hz
    go_enter Tryz.func161, Tryz.ntmps161
    go_wp2
    go_ret3
    exact ⟨rfl, Below.refl _ _⟩
end Ch
end Go.Proofs.YtoifhcmgeackdaaGreatDoor

/-
  Contracts of isInline and isGood: a cell is good, or not.
-/
namespace Go.Proofs.YtoifhcmgeackdaaGreatDoor
open Go.RowKit
namespace Ch
open Num (hid)
open Mem (Bs bs)
open No (okC okN)
abbrev tC : TypeId := 103
/-- A cell as a value. -/
abbrev cV (c : No.C) : Value := .agg #[.int .i64 c.z, .string (bs c.d), .int .i64 c.p]
abbrev cO (c : No.C) : Obj := .cells #[.int .i64 c.z, .string (bs c.d), .int .i64 c.p] tC
theorem inline_any (z : Int) (w : World) : Calls Tryz.prog 127 #[.int .i64 z] w fun e w' => e = .returned (.bool (decide (z ≤ 40))) ∧ w = w' := by
  go_enter Tryz.func127, Tryz.ntmps127
  go_wp2
  all_goals (
    go_ret
    refine ⟨No.ret_b ?_, rfl⟩
    simp_all)
theorem okN_one (c : No.C) : okN ⟨true, [[]], [c], []⟩ = okC c := by
  unfold okN No.okL
  simp [No.short, No.rise]
theorem keys_at {w w' : World} {b : Nat} (h : w.heap[b]? = some (.cells #[.string ⟨#[]⟩] 9 (0, 0))) (hb : Below w.heap.size w w') : No.SAt w' (.slice (some ⟨b, 0, none⟩) 1 1) [[]] := by
  have h2 := (hb.block _ (lt_of_block h)).trans h
  refine ⟨Or.inr ⟨b, 0, 1, rfl, Nat.le_refl _, lt_of_block h2, fun j hj i hi => ?_⟩, by decide⟩
  have hj0 : j = 0 := by simpa using hj
  have hi0 : i = 0 := by omega
  subst hj0 hi0
  simp [World.cell?, h2, No.sV]
  rfl
theorem cell_at {w w' : World} {b : Nat} {c : No.C} (h : w.heap[b]? = some (.cells #[.int .i64 c.z, .string (bs c.d), .int .i64 c.p] tC (0, 0))) (hb : Below w.heap.size w w') : No.CAt w' (.slice (some ⟨b, 0, none⟩) 1 1) [c] := by
  have h2 := (hb.block _ (lt_of_block h)).trans h
  refine ⟨Or.inr ⟨b, 0, 1, rfl, Nat.le_refl _, lt_of_block h2, fun j hj i hi => ?_⟩, by unfold maxLen; simp⟩
  have hj0 : j = 0 := by simpa using hj
  subst hj0
  have hi2 : i = 0 ∨ i = 1 ∨ i = 2 := by omega
  rcases hi2 with rfl | rfl | rfl <;> simp [World.cell?, h2, No.C.vals] <;> rfl
theorem kids_at (w : World) : No.IAt w (.slice none 0 0) [] := ⟨Or.inl ⟨none, 0, rfl, rfl⟩, Nat.zero_le _⟩
theorem good_args (c : No.C) (w : World) : No.NAt (((w.alloc (cO c)).alloc (.cells #[.string ⟨#[]⟩] 9)).alloc (cO c)) (.slice (some ⟨w.heap.size + 1, 0, none⟩) 1 1) (.slice (some ⟨w.heap.size + 1 + 1, 0, none⟩) 1 1) (.slice none 0 0) ⟨true, [[]], [c], []⟩ ∧ Below w.heap.size w (((w.alloc (cO c)).alloc (.cells #[.string ⟨#[]⟩] 9)).alloc (cO c)) := by
  have e1 : (w.alloc (cO c)).heap.size = w.heap.size + 1 := by simp
  have e2 : ((w.alloc (cO c)).alloc (.cells #[.string ⟨#[]⟩] 9)).heap.size = w.heap.size + 1 + 1 := by simp
  have k1 := Mem.blk_new (w.alloc (cO c)) (.cells #[.string ⟨#[]⟩] 9)
  rw [e1] at k1
  have k2 := Mem.blk_new ((w.alloc (cO c)).alloc (.cells #[.string ⟨#[]⟩] 9)) (cO c)
  rw [e2] at k2
  refine ⟨⟨keys_at k1 ((Below.refl _ _).alloc (Nat.le_refl _) _), cell_at k2 (Below.refl _ _), kids_at _⟩, ?_⟩
  exact (((Below.refl _ _).alloc (Nat.le_refl _) _).alloc (by rw [e1]; omega) _).alloc (by rw [e2]; omega) _
set_option maxRecDepth 100000 in
set_option maxHeartbeats 1000000 in
theorem isgood_any (c : No.C) (w : World) :
    Calls Tryz.prog 160 #[cV c] w fun e w' => e = .returned (.bool (okC c)) ∧ Below w.heap.size w w' := by
  have HG0 := fun (a b : Nat) (w : World) (h : No.NAt w (.slice (some ⟨a, 0, none⟩) 1 1) (.slice (some ⟨b, 0, none⟩) 1 1) (.slice none 0 0) ⟨true, [[]], [c], []⟩) => No.good_any (.slice (some ⟨a, 0, none⟩) 1 1) (.slice (some ⟨b, 0, none⟩) 1 1) (.slice none 0 0) ⟨true, [[]], [c], []⟩ (Nat.zero_le _) (by show 1 ≤ 1000000; decide) w h
  rw [okN_one] at HG0
  have HG := hid HG0
  unfold No.nV at HG
  clear HG0
  go_enter Tryz.func160, Tryz.ntmps160
  go_wp2_with fail
  refine (HG.out _ _ _ (good_args c w).1).mono ?_
  rintro e w1 ⟨rfl, hb⟩
  have HB := hid ((good_args c w).2.trans (hb.mono (good_args c w).2.size))
  clear hb
  go_wp2
  go_ret
  exact ⟨rfl, HB.out⟩
end Ch
end Go.Proofs.YtoifhcmgeackdaaGreatDoor

/-
  A builder that the call made, and a row of ints beside it: what stays of the one while the other turns.
-/
namespace Go.Proofs.YtoifhcmgeackdaaGreatDoor
open Go.RowKit Go.Shelf
namespace Ch
open Num (hid)
open Mem (Bs bs ptr Chg tI tIs)
open Sp (FB tBld tU8)
open Sh (ShL St Two Own)
theorem flen_any (b : Nat) (l : Bs) (w : World) (h : FB b l w) : Calls Tryz.prog 76 #[ptr b] w fun e w' => e = .returned (.int .i64 (l.length : Int)) ∧ w = w' := by
  refine (Any.Builder_Len_f Tryz.lenL b b (Lib.byteCells l) w h).mono ?_
  rintro e w' ⟨rfl, rfl⟩
  rw [Lib.byteCells_length]
  exact ⟨rfl, rfl⟩
theorem fendk_any (b : Nat) (l : Bs) (w : World) (h : FB b l w) (hb : b ≤ w.heap.size) :
    Calls Tryz.prog 77 #[ptr b] w fun e w' => e = .returned (.string (bs l)) ∧ FB b l w' ∧ Below b w w' ∧ Lib.OthersKept tU8 (some b) w w' := by
  have hL : Lays.n169 Tryz.prog Sp.Tryz.repeatH_ren := { Sp.Tryz.repeatH with }
  refine (Any.Builder_String_any_k hL Sp.extra b b l w h hb).mono ?_
  rintro e w' ⟨rfl, h1, h2, h3⟩
  exact ⟨rfl, h1, h2, h3⟩
variable {b : Nat} {l : Bs} {w w' : World} {F : Nat → Prop}
theorem fown_apart {base : Nat} {v : Value} {n : Nat} {xs : List Value} (h : w.ownsRowF base tU8 1 v n xs) (hc : Chg F w w') (hF : ∀ k cur fz, base ≤ k → w.heap[k]? = some (.cells cur tU8 fz) → ¬ F k) : w'.ownsRowF base tU8 1 v n xs := by
  obtain ⟨h1, h2⟩ := h
  refine ⟨h1, ?_⟩
  rcases h2 with h2 | ⟨g, cap, cur, fz, e1, e2, e3, e4⟩
  · exact Or.inl h2
  · exact Or.inr ⟨g, cap, cur, fz, e1, e2, hc.at e3 (hF g cur fz e2 e3), e4⟩
theorem fbat_apart {p : Value} {xs : List Value} (h : Lib.BuilderAtF tBld tU8 b b p xs w) (hc : Chg F w w') (hb : ¬ F b) (hF : ∀ k cur fz, b ≤ k → w.heap[k]? = some (.cells cur tU8 fz) → ¬ F k) : Lib.BuilderAtF tBld tU8 b b p xs w' := by
  obtain ⟨h1, v, h2, h3, h4⟩ := h
  exact ⟨h1, v, hc.at h2 hb, fown_apart h3 hc hF, h4⟩
theorem fb_apart (h : FB b l w) (hc : Chg F w w') (hb : ¬ F b) (hF : ∀ k cur fz, b ≤ k → w.heap[k]? = some (.cells cur tU8 fz) → ¬ F k) : FB b l w' :=
  h.elim (fun h => Or.inl (fbat_apart h hc hb hF)) (fun h => Or.inr (fbat_apart h hc hb hF))
theorem fb_type (h : FB b l w) : ∃ cs, w.heap[b]? = some (.cells cs tBld (0, 0)) := by
  rcases h with ⟨_, v, h, _⟩ | ⟨_, v, h, _⟩
  · exact ⟨_, h⟩
  · exact ⟨_, h⟩
theorem fb_lt (h : FB b l w) : b < w.heap.size := by
  obtain ⟨cs, h⟩ := fb_type h
  exact lt_of_block h
theorem kept_blk {g : Nat} {cs : Array Value} {t : TypeId} (h : Lib.OthersKept tU8 (some b) w w') (hx : w.heap[g]? = some (.cells cs t (0, 0))) (hne : g ≠ b) (ht : t ≠ tU8) : w'.heap[g]? = some (.cells cs t (0, 0)) := by
  refine h g _ hx (by simpa using hne) ?_
  intro c fz e
  simp only [Obj.cells.injEq] at e
  exact absurd e.2.1 ht
/-- A row of ints stays while a builder turns. -/
theorem own_kept {s d N : Nat} {v : Value} {n : Nat} {xs : List Value} (o : Own s d N tI w v n xs) (hk : Lib.OthersKept tU8 (some b) w w') (ht : ∃ cs, w.heap[b]? = some (.cells cs tBld (0, 0))) : Own s d N tI w' v n xs := by
  obtain ⟨⟨h1, h2⟩, h3⟩ := o
  refine ⟨⟨h1, ?_⟩, h3⟩
  rcases h2 with h2 | ⟨g, cap, cur, hv, hg, hh, r⟩
  · exact Or.inl h2
  · refine Or.inr ⟨g, cap, cur, hv, hg, ?_, r⟩
    refine kept_blk hk hh ?_ (by decide)
    rintro rfl
    obtain ⟨cs, hc⟩ := ht
    rw [hh] at hc
    simp only [Option.some.injEq, Obj.cells.injEq] at hc
    exact absurd hc.2.1 (by decide)
/-- What gone through carries: the shelf, a row of pages, a builder, a cell's box. -/
structure Rd (s d N cnt : Nat) (lim : Int) (h : Sp.Hd) (arm : Int) (S : St) (w0 : World) (base b bc : Nat) (c : No.C) (v : Value) (pg : List Int) (l : Bs) (w : World) : Prop where
  sh : ShL s d N cnt lim h arm S w0 w
  own : Own s d N tI w v pg.length (pg.map (Value.int .i64))
  new : ∀ g, v.ownBlock = some g → base ≤ g
  fb : FB b l w
  box : w.heap[bc]? = some (.cells #[.int .i64 c.z, .string (bs c.d), .int .i64 c.p] 103 (0, 0))
  ap : (s ≠ bc ∧ d ≠ bc ∧ s < b ∧ d < b ∧ bc < b) ∧ base ≤ bc ∧ N ≤ base ∧ s < base ∧ d < base
variable {s d N cnt : Nat} {lim : Int} {h h' : Sp.Hd} {arm arm' : Int} {S S' : St} {w0 : World} {base bc : Nat} {c : No.C} {v : Value} {pg : List Int}
theorem Rd.on (r : Rd s d N cnt lim h arm S w0 base b bc c v pg l w) (hb : Below w.heap.size w w') : Rd s d N cnt lim h arm S w0 base b bc c v pg l w' :=
  ⟨r.sh.kept hb, r.own.on hb, r.new, r.fb.on hb, (hb.block _ (lt_of_block r.box)).trans r.box, r.ap⟩
theorem Rd.cells (r : Rd s d N cnt lim h arm S w0 base b bc c v pg l w) : w.cell? ⟨bc, 0, none⟩ = some (.int .i64 c.z) ∧ w.cell? ⟨bc, 1, none⟩ = some (.string (bs c.d)) ∧ w.cell? ⟨bc, 2, none⟩ = some (.int .i64 c.p) :=
  ⟨Mem.blk_cell r.box 0, Mem.blk_cell r.box 1, Mem.blk_cell r.box 2⟩
/-- The shelf was asked. -/
theorem Rd.asked (r : Rd s d N cnt lim h arm S w0 base b bc c v pg l w) (k : ShL s d N cnt lim h' arm' S' w0 w') (hc : Chg (Two s d) w w') : Rd s d N cnt lim h' arm' S' w0 base b bc c v pg l w' := by
  have ha := r.ap
  refine ⟨k, r.own.turned hc, r.new, fb_apart r.fb hc (fun e => ?_) (fun k cur fz hk _ e => ?_), hc.at r.box (fun e => ?_), ha⟩
  · rcases e with e | e <;> omega
  · rcases e with e | e <;> omega
  · rcases e with e | e <;> omega
/-- The builder has turned. -/
theorem Rd.wrote {l' : Bs} (r : Rd s d N cnt lim h arm S w0 base b bc c v pg l w) (hf : FB b l' w') (hb : Below b w w') (hk : Lib.OthersKept tU8 (some b) w w') : Rd s d N cnt lim h arm S w0 base b bc c v pg l' w' := by
  have ha := r.ap
  refine ⟨?_, own_kept r.own hk (fb_type r.fb), r.new, hf, (hb.block _ ha.1.2.2.2.2).trans r.box, ha⟩
  have hc : Chg (fun k => b ≤ k ∧ k < w'.heap.size) w w' := ⟨hb.os, hb.tape, hb.output, hb.size, fun k hk hn => by
    rcases Nat.lt_or_ge k b with h1 | h1
    · exact hb.block k h1
    · exact absurd ⟨h1, Nat.lt_of_lt_of_le hk hb.size⟩ hn⟩
  exact r.sh.beside hc (fun g hg => ⟨by omega, by omega, by omega⟩)
/-- A page more. -/
theorem Rd.push (r : Rd s d N cnt lim h arm S w0 base b bc c v pg l w) (y : Int) (hn : pg.length ≤ 1000) :
    ∃ v' w', (Builtin.append_ #[tIs, tIs] tIs #[v, .slice (some ⟨w.heap.size, 0, none⟩) 1 1]).run Tryz.prog (w.alloc (.cells #[.int .i64 y] tI)) = .ok v' w' ∧ Rd s d N cnt lim h arm S w0 base b bc c v' (pg ++ [y]) l w' := by
  obtain ⟨v', w', hr, ho, hc, hk⟩ := Mem.push_int r.own.row y (by omega)
  have ha := r.ap
  refine ⟨v', w', hr, r.sh.beside hc r.own.own, ?_, fun g hg => ?_, fb_apart r.fb hc (fun e => ?_) (fun k cur fz _ h1 e => ?_), hc.at r.box (fun e => ?_), ha⟩
  · have := Own.grown r.own r.sh ho hk
    rw [List.length_append, List.map_append]
    exact this
  · rcases hk g hg with h1 | h1
    · exact r.new g h1
    · have := lt_of_block r.box
      omega
  · obtain ⟨cur, h1⟩ := Mem.row_type r.own.row e
    obtain ⟨cs, h2⟩ := fb_type r.fb
    rw [h1] at h2
    simp only [Option.some.injEq, Obj.cells.injEq] at h2
    exact absurd h2.2.1 (by decide)
  · obtain ⟨cur2, h2⟩ := Mem.row_type r.own.row e
    rw [h1] at h2
    simp only [Option.some.injEq, Obj.cells.injEq] at h2
    exact absurd h2.2.1 (by decide)
  · obtain ⟨cur, h1⟩ := Mem.row_type r.own.row e
    have h2 := r.box
    rw [h1] at h2
    simp only [Option.some.injEq, Obj.cells.injEq] at h2
    exact absurd h2.2.1 (by decide)
theorem chg_up {B : Nat} (hb : Below B w w') : Chg (fun k => B ≤ k) w w' := ⟨hb.os, hb.tape, hb.output, hb.size, fun k _ hn => hb.block k (by omega)⟩
/-- What an append to a row of ints turns: that row. -/
theorem push_chg {s d N base : Nat} {v v' : Value} {w1 : World} {n : Nat} {xs : List Value} {y : Int} (o : Own s d N tI w v n xs) (hn : n ≤ 1000) (hnew : ∀ g, v.ownBlock = some g → base ≤ g) (hr : (Builtin.append_ #[tIs, tIs] tIs #[v, .slice (some ⟨w.heap.size, 0, none⟩) 1 1]).run Tryz.prog (w.alloc (.cells #[.int .i64 y] tI)) = .ok v' w1) : Chg (fun k => base ≤ k) w w1 := by
  obtain ⟨v2, w2, hr2, -, hc, -⟩ := Mem.push_int o.row y (by omega)
  rw [hr] at hr2
  cases hr2
  exact hc.mono (fun k _ e => hnew k e)
end Ch
end Go.Proofs.YtoifhcmgeackdaaGreatDoor
