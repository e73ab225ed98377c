/-
  What stands in the file of a log, frame by frame, plainly; what a loss of power leaves of it, and what Open finds then.
-/
import Derived.Test.YtgmbiiocjhkpdaaGreatLogPM
import Derived.Test.YtgmbiiocjhkpdaaGreatLogDir
namespace Go.Proofs.YtgmbiiocjhkpdaaGreat
open Go.RowKit
namespace Lo
open Disk (Mod Fil Plc Sec Nam Dir Ctl)
open Jo (lenO psO szO calm_ref calm_beg wk nows settled fresh woken_left okB kK kN kS kD)
/-- A frame that is laid: its page's number, its page's byte, whether a transaction ends with it. -/
abbrev Fm := Nat × UInt8 × Bool
def pgL (b : UInt8) : List UInt8 := List.replicate 232 b
theorem pgL_len (b : UInt8) : (pgL b).length = 232 := by unfold pgL; rw [List.length_replicate]
def secOf (fs : List Fr) (x : Fm) : List UInt8 := frameL (lgOf fs) x.1 (pgL x.2.1) x.2.2
def stp (p : List Fr × List (List UInt8) × Nat) (x : Fm) : List Fr × List (List UInt8) × Nat :=
  (p.1 ++ [(x.1, sumL (secOf p.1 x))], p.2.1 ++ [secOf p.1 x], if x.2.2 then p.1.length + 1 else p.2.2)
def run3 (l : List Fm) : List Fr × List (List UInt8) × Nat := l.foldl stp ([], [topL], 0)
/-- The frames, the sectors, up to which frame it is committed. -/
def frs (l : List Fm) : List Fr := (run3 l).1
def secs (l : List Fm) : List (List UInt8) := (run3 l).2.1
def lastC (l : List Fm) : Nat := (run3 l).2.2
theorem run3_snoc (l : List Fm) (x : Fm) : run3 (l ++ [x]) = stp (run3 l) x := by unfold run3; rw [List.foldl_append]; rfl
theorem frs_snoc (l : List Fm) (x : Fm) : frs (l ++ [x]) = frs l ++ [(x.1, sumL (secOf (frs l) x))] := by unfold frs; rw [run3_snoc]; rfl
theorem secs_snoc (l : List Fm) (x : Fm) : secs (l ++ [x]) = secs l ++ [secOf (frs l) x] := by unfold secs frs; rw [run3_snoc]; rfl
theorem snoc_ind {α : Type} {P : List α → Prop} (h0 : P []) (h1 : ∀ l x, P l → P (l ++ [x])) : ∀ (n : Nat) (l : List α), l.length = n → P l
  | 0, l, h => by rw [List.eq_nil_of_length_eq_zero h]; exact h0
  | n + 1, l, h => by
    rcases List.eq_nil_or_concat l with rfl | ⟨r, x, rfl⟩
    · exact h0
    · rw [List.concat_eq_append] at h ⊢
      exact h1 r x (snoc_ind h0 h1 n r (by simpa using h))
theorem frs_len (l : List Fm) : (frs l).length = l.length := snoc_ind (P := fun l => (frs l).length = l.length) rfl (fun l x h => by rw [frs_snoc, List.length_append, List.length_append, h]; rfl) _ l rfl
theorem secs_len (l : List Fm) : (secs l).length = l.length + 1 := snoc_ind (P := fun l => (secs l).length = l.length + 1) rfl (fun l x h => by rw [secs_snoc, List.length_append, List.length_append, h]; rfl) _ l rfl
theorem lastC_snoc (l : List Fm) (x : Fm) : lastC (l ++ [x]) = if x.2.2 then l.length + 1 else lastC l := by
  have : lastC (l ++ [x]) = if x.2.2 then (frs l).length + 1 else lastC l := by unfold lastC frs; rw [run3_snoc]; rfl
  rw [this, frs_len]
theorem lastC_le (l : List Fm) : lastC l ≤ l.length := snoc_ind (P := fun l => lastC l ≤ l.length) (Nat.le_refl _) (fun l x h => by rw [lastC_snoc, List.length_append]; show _ ≤ l.length + 1; split <;> omega) _ l rfl
/-- A committed beginning ends with the end of a transaction. -/
theorem lastC_is (l : List Fm) : lastC l = 0 ∨ ∃ x, l[lastC l - 1]? = some x ∧ x.2.2 = true := snoc_ind (P := fun l => lastC l = 0 ∨ ∃ x, l[lastC l - 1]? = some x ∧ x.2.2 = true) (Or.inl rfl) (fun l x h => by
    rw [lastC_snoc]
    cases hc : x.2.2 with
    | true =>
      right
      rw [if_pos rfl]
      exact ⟨x, by simp, hc⟩
    | false =>
      rw [if_neg (by decide)]
      rcases h with h | ⟨y, hy, hc⟩
      · exact Or.inl h
      · refine Or.inr ⟨y, ?_, hc⟩
        rw [List.getElem?_append_left (List.getElem?_eq_some_iff.1 hy).1]
        exact hy) _ l rfl
theorem lastC_mono (l : List Fm) : ∀ (m : List Fm), lastC l ≤ lastC (l ++ m) := fun m => snoc_ind (P := fun m => lastC l ≤ lastC (l ++ m)) (by rw [List.append_nil]; exact Nat.le_refl _) (fun m x h => by
    rw [← List.append_assoc, lastC_snoc, List.length_append]
    have := lastC_le l
    split <;> omega) _ m rfl
theorem lastC_take {l : List Fm} {a b : Nat} (h : a ≤ b) : lastC (l.take a) ≤ lastC (l.take b) := by
  have e : l.take b = l.take a ++ (l.take b).drop a := by
    have := List.take_append_drop a (l.take b)
    rw [List.take_take, Nat.min_eq_left h] at this
    exact this.symm
  rw [e]
  exact lastC_mono _ _
theorem frs_app (l m : List Fm) : ∃ r, frs (l ++ m) = frs l ++ r := snoc_ind (P := fun m => ∃ r, frs (l ++ m) = frs l ++ r) ⟨[], by simp⟩ (fun m x h => by
    obtain ⟨r, h⟩ := h
    rw [← List.append_assoc, frs_snoc, h, List.append_assoc]
    exact ⟨_, rfl⟩) _ m rfl
theorem secs_app (l m : List Fm) : ∃ r, secs (l ++ m) = secs l ++ r := snoc_ind (P := fun m => ∃ r, secs (l ++ m) = secs l ++ r) ⟨[], by simp⟩ (fun m x h => by
    obtain ⟨r, h⟩ := h
    rw [← List.append_assoc, secs_snoc, h, List.append_assoc]
    exact ⟨_, rfl⟩) _ m rfl
theorem frs_take {l : List Fm} {k : Nat} (h : k ≤ l.length) : frs (l.take k) = (frs l).take k := by
  obtain ⟨r, hr⟩ := frs_app (l.take k) (l.drop k)
  rw [List.take_append_drop] at hr
  rw [hr, List.take_left' (by rw [frs_len, List.length_take]; omega)]
theorem secs_take {l : List Fm} {k : Nat} (h : k ≤ l.length) : secs (l.take k) = (secs l).take (k + 1) := by
  obtain ⟨r, hr⟩ := secs_app (l.take k) (l.drop k)
  rw [List.take_append_drop] at hr
  rw [hr, List.take_left' (by rw [secs_len, List.length_take]; omega)]
theorem secs_at {l : List Fm} {i : Nat} (h : i < l.length) : (secs l)[i + 1]? = some (secOf (frs (l.take i)) l[i]) := by
  have e : l.take (i + 1) = l.take i ++ [l[i]] := by rw [List.take_add_one, List.getElem?_eq_getElem h]; rfl
  have h1 := secs_take (l := l) (k := i + 1) (by omega)
  rw [e, secs_snoc] at h1
  have h2 : ((secs l).take (i + 1 + 1))[i + 1]? = (secs l)[i + 1]? := List.getElem?_take_of_lt (by omega)
  have hl : (secs (l.take i)).length = i + 1 := by rw [secs_len, List.length_take]; omega
  rw [← h2, ← h1, List.getElem?_append_right (by omega), hl, Nat.sub_self]
  rfl
theorem sum_lt64 (s : List UInt8) : sumL s < 18446744073709551616 := Seal.numAt_lt s 248 8
theorem sums_lt (l : List Fm) : ∀ x ∈ frs l, x.2 < 18446744073709551616 := snoc_ind (P := fun l => ∀ x ∈ frs l, x.2 < 18446744073709551616) (fun x hx => by cases hx) (fun l y h x hx => by
    rw [frs_snoc] at hx
    rcases List.mem_append.1 hx with hx | hx
    · exact h x hx
    · rw [List.mem_singleton] at hx
      subst hx
      exact sum_lt64 _) _ l rfl
theorem nums_lt {l : List Fm} (hl : ∀ x ∈ l, x.1 < 4096) : ∀ x ∈ frs l, x.1 < 4096 := snoc_ind (P := fun l => (∀ x ∈ l, x.1 < 4096) → ∀ x ∈ frs l, x.1 < 4096) (fun _ x hx => by cases hx) (fun l y h hl x hx => by
    rw [frs_snoc] at hx
    rcases List.mem_append.1 hx with hx | hx
    · exact h (fun x hx => hl x (List.mem_append_left _ hx)) x hx
    · rw [List.mem_singleton] at hx
      subst hx
      exact hl y (List.mem_append_right _ List.mem_cons_self)) _ l rfl hl
theorem sumP_lt {fs : List Fr} (h : ∀ x ∈ fs, x.2 < 18446744073709551616) : sumP fs < 18446744073709551616 := by
  rcases List.eq_nil_or_concat fs with rfl | ⟨r, x, rfl⟩
  · exact sum_lt64 topL
  · rw [List.concat_eq_append] at h ⊢
    rw [sumP_snoc]
    exact h x (List.mem_append_right _ List.mem_cons_self)
theorem frame_seal (fs : List Fr) (n : Nat) (d : List UInt8) (c : Bool) : frameL (lgOf fs) n d c = Seal.sealL (if c then 6 else 5) n (sumP fs) d := rfl
theorem frame_len (fs : List Fr) (n : Nat) {d : List UInt8} (hd : d.length = 232) (c : Bool) : (frameL (lgOf fs) n d c).length = 256 := by rw [frame_seal, Seal.seal_len, hd]
theorem sec_len (fs : List Fr) (x : Fm) : (secOf fs x).length = 256 := frame_len fs x.1 (pgL_len _) x.2.2
/-- What a frame's sector says. -/
theorem frame_says {fs : List Fr} (hs : ∀ x ∈ fs, x.2 < 18446744073709551616) {n : Nat} (hn : n < 4096) {d : List UInt8} (hd : d.length = 232) (c : Bool) :
    okB (frameL (lgOf fs) n d c) = true ∧ kK (frameL (lgOf fs) n d c) = (if c then 6 else 5) ∧ kN (frameL (lgOf fs) n d c) = n ∧ kS (frameL (lgOf fs) n d c) = sumP fs ∧ kD (frameL (lgOf fs) n d c) = d := by
  rw [frame_seal]
  refine ⟨Jo.okB_seal _ _ _ hd, Jo.kK_seal _ _ hd (by cases c <;> decide), Jo.kN_seal _ _ hd (by omega), Jo.kS_seal _ _ hd (sumP_lt hs), Jo.kD_seal _ _ _ hd⟩
theorem take_frame {fs : List Fr} (hs : ∀ x ∈ fs, x.2 < 18446744073709551616) (i : Nat) {x : Fm} (hx : x.1 < 4096) : takeP (i + 1) fs (secOf fs x) = some (fs ++ [(x.1, sumL (secOf fs x))], x.2.2) := by
  obtain ⟨h1, h2, h3, h4, h5⟩ := frame_says hs hx (pgL_len x.2.1) x.2.2
  unfold takeP
  rw [if_neg (by omega)]
  unfold secOf
  rw [h1, if_neg (by decide), h2, h3, h4, if_neg]
  · cases x.2.2 <;> rfl
  · rintro (⟨h, h'⟩ | h | h)
    · cases hc : x.2.2 <;> rw [hc] at h h'
      · exact h rfl
      · exact h' rfl
    · omega
    · exact h rfl
theorem take_nil (i : Nat) (fs : List Fr) : takeP i fs [] = none := by
  unfold takeP
  split
  · rw [if_neg (by intro h; have := congrArg List.length h; rw [show topL.length = 256 from by unfold topL; rw [Seal.seal_len, List.length_replicate]] at this; cases this)]
  · rw [if_pos (by rfl)]
theorem ok_topL : okB topL = true := Jo.okB_seal 4 1 0 (by rw [List.length_replicate])
theorem take_zeros (i : Nat) (fs : List Fr) : takeP i fs Disk.zeros = none := by
  have hz : okB Disk.zeros = false := Jo.ok_zeros
  unfold takeP
  split
  · rw [if_neg (by intro h; rw [h, ok_topL] at hz; cases hz)]
  · first | rfl | rw [if_pos hz]
/-- What is taken of sectors, one behind the other. -/
def scanP : Nat → List Fr → Nat → List Sec → List Fr × Nat
  | _, fs, st, [] => (fs, st)
  | i, fs, st, s :: r => match takeP i fs (Disk.readNow s).1 with
    | none => (fs, st)
    | some g => scanP (i + 1) g.1 (if g.2 then i + 1 else st) r
theorem scanP_some {i : Nat} {fs : List Fr} {st : Nat} {s : List UInt8} {r : List Sec} {g : List Fr × Bool} (h : takeP i fs s = some g) : scanP i fs st (some s :: r) = scanP (i + 1) g.1 (if g.2 then i + 1 else st) r := by
  simp only [scanP, Disk.readNow, h]
theorem take_top : takeP 0 [] topL = some ([], true) := by
  unfold takeP
  rw [if_pos rfl, if_pos rfl]
theorem secs_nil : secs [] = [topL] := rfl
theorem frs_nil : frs [] = [] := rfl
theorem lastC_nil : lastC [] = 0 := rfl
theorem scan_secs {l : List Fm} (hl : ∀ x ∈ l, x.1 < 4096) : ∀ C : List Sec, scanP 0 [] 0 ((secs l).map some ++ C) = scanP (l.length + 1) (frs l) (lastC l + 1) C :=
  snoc_ind (P := fun l => (∀ x ∈ l, x.1 < 4096) → ∀ C : List Sec, scanP 0 [] 0 ((secs l).map some ++ C) = scanP (l.length + 1) (frs l) (lastC l + 1) C)
    (fun _ C => by
      rw [secs_nil, frs_nil, lastC_nil, List.map_cons, List.map_nil, List.cons_append, List.nil_append, scanP_some take_top]
      rfl)
    (fun l x ih hl C => by
      rw [secs_snoc, List.map_append, List.append_assoc, ih (fun y hy => hl y (List.mem_append_left _ hy))]
      have e := take_frame (sums_lt l) l.length (hl x (List.mem_append_right _ List.mem_cons_self))
      rw [List.map_cons, List.map_nil, List.cons_append, List.nil_append, scanP_some e, frs_snoc, lastC_snoc, List.length_append]
      have e2 : (if x.2.2 = true then l.length + 1 + 1 else lastC l + 1) = (if x.2.2 = true then l.length + 1 else lastC l) + 1 := by split <;> rfl
      rw [← e2]
      rfl) _ l rfl hl
/-- Behind what was kept: nothing, or a sector that isn't right. -/
def Ends (r : List Sec) : Prop := r = [] ∨ ∃ s r', r = s :: r' ∧ (s = none ∨ s = some Disk.zeros)
theorem scan_ends {r : List Sec} (h : Ends r) (i : Nat) (fs : List Fr) (st : Nat) : scanP i fs st r = (fs, st) := by
  rcases h with rfl | ⟨s, r', rfl, rfl | rfl⟩
  · rfl
  · simp only [scanP, Disk.readNow, take_nil]
  · simp only [scanP, Disk.readNow, take_zeros]
theorem left_split {B : List (List UInt8)} {C : List Sec} (h : Jo.Left B C) : ∃ k r, k ≤ B.length ∧ C = (B.take k).map some ++ r ∧ Ends r := by
  induction h with
  | nil => exact ⟨0, [], by omega, rfl, Or.inl rfl⟩
  | @kept b B C _ ih =>
    obtain ⟨k, r, hk, e, hr⟩ := ih
    exact ⟨k + 1, r, by simp; omega, by rw [e]; rfl, hr⟩
  | @torn b B C _ _ => exact ⟨0, none :: C, by omega, rfl, Or.inr ⟨_, _, rfl, Or.inl rfl⟩⟩
  | @lost b B C _ _ => exact ⟨0, some Disk.zeros :: C, by omega, rfl, Or.inr ⟨_, _, rfl, Or.inr rfl⟩⟩
/-- What is found of sectors of which the first ones, A, are safe. -/
theorem scan_found {l : List Fm} (hl : ∀ x ∈ l, x.1 < 4096) {A B : List (List UInt8)} {C : List Sec} (h : secs l = A ++ B) (hC : Jo.Left B C) :
    (∃ q r, q ≤ l.length ∧ A.length ≤ q + 1 ∧ A.map some ++ C = (secs (l.take q)).map some ++ r ∧ scanP 0 [] 0 (A.map some ++ C) = (frs (l.take q), lastC (l.take q) + 1))
    ∨ (A = [] ∧ scanP 0 [] 0 (A.map some ++ C) = ([], 0)) := by
  obtain ⟨k, r, hk, e, hr⟩ := left_split hC
  have hlen : l.length + 1 = A.length + B.length := by rw [← secs_len, h, List.length_append]
  have e2 : A.map some ++ C = ((secs l).take (A.length + k)).map some ++ r := by
    have e0 : (A ++ B).take (A.length + k) = A ++ B.take k := by rw [List.take_append, List.take_of_length_le (l := A) (by omega), Nat.add_sub_cancel_left]
    rw [e, h, e0, List.map_append, List.append_assoc]
  rcases Nat.eq_zero_or_pos (A.length + k) with h0 | h0
  · right
    have hA : A = [] := List.eq_nil_of_length_eq_zero (by omega)
    refine ⟨hA, ?_⟩
    rw [e2, h0]
    exact scan_ends hr 0 [] 0
  · left
    have e3 := secs_take (l := l) (k := A.length + k - 1) (by omega)
    rw [show A.length + k - 1 + 1 = A.length + k by omega] at e3
    rw [← e3] at e2
    refine ⟨A.length + k - 1, r, by omega, by omega, e2, ?_⟩
    rw [e2, scan_secs (fun x hx => hl x (List.mem_of_mem_take hx)), scan_ends hr]
/-- The reading of a calm disk. -/
theorem read_calmP : ∀ (k i : Nat) (fs : List Fr) (st : Nat) {M : Mod} {L : Option Fil}, M.fs = dir1 L → Jo.Calm M.c → i + k = lenO L →
    ∃ M', readP k i fs st M = (0, (scanP i fs st ((nows L).drop i)).1, (scanP i fs st ((nows L).drop i)).2, M') ∧ M'.fs = dir1 L ∧ Jo.Calm M'.c ∧ M'.c.room = M.c.room
  | 0, i, fs, st, M, L, h, hc, hi => by
    have : (nows L).drop i = [] := List.drop_eq_nil_of_le (by unfold nows; rw [List.length_map]; cases L <;> simp [psO, lenO] at hi ⊢ <;> omega)
    rw [this]
    exact ⟨M, rfl, h, hc, rfl⟩
  | k + 1, i, fs, st, M, L, h, hc, hi => by
    have hlt : i < (psO L).length := by cases L <;> simp [psO, lenO] at hi ⊢ <;> omega
    obtain ⟨h1, h2, h3, h4, h5⟩ := read_calm h hc (i := i) (p := (psO L)[i]) (List.getElem?_eq_getElem hlt)
    have hd : (nows L).drop i = (psO L)[i].now :: (nows L).drop (i + 1) := by
      unfold nows
      rw [List.drop_eq_getElem_cons (by rw [List.length_map]; exact hlt), List.getElem_map]
    unfold readP
    rw [hd, if_neg (by rw [h2]; cases (psO L)[i].now <;> simp [Disk.readNow]), h1]
    simp only [scanP]
    cases takeP i fs (Disk.readNow (psO L)[i].now).1 with
    | none => exact ⟨_, rfl, h3, h4, h5⟩
    | some g =>
      obtain ⟨M', e, e2, e3, e4⟩ := read_calmP k (i + 1) g.1 (if g.2 then i + 1 else st) h3 h4 (by omega)
      exact ⟨M', e, e2, e3, e4.trans h5⟩

/-- The disk of a log of these frames: what its file's sectors are now; A of them are safe, the others new. -/
def Stands (l : List Fm) (A : Nat) (L : Option Fil) : Prop :=
  (l = [] ∧ L = none ∧ A = 0) ∨ ∃ F, L = some F ∧ A ≤ l.length + 1 ∧ F.ps = ((secs l).take A).map (fun s => settled (some s)) ++ ((secs l).drop A).map fresh
/-- All of it can be read. -/
def Holds (l : List Fm) (M : Mod) : Prop := Jo.Calm M.c ∧ ∃ L, M.fs = dir1 L ∧ (l = [] ∧ L = none ∨ ∃ F, L = some F ∧ F.ps.map (·.now) = (secs l).map some)
theorem Stands.holds {l : List Fm} {A : Nat} {L : Option Fil} {M : Mod} (h : Stands l A L) (hf : M.fs = dir1 L) (hc : Jo.Calm M.c) : Holds l M := by
  refine ⟨hc, L, hf, ?_⟩
  rcases h with ⟨h1, h2, _⟩ | ⟨F, h1, h2, h3⟩
  · exact Or.inl ⟨h1, h2⟩
  · refine Or.inr ⟨F, h1, ?_⟩
    rw [h3, List.map_append, List.map_map, List.map_map]
    have e : (secs l).map some = ((secs l).take A).map some ++ ((secs l).drop A).map some := by rw [← List.map_append, List.take_append_drop]
    rw [e]
    rfl
/-- What Open leaves behind a loss of power. -/
structure Found (l : List Fm) (A n : Nat) (M : Mod) : Prop where
  le : n ≤ l.length
  last : n = 0 ∨ ∃ x, l[n - 1]? = some x ∧ x.2.2 = true
  ge : lastC (l.take (A - 1)) ≤ n
  holds : Holds (l.take n) M
theorem open_none {l : List Fm} {M : Mod} (hf : M.fs = dir1 none) (hc : Jo.Calm M.c) {A : Nat} (hA : A = 0) : openP M = (0, some [], M) ∧ Found l A 0 M := by
  have hsz : M.size ln = -1 := size_l hf
  refine ⟨?_, ⟨Nat.zero_le _, Or.inl rfl, ?_, ⟨hc, none, hf, Or.inl ⟨rfl, rfl⟩⟩⟩⟩
  · have e1 : readP (M.size ln).toNat 0 [] 0 M = (0, [], 0, M) := by rw [hsz]; rfl
    have e2 : trimP 0 M = (0, M) := by unfold trimP; rw [hsz, if_neg (by omega), if_neg (by omega)]
    unfold openP
    rw [e1]
    simp only [e2]
    rfl
  · rw [hA]
    exact Nat.le_of_eq rfl
theorem open_file {l : List Fm} (hl : ∀ x ∈ l, x.1 < 4096) {A : Nat} (hA : A ≤ l.length + 1) {M : Mod} {G : Fil} {C : List Sec} (hf : M.fs = dir1 (some G)) (hc : Jo.Calm M.c) (hC : Jo.Left ((secs l).drop A) C) (hG : G.ps.map (·.now) = ((secs l).take A).map some ++ C) :
    ∃ n M', openP M = (0, some (frs (l.take n)), M') ∧ Found l A n M' := by
  have hsz : M.size ln = (G.ps.length : Int) := size_l hf
  obtain ⟨X, hX⟩ : ∃ X, ((secs l).take A).map some ++ C = X := ⟨_, rfl⟩
  rw [hX] at hG
  have hnow : nows (some G) = X := hG
  obtain ⟨M1, e1, f1, c1, r1⟩ := read_calmP G.ps.length 0 [] 0 hf hc (Nat.zero_add _)
  rw [List.drop_zero, hnow] at e1
  have hs : secs l = (secs l).take A ++ (secs l).drop A := (List.take_append_drop _ _).symm
  have hlenA : ((secs l).take A).length = A := by rw [List.length_take, secs_len]; omega
  have hXl : G.ps.length = X.length := by rw [← hG, List.length_map]
  have hsz1 : M1.size ln = (G.ps.length : Int) := size_l f1
  rcases scan_found hl hs hC with ⟨q, r, hq, hqA, he, hsc⟩ | ⟨hA0, hsc⟩
  · rw [hX] at he hsc
    rw [hlenA] at hqA
    rw [hsc] at e1
    have hn : lastC (l.take q) ≤ q := by have := lastC_le (l.take q); rw [List.length_take] at this; omega
    obtain ⟨n, hnn⟩ : ∃ n, lastC (l.take q) = n := ⟨_, rfl⟩
    rw [hnn] at hn e1
    have hql : (secs (l.take q)).length = q + 1 := by rw [secs_len, List.length_take]; omega
    have hXlen : n + 1 ≤ X.length := by rw [he, List.length_append, List.length_map, hql]; omega
    have htake : X.take (n + 1) = (secs (l.take n)).map some := by
      rw [he, List.take_append_of_le_length (by rw [List.length_map, hql]; omega), ← List.map_take, ← secs_take (by rw [List.length_take]; omega), List.take_take, Nat.min_eq_left hn]
    have hfr : (frs (l.take q)).take n = frs (l.take n) := by
      rw [← frs_take (by rw [List.length_take]; omega), List.take_take, Nat.min_eq_left hn]
    have hlast : n = 0 ∨ ∃ x, l[n - 1]? = some x ∧ x.2.2 = true := by
      rcases lastC_is (l.take q) with h | ⟨x, hx, hxc⟩
      · exact Or.inl (hnn ▸ h)
      · rw [hnn] at hx
        rcases Nat.eq_zero_or_pos n with h0 | h0
        · exact Or.inl h0
        · rw [List.getElem?_take_of_lt (by omega)] at hx
          exact Or.inr ⟨x, hx, hxc⟩
    have hge : lastC (l.take (A - 1)) ≤ n := hnn ▸ lastC_take (by omega)
    have hopen : ∀ M2, trimP (n + 1) M1 = (0, M2) → openP M = (0, some (frs (l.take n)), M2) := by
      intro M2 e2
      unfold openP
      rw [hsz, Int.toNat_natCast, e1]
      simp only [e2]
      rw [if_neg (by decide), if_neg (by decide), Nat.add_sub_cancel, hfr]
    by_cases hcut : n + 1 < X.length
    · obtain ⟨hd1, hd2⟩ := does_cut f1 (n + 1)
      obtain ⟨o1, o2, o3⟩ := hd2 c1 ⟨G, rfl, by omega⟩
      rcases hd1 with ⟨h, _⟩ | ⟨_, o4⟩
      · exact absurd o1 h
      · have e2 : trimP (n + 1) M1 = (0, (M1.cut ln (n + 1 : Nat)).2) := by
          unfold trimP
          rw [if_neg (by omega), if_pos (by rw [hsz1]; omega)]
          exact Prod.ext o1 rfl
        refine ⟨n, _, hopen _ e2, ⟨by omega, hlast, hge, ⟨o2, _, o4, Or.inr ⟨G.cut (n + 1), rfl, ?_⟩⟩⟩⟩
        show (G.ps.take (n + 1)).map _ = _
        rw [List.map_take, hG, htake]
    · have e2 : trimP (n + 1) M1 = (0, M1) := by
        unfold trimP
        rw [if_neg (by omega), if_neg (by rw [hsz1]; omega)]
      refine ⟨n, _, hopen _ e2, ⟨by omega, hlast, hge, ⟨c1, _, f1, Or.inr ⟨G, rfl, ?_⟩⟩⟩⟩
      rw [hG, ← htake, List.take_of_length_le (by omega)]
  · rw [hX] at hsc
    rw [hsc] at e1
    have hA1 : A = 0 := by rw [← hlenA, hA0]; rfl
    obtain ⟨hd1, hd2⟩ := does_drop f1
    obtain ⟨o1, o2, o3⟩ := hd2 c1 (by simp)
    rcases hd1 with ⟨h, _⟩ | ⟨_, o4⟩
    · exact absurd o1 h
    · have e2 : trimP 0 M1 = (0, (M1.drop ln).2) := by
        unfold trimP
        rw [if_pos ⟨by rw [hsz1]; omega, rfl⟩]
        exact Prod.ext o1 rfl
      have e : openP M = (0, some [], (M1.drop ln).2) := by
        unfold openP
        rw [hsz, Int.toNat_natCast, e1]
        simp only [e2]
        rfl
      refine ⟨0, _, e, ⟨Nat.zero_le _, Or.inl rfl, ?_, ⟨o2, none, o4, Or.inl ⟨rfl, rfl⟩⟩⟩⟩
      rw [hA1]
      exact Nat.le_of_eq rfl
/-- Behind a loss of power. -/
theorem open_found {l : List Fm} (hl : ∀ x ∈ l, x.1 < 4096) {A : Nat} {L : Option Fil} (h : Stands l A L) (fates : List Int) {M : Mod} (hf : M.fs = dir1 (wk fates 0 L)) (hc : Jo.Calm M.c) :
    ∃ n M', openP M = (0, some (frs (l.take n)), M') ∧ Found l A n M' := by
  rcases h with ⟨rfl, rfl, hA⟩ | ⟨F, rfl, hA, hF⟩
  · exact ⟨0, M, open_none hf hc hA⟩
  · have hF2 : F.ps = (((secs l).take A).map some).map settled ++ ((secs l).drop A).map fresh := by rw [hF, List.map_map]; rfl
    obtain ⟨C, hC, hps⟩ := woken_left hF2 fates 0
    by_cases hlv : F.lives fates 0
    · have e : wk fates 0 (some F) = some (F.woken fates 0) := by unfold wk; simp only; rw [if_pos hlv]
      rw [e] at hf
      exact open_file hl hA hf hc hC (by rw [hps, List.map_map]; exact List.map_id _)
    · have e : wk fates 0 (some F) = none := by unfold wk; simp only; rw [if_neg hlv]
      rw [e] at hf
      have hA0 : A = 0 := by
        rcases Nat.eq_zero_or_pos A with h0 | h0
        · exact h0
        · exfalso
          refine hlv ?_
          have hl0 : 0 < (secs l).length := by rw [secs_len]; omega
          obtain ⟨a, T, ea⟩ : ∃ a T, (secs l).take A = a :: T := by
            cases hs : (secs l).take A with
            | nil => rw [List.take_eq_nil_iff] at hs; rcases hs with hs | hs; omega; rw [hs] at hl0; cases hl0
            | cons a T => exact ⟨a, T, rfl⟩
          have := Jo.end_ge _ (Disk.mets fates 0 F.ps) rfl 0 (settled (some a)) (by rw [hF2, Jo.mets_app, ea]; rfl) rfl
          unfold Disk.Fil.lives
          simp
          exact Or.inr (by omega)
      exact ⟨0, M, open_none hf hc hA0⟩
/-- Without one. -/
theorem open_holds {l : List Fm} (hl : ∀ x ∈ l, x.1 < 4096) {M : Mod} (h : Holds l M) : ∃ n M', openP M = (0, some (frs (l.take n)), M') ∧ Found l (l.length + 1) n M' := by
  obtain ⟨hc, L, hf, ⟨rfl, rfl⟩ | ⟨F, rfl, hF⟩⟩ := h
  · obtain ⟨h1, h2⟩ := open_none (l := []) hf hc rfl
    exact ⟨0, M, h1, ⟨h2.le, h2.last, h2.ge, h2.holds⟩⟩
  · refine open_file hl (Nat.le_refl _) (C := []) hf hc Jo.Left.nil ?_
    rw [hF, List.take_of_length_le (by rw [secs_len]; exact Nat.le_refl _), List.append_nil]
/-! ### laying -/
theorem Stands.le {l : List Fm} {A : Nat} {L : Option Fil} (h : Stands l A L) : A ≤ l.length + 1 := by
  rcases h with ⟨_, _, h⟩ | ⟨_, _, h, _⟩
  · omega
  · exact h
theorem Stands.len {l : List Fm} {A : Nat} {F : Fil} (h : Stands l A (some F)) : F.ps.length = l.length + 1 := by
  rcases h with ⟨_, h, _⟩ | ⟨G, h, hA, hF⟩
  · cases h
  · cases h
    rw [hF, List.length_append, List.length_map, List.length_map, ← List.length_append, List.take_append_drop, secs_len]
theorem drop_snoc {α : Type} {l : List α} {A : Nat} (h : A ≤ l.length) (x : α) : (l ++ [x]).take A = l.take A ∧ (l ++ [x]).drop A = l.drop A ++ [x] := ⟨List.take_append_of_le_length h, List.drop_append_of_le_length h⟩
theorem write_end {F : Fil} (s : List UInt8) : (F.write F.ps.length s).ps = F.ps ++ [fresh s] := by unfold Disk.Fil.write; rw [if_pos rfl]; rfl
/-- The top that is written where there is no file. -/
theorem stands_top : Stands [] 0 (some (((none : Option Fil).getD Disk.emptyFil).write 0 topL)) := by
  refine Or.inr ⟨_, rfl, Nat.zero_le _, ?_⟩
  have := write_end (F := Disk.emptyFil) topL
  exact this
/-- The next frame. -/
theorem Stands.lay {l : List Fm} {A : Nat} {F : Fil} (h : Stands l A (some F)) (x : Fm) : Stands (l ++ [x]) A (some (F.write (1 + l.length) (secOf (frs l) x))) := by
  have hlen := h.len
  rcases h with ⟨_, h, _⟩ | ⟨G, h, hA, hF⟩
  · cases h
  · cases h
    refine Or.inr ⟨_, rfl, by rw [List.length_append]; show A ≤ l.length + 1 + 1; omega, ?_⟩
    rw [show 1 + l.length = F.ps.length by omega, write_end, secs_snoc]
    obtain ⟨e1, e2⟩ := drop_snoc (l := secs l) (A := A) (by rw [secs_len]; exact hA) (secOf (frs l) x)
    rw [e1, e2, List.map_append, ← List.append_assoc, hF]
    rfl
theorem Stands.sync {l : List Fm} {A : Nat} {F : Fil} (h : Stands l A (some F)) : Stands l (l.length + 1) (some F.sync) := by
  rcases h with ⟨_, h, _⟩ | ⟨G, h, hA, hF⟩
  · cases h
  · cases h
    refine Or.inr ⟨_, rfl, Nat.le_refl _, ?_⟩
    rw [List.take_of_length_le (by rw [secs_len]; omega), List.drop_eq_nil_of_le (by rw [secs_len]; omega)]
    show F.ps.map _ = _
    rw [hF, List.map_append, List.map_map, List.map_map, List.map_nil, List.append_nil]
    have e : secs l = (secs l).take A ++ (secs l).drop A := (List.take_append_drop _ _).symm
    conv => rhs; rw [e, List.map_append]
    rfl
/-- Fewer frames, nothing safe. -/
theorem Stands.cut {l : List Fm} {F : Fil} (h : Stands l 0 (some F)) {k : Nat} (hk : k ≤ l.length) : Stands (l.take k) 0 (some (F.cut (1 + k))) := by
  rcases h with ⟨_, h, _⟩ | ⟨G, h, hA, hF⟩
  · cases h
  · cases h
    refine Or.inr ⟨_, rfl, Nat.zero_le _, ?_⟩
    rw [List.take_zero, List.drop_zero, List.map_nil, List.nil_append] at hF ⊢
    show F.ps.take (1 + k) = _
    rw [hF, ← List.map_take, secs_take hk, Nat.add_comm]
/-! ### the calls -/
/-- What Add leaves, whatever the disk answers. -/
def AddW (l : List Fm) (A : Nat) (x : Fm) (M : Mod) (X : Int × List Fr × Mod) : Prop :=
  (X.1 = 0 ∧ X.2.1 = frs (l ++ [x]) ∧ (∃ L', X.2.2.fs = dir1 L' ∧ Stands (l ++ [x]) A L' ∧ L' ≠ none) ∧ (Jo.Calm M.c ∧ ((l.length + 1 : Nat) : Int) < M.c.room → Jo.Calm X.2.2.c ∧ X.2.2.c.room = M.c.room))
  ∨ (X.1 ≠ 0 ∧ ¬ (Jo.Calm M.c ∧ ((l.length + 1 : Nat) : Int) < M.c.room) ∧ ∃ L', X.2.2.fs = dir1 L' ∧ Stands l A L')
/-- Add, whatever the disk answers. -/
theorem add_way {l : List Fm} {A : Nat} {L : Option Fil} (h : Stands l A L) {M : Mod} (hf : M.fs = dir1 L) (x : Fm) (hx : x.1 < 4096) :
    AddW l A x M (addP (frs l) x.1 (pgL x.2.1) x.2.2 M) := by
  have hfr : ∀ {M1 : Mod} {F : Fil}, Stands l A (some F) → M1.fs = dir1 (some F) →
      AddW l A x M1 (frameP (frs l) x.1 (pgL x.2.1) x.2.2 M1) := by
    intro M1 F hS hf1
    have hlen := hS.len
    obtain ⟨hd1, hd2⟩ := does_write hf1 (k := 1 + (frs l).length) (sec_len (frs l) x)
    unfold frameP AddW
    have e0 : frameL (lgOf (frs l)) x.1 (pgL x.2.1) x.2.2 = secOf (frs l) x := rfl
    rw [e0, frs_snoc]
    have hlay := hS.lay x
    rw [← frs_len l] at hlay
    generalize M1.write ln ((1 + (frs l).length : Nat) : Int) (secOf (frs l) x) = Y at *
    simp only [Option.getD_some] at hd1 hd2
    simp only
    generalize F.write (1 + (frs l).length) (secOf (frs l) x) = G at *
    have hok : Jo.Calm M1.c ∧ ((l.length + 1 : Nat) : Int) < M1.c.room → Y.1 = 0 ∧ Jo.Calm Y.2.c ∧ Y.2.c.room = M1.c.room := fun hcr => hd2 hcr.1 ⟨by
        show 1 + (frs l).length ≤ F.ps.length
        rw [frs_len]; omega, Or.inr (by
        show ((F.ps.length : Nat) : Int) < _
        rw [hlen]; exact hcr.2)⟩
    rcases hd1 with ⟨h1, h2⟩ | ⟨h1, h2⟩
    · exact Or.inr ⟨h1, fun hcr => h1 (hok hcr).1, _, h2, hS⟩
    · exact Or.inl ⟨h1, if_pos h1, ⟨_, h2, hlay, by simp⟩, fun hcr => (hok hcr).2⟩
  have hadd : addP (frs l) x.1 (pgL x.2.1) x.2.2 M = if (topP M).1 ≠ 0 then ((topP M).1, frs l, (topP M).2) else frameP (frs l) x.1 (pgL x.2.1) x.2.2 (topP M).2 := by
    unfold addP
    rw [if_neg (by rw [pgL_len]; omega), Int.toNat_natCast]
  rw [hadd]
  have hsz : M.size ln = szO L := size_l hf
  cases hL : L with
  | some F =>
    subst hL
    have e : topP M = (0, M) := by
      unfold topP
      rw [hsz, if_neg (by show ¬ ((F.ps.length : Nat) : Int) < 0; omega)]
    rw [e, if_neg (fun h => h rfl)]
    exact hfr h hf
  | none =>
    subst hL
    have e : topP M = M.write ln 0 topL := by
      unfold topP
      rw [hsz, if_pos (by decide)]
    rw [e]
    have hl0 : l = [] ∧ A = 0 := by
      rcases h with ⟨h1, _, h2⟩ | ⟨F, h1, _⟩
      · exact ⟨h1, h2⟩
      · cases h1
    obtain ⟨rfl, rfl⟩ := hl0
    have ht : topL.length = 256 := by unfold topL; rw [Seal.seal_len, List.length_replicate]
    have hdo := does_write hf (k := 0) ht
    rw [show ((0 : Nat) : Int) = 0 from rfl] at hdo
    obtain ⟨hd1, hd2⟩ := hdo
    have hst := stands_top
    generalize M.write ln 0 topL = Y at *
    generalize ((none : Option Fil).getD Disk.emptyFil).write 0 topL = T at *
    have hok : Jo.Calm M.c ∧ ((([] : List Fm).length + 1 : Nat) : Int) < M.c.room → Y.1 = 0 ∧ Jo.Calm Y.2.c ∧ Y.2.c.room = M.c.room := fun hcr => hd2 hcr.1 ⟨Nat.zero_le _, Or.inr (by
      have h2 : (1 : Int) < M.c.room := hcr.2
      show ((0 : Nat) : Int) < _
      omega)⟩
    rcases hd1 with ⟨h1, h2⟩ | ⟨h1, h2⟩
    · rw [if_pos h1]
      exact Or.inr ⟨h1, fun hcr => h1 (hok hcr).1, none, h2, h⟩
    · rw [if_neg (by rw [h1]; exact fun h => h rfl)]
      rcases hfr (M1 := Y.2) hst h2 with ⟨h3, h4, h5, h6⟩ | ⟨h3, h4, h5⟩
      · refine Or.inl ⟨h3, h4, h5, fun hcr => ?_⟩
        obtain ⟨o1, o2, o3⟩ := hok hcr
        obtain ⟨p1, p2⟩ := h6 ⟨o2, by rw [o3]; exact hcr.2⟩
        exact ⟨p1, p2.trans o3⟩
      · refine Or.inr ⟨h3, fun hcr => h4 ?_, h5⟩
        obtain ⟨o1, o2, o3⟩ := hok hcr
        exact ⟨o2, by rw [o3]; exact hcr.2⟩
/-- Sync, of a log that has frames. -/
theorem sync_way {l : List Fm} {A : Nat} {L : Option Fil} (h : Stands l A L) {M : Mod} (hf : M.fs = dir1 L) (hL : L ≠ none) :
    ((syncM M).1 = 0 ∧ ∃ L', (syncM M).2.fs = dir1 L' ∧ Stands l (l.length + 1) L' ∧ L' ≠ none) ∨ ((syncM M).1 ≠ 0 ∧ ∃ L', (syncM M).2.fs = dir1 L' ∧ Stands l A L' ∧ L' ≠ none) := by
  cases L with
  | none => exact absurd rfl hL
  | some F =>
    have e : syncM M = M.sync ln := by
      unfold syncM
      rw [size_l hf, if_neg (by show ¬ ((F.ps.length : Nat) : Int) < 0; omega)]
    rw [e]
    obtain ⟨hd1, hd2⟩ := does_sync hf
    generalize M.sync ln = Y at *
    rcases hd1 with ⟨h1, h2⟩ | ⟨h1, h2⟩
    · exact Or.inr ⟨h1, _, h2, h, hL⟩
    · exact Or.inl ⟨h1, _, h2, h.sync, by simp⟩
/-- Of a calm disk. -/
theorem sync_ok {l : List Fm} {A : Nat} {L : Option Fil} (h : Stands l A L) {M : Mod} (hf : M.fs = dir1 L) (hc : Jo.Calm M.c) :
    (syncM M).1 = 0 ∧ Jo.Calm (syncM M).2.c ∧ (syncM M).2.c.room = M.c.room ∧ ∃ L' A', (syncM M).2.fs = dir1 L' ∧ Stands l A' L' ∧ (l ≠ [] → A' = l.length + 1) := by
  cases L with
  | none =>
    have e : syncM M = (0, M) := by
      unfold syncM
      rw [size_l hf]
      exact if_pos (by decide)
    rw [e]
    refine ⟨rfl, hc, rfl, none, A, hf, h, fun hl => ?_⟩
    rcases h with ⟨h1, _⟩ | ⟨F, h1, _⟩
    · exact absurd h1 hl
    · cases h1
  | some F =>
    have e : syncM M = M.sync ln := by
      unfold syncM
      rw [size_l hf, if_neg (by show ¬ ((F.ps.length : Nat) : Int) < 0; omega)]
    rw [e]
    obtain ⟨hd1, hd2⟩ := does_sync hf
    obtain ⟨o1, o2, o3⟩ := hd2 hc (by simp)
    generalize M.sync ln = Y at *
    rcases hd1 with ⟨h1, h2⟩ | ⟨h1, h2⟩
    · exact absurd o1 h1
    · exact ⟨o1, o2, o3, _, _, h2, h.sync, fun _ => rfl⟩
/-- Back, of a calm disk on which nothing is safe. -/
theorem back_ok {l : List Fm} {L : Option Fil} (h : Stands l 0 L) {M : Mod} (hf : M.fs = dir1 L) (hc : Jo.Calm M.c) {k : Nat} (hk : k ≤ l.length) :
    (backP (frs l) k M).1 = 0 ∧ (backP (frs l) k M).2.1 = frs (l.take k) ∧ Jo.Calm (backP (frs l) k M).2.2.c ∧ (backP (frs l) k M).2.2.c.room = M.c.room ∧ ∃ L', (backP (frs l) k M).2.2.fs = dir1 L' ∧ Stands (l.take k) 0 L' := by
  have hfl := frs_len l
  by_cases hkl : k = l.length
  · have e : backP (frs l) k M = (0, frs l, M) := by
      unfold backP
      rw [if_neg (by omega), if_pos (by rw [hfl, hkl])]
    rw [e, hkl, List.take_length]
    exact ⟨rfl, rfl, hc, rfl, L, hf, h⟩
  · have e : backP (frs l) k M = ((M.cut ln (1 + k : Nat)).1, (if (M.cut ln (1 + k : Nat)).1 = 0 then (frs l).take k else frs l), (M.cut ln (1 + k : Nat)).2) := by
      unfold backP
      rw [if_neg (by omega), if_neg (by omega)]
      rfl
    cases L with
    | none =>
      rcases h with ⟨h1, _⟩ | ⟨F, h1, _⟩
      · rw [h1] at hk hkl; simp at hk hkl; omega
      · cases h1
    | some F =>
      have hlen := h.len
      obtain ⟨hd1, hd2⟩ := does_cut hf (1 + k)
      obtain ⟨o1, o2, o3⟩ := hd2 hc ⟨F, rfl, by omega⟩
      have hcut := h.cut hk
      rw [e]
      generalize M.cut ln ((1 + k : Nat) : Int) = Y at *
      rcases hd1 with ⟨h1, h2⟩ | ⟨h1, h2⟩
      · exact absurd o1 h1
      · exact ⟨o1, by simp only [o1, if_true]; exact (frs_take hk).symm, o2, o3, _, h2, hcut⟩
theorem back_arg {l : List Fm} {M : Mod} {k : Int} (h : k < 0 ∨ (l.length : Int) < k) : backP (frs l) k M = (1, frs l, M) := by
  unfold backP
  rw [frs_len, if_pos h]
/-- End, of a calm disk: no frames, no file. -/
theorem end_ok {fs : List Fr} {L : Option Fil} {M : Mod} (hf : M.fs = dir1 L) (hc : Jo.Calm M.c) : (endP fs M).1 = 0 ∧ (endP fs M).2.1 = [] ∧ (endP fs M).2.2.fs = dir1 none := by
  unfold endP
  rw [size_l hf]
  cases L with
  | none =>
    rw [if_pos (by decide)]
    exact ⟨rfl, rfl, hf⟩
  | some F =>
    rw [if_neg (by show ¬ ((F.ps.length : Nat) : Int) < 0; omega)]
    obtain ⟨hd1, hd2⟩ := does_drop hf
    obtain ⟨o1, o2, o3⟩ := hd2 hc (by simp)
    rcases hd1 with ⟨h1, h2⟩ | ⟨h1, h2⟩
    · exact absurd o1 h1
    · exact ⟨o1, if_pos o1, h2⟩
theorem new_dir (r : Int) : (Disk.Mod.new r).fs = dir1 none := rfl
theorem new_calm (r : Int) : Jo.Calm (Disk.Mod.new r).c := ⟨rfl, rfl⟩
theorem stands_none : Stands [] 0 none := Or.inl ⟨rfl, rfl, rfl⟩
end Lo
end Go.Proofs.YtgmbiiocjhkpdaaGreat
