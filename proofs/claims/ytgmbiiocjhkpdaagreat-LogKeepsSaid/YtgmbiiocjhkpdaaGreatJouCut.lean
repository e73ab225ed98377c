/-
  What stands on the disk while a database is changed under a journal, plainly; and what a loss of power leaves of it.
-/
import Derived.Test.YtgmbiiocjhkpdaaGreatJouDir
namespace Go.Proofs.YtgmbiiocjhkpdaaGreat
open Go.RowKit
namespace Jo
open Disk (Mod Fil Plc Sec Nam Dir Ctl)

/-- A sector that was synced; one that is new and waits. -/
def settled (s : Sec) : Plc := ⟨s, some s, false⟩
def fresh (s : List UInt8) : Plc := ⟨some s, none, true⟩
/-- A page of the database at the start: its bytes, its sector. -/
def od (n : Nat) : List UInt8 := List.replicate 232 (UInt8.ofNat n)
theorem od_len (n : Nat) : (od n).length = 232 := by unfold od; rw [List.length_replicate]
def orig (n : Nat) : List UInt8 := Seal.sealL 1 n 0 (od n)
theorem orig_len (n : Nat) : (orig n).length = 256 := by unfold orig; rw [Seal.seal_len, od_len]

/-- The file of the database: what it was at the start but for the pages L; str: in its safe states too. -/
structure DatF (str : Prop) (P : Nat) (L : Nat → Prop) (F : Fil) : Prop where
  len : P ≤ F.ps.length
  sure : str → P = 0 ∨ F.sure = true
  at_ : ∀ n, n < P → ∃ p, F.ps[n]? = some p ∧ (str → p.safe.isSome = true) ∧ (¬ L n → p.now = some (orig n) ∧ (str → p.safe = some (some (orig n)) ∧ p.waits = false))
def DatI (str : Prop) (P : Nat) (L : Nat → Prop) : Option Fil → Prop
  | none => P = 0
  | some F => DatF str P L F
theorem DatF.mono {str str' : Prop} {P : Nat} {L L' : Nat → Prop} {F : Fil} (h : DatF str P L F) (hs : str' → str) (hL : ∀ n, n < P → L n → L' n) : DatF str' P L' F :=
  ⟨h.len, fun s => h.sure (hs s), fun n hn => by
    obtain ⟨p, h1, h2, h3⟩ := h.at_ n hn
    exact ⟨p, h1, fun s => h2 (hs s), fun hnL => ⟨(h3 fun x => hnL (hL n hn x)).1, fun s => (h3 fun x => hnL (hL n hn x)).2 (hs s)⟩⟩⟩
theorem DatI.mono {str str' : Prop} {P : Nat} {L L' : Nat → Prop} {D : Option Fil} (h : DatI str P L D) (hs : str' → str) (hL : ∀ n, n < P → L n → L' n) : DatI str' P L' D := by
  cases D with
  | none => exact h
  | some F => exact DatF.mono h hs hL

/-- Of a journal: its records are of pages that were there, as they were. -/
structure Okf (P : Nat) (f : Fnd) : Prop where
  recs : ∀ r ∈ f.recs, r.1 < P ∧ r.2 = od r.1
  none : f.feet = 0 → f.counted = 0
  pages : f.feet ≠ 0 → f.pages = P
theorem okf0 (P : Nat) : Okf P f0 := ⟨by simp [f0], fun _ => rfl, fun h => absurd rfl h⟩
/-- The pages that it counts. -/
def cnt (f : Fnd) (n : Nat) : Prop := ∃ r ∈ f.recs.take f.counted, r.1 = n
structure Good (str : Prop) (P : Nat) (f : Fnd) (D : Option Fil) : Prop where
  ok : Okf P f
  dat : DatI str P (cnt f) D
  exact_ : f.feet = 0 → ∀ F, D = some F → F.ps.length = P
theorem Good.weak {str : Prop} {P : Nat} {f : Fnd} {D : Option Fil} (h : Good True P f D) : Good str P f D := ⟨h.ok, h.dat.mono (fun _ => trivial) (fun _ _ x => x), h.exact_⟩
def nows (F : Option Fil) : List Sec := (psO F).map (·.now)
/-- What Back can go on from. -/
def Sta (str : Prop) (P : Nat) (D J : Option Fil) : Prop := Good str P (scan f0 (nows J)) D ∧ (str → ∃ A : List Sec, psO J = A.map settled)
/-- What a loss of power can meet. -/
def CutI (P : Nat) (D J : Option Fil) : Prop := ∃ (A : List Sec) (B : List (List UInt8)), psO J = A.map settled ++ B.map fresh ∧ ∀ k, k ≤ B.length → Good True P (scan f0 (A ++ (B.take k).map some)) D
theorem Sta.cut {P : Nat} {D J : Option Fil} (h : Sta True P D J) : CutI P D J := by
  obtain ⟨hg, hA⟩ := h
  obtain ⟨A, e⟩ := hA trivial
  refine ⟨A, [], by simp [e], fun k _ => ?_⟩
  have e2 : nows J = A := by unfold nows; rw [e, List.map_map]; exact List.map_id A
  rw [e2] at hg
  simpa using hg
theorem CutI.sta {P : Nat} {D J : Option Fil} (h : CutI P D J) : Sta False P D J := by
  obtain ⟨A, B, e, hg⟩ := h
  refine ⟨?_, fun h => h.elim⟩
  have e2 : nows J = A ++ B.map some := by
    unfold nows
    rw [e, List.map_append, List.map_map, List.map_map]
    congr 1
    exact List.map_id A
  rw [e2]
  have := (hg B.length (Nat.le_refl _)).weak (str := False)
  rwa [List.take_length] at this

/-! ### the power -/
theorem mets_app (l : List Int) : ∀ (A : List Sec) (X : List Plc) (k : Nat), Disk.mets l k (A.map settled ++ X) = A.map settled ++ Disk.mets l k X
  | [], _, _ => rfl
  | a :: A, X, k => by
    simp only [List.map_cons, List.cons_append, Disk.mets]
    have e1 : Disk.met1 l k (settled a) = settled a := rfl
    have e2 : Disk.count1 k (settled a) = k := rfl
    rw [e1, e2, mets_app l A X k]
theorem end_ge : ∀ (m : Nat) (l : List Plc), l.length = m → ∀ i p, l[i]? = some p → p.safe.isSome = true → i < Disk.endOf l
  | 0, l, hm, i, p, h, _ => by have := List.eq_nil_of_length_eq_zero hm; subst this; simp at h
  | m + 1, l, hm, i, p, h, hs => by
    rcases List.eq_nil_or_concat l with rfl | ⟨r, x, rfl⟩
    · simp at h
    · rw [List.concat_eq_append] at h hm ⊢
      have hr : r.length = m := by simpa using hm
      rw [Disk.endOf_snoc]
      by_cases hi : i < r.length
      · rw [List.getElem?_append_left hi] at h
        have := end_ge m r hr i p h hs
        split
        · omega
        · exact this
      · have hi2 : i = r.length := by
          have := (List.getElem?_eq_some_iff.1 h).1
          simp at this
          omega
        subst hi2
        rw [List.getElem?_append_right (Nat.le_refl _), Nat.sub_self] at h
        have : x = p := by simpa using h
        subst this
        rw [if_pos hs]; omega
/-- What the fates leave of new sectors, risen. -/
theorem left_mets (l : List Int) : ∀ (B : List (List UInt8)) (k m : Nat), Left B (((Disk.mets l k (B.map fresh)).take m).map fun p => p.rise.now)
  | [], k, m => by simp [Disk.mets]; exact Left.nil
  | b :: B, k, 0 => Left.nil
  | b :: B, k, m + 1 => by
    simp only [List.map_cons, Disk.mets, List.take_succ_cons]
    have e2 : Disk.count1 k (fresh b) = k + 1 := rfl
    rw [e2]
    have ih := left_mets l B (k + 1) m
    unfold Disk.met1 Disk.Plc.meet
    have e3 : (fresh b).waits = true := rfl
    rw [if_pos e3]
    split
    · exact Left.kept ih
    · split
      · exact Left.torn ih
      · exact Left.lost ih
theorem rise_settled (p : Plc) : p.rise = settled p.rise.now := rfl
theorem woken_left {F : Fil} {A : List Sec} {B : List (List UInt8)} (h : F.ps = A.map settled ++ B.map fresh) (l : List Int) (k : Nat) : ∃ C, Left B C ∧ (F.woken l k).ps = (A ++ C).map settled := by
  have hm : Disk.mets l k F.ps = A.map settled ++ Disk.mets l k (B.map fresh) := by rw [h, mets_app]
  have hge : A.length ≤ Disk.endOf (Disk.mets l k F.ps) := by
    rcases Nat.eq_zero_or_pos A.length with h0 | h0
    · omega
    · have := end_ge _ (Disk.mets l k F.ps) rfl (A.length - 1) (settled A[A.length - 1]) (by
        rw [hm, List.getElem?_append_left (by rw [List.length_map]; omega), List.getElem?_map, List.getElem?_eq_getElem (by omega)]; rfl) rfl
      omega
  refine ⟨_, left_mets l B k (Disk.endOf (Disk.mets l k F.ps) - A.length), ?_⟩
  unfold Disk.Fil.woken
  simp only
  rw [hm] at hge ⊢
  rw [List.take_append, List.length_map, List.take_of_length_le (by rw [List.length_map]; exact hge), List.map_append, List.map_append]
  congr 1
  · rw [List.map_map]; exact List.map_congr_left fun a _ => rfl
  · rw [List.map_map]; exact List.map_congr_left fun p _ => rise_settled p
theorem met_keeps (l : List Int) (q : Nat) (p : Plc) (h : p.waits = false) : Disk.met1 l q p = p := by unfold Disk.met1; rw [h]; rfl
theorem met_some (l : List Int) (q : Nat) (p : Plc) (h : p.safe.isSome = true) : (Disk.met1 l q p).safe.isSome = true := by
  unfold Disk.met1 Disk.Plc.meet
  repeat' split
  all_goals first | rfl | exact h
theorem mets_get (l : List Int) : ∀ (ps : List Plc) (k i : Nat) {p : Plc}, ps[i]? = some p → ∃ q, (Disk.mets l k ps)[i]? = some (Disk.met1 l q p)
  | [], _, _, _, h => by simp at h
  | x :: r, k, 0, p, h => by
    have : x = p := by simpa using h
    subst this
    exact ⟨k, rfl⟩
  | x :: r, k, i + 1, p, h => by
    obtain ⟨q, hq⟩ := mets_get l r (Disk.count1 k x) i (by simpa using h)
    exact ⟨q, hq⟩
theorem woken_get {F : Fil} (l : List Int) (k : Nat) {n : Nat} {p : Plc} (h : F.ps[n]? = some p) (hs : p.safe.isSome = true) : ∃ q, (F.woken l k).ps[n]? = some (Disk.met1 l q p).rise := by
  obtain ⟨q, hq⟩ := mets_get l F.ps k n h
  refine ⟨q, ?_⟩
  have hlt := end_ge _ _ rfl n _ hq (met_some l q p hs)
  unfold Disk.Fil.woken
  simp only
  rw [List.getElem?_map, List.getElem?_take_of_lt hlt, hq]
  rfl
theorem DatF.woken {P : Nat} {L : Nat → Prop} {F : Fil} (h : DatF True P L F) (l : List Int) (k : Nat) : DatF True P L (F.woken l k) := by
  have hat : ∀ n, n < P → ∃ p, (F.woken l k).ps[n]? = some p ∧ p.safe.isSome = true ∧ (¬ L n → p.now = some (orig n) ∧ p.safe = some (some (orig n)) ∧ p.waits = false) := by
    intro n hn
    obtain ⟨p, h1, h2, h3⟩ := h.at_ n hn
    obtain ⟨q, hq⟩ := woken_get l k h1 (h2 trivial)
    refine ⟨_, hq, rfl, fun hL => ?_⟩
    obtain ⟨e1, e2⟩ := h3 hL
    obtain ⟨e3, e4⟩ := e2 trivial
    rw [met_keeps l q p e4]
    unfold Disk.Plc.rise
    rw [e3]
    exact ⟨rfl, rfl, rfl⟩
  refine ⟨?_, fun _ => Or.inr rfl, fun n hn => ?_⟩
  · rcases Nat.eq_zero_or_pos P with h0 | h0
    · omega
    · obtain ⟨p, hp, _⟩ := hat (P - 1) (by omega)
      have := (List.getElem?_eq_some_iff.1 hp).1
      omega
  · obtain ⟨p, h1, h2, h3⟩ := hat n hn
    exact ⟨p, h1, fun _ => h2, fun hL => ⟨(h3 hL).1, fun _ => (h3 hL).2⟩⟩
theorem woken_le (F : Fil) (l : List Int) (k : Nat) : (F.woken l k).ps.length ≤ F.ps.length := by
  unfold Disk.Fil.woken
  simp only [List.length_map, List.length_take, Disk.mets_len]
  omega
theorem DatI.wk {P : Nat} {L : Nat → Prop} {D : Option Fil} (h : DatI True P L D) (l : List Int) (k : Nat) : DatI True P L (wk l k D) := by
  cases D with
  | none => exact h
  | some F =>
    unfold Jo.wk
    simp only
    split
    · exact DatF.woken h l k
    · rename_i hl
      rcases (h : DatF True P L F).sure trivial with h0 | h0
      · exact h0
      · exact absurd (by unfold Disk.Fil.lives; rw [h0]; rfl) hl
theorem Good.wk {P : Nat} {f : Fnd} {D : Option Fil} (h : Good True P f D) (l : List Int) (k : Nat) : Good True P f (wk l k D) := by
  refine ⟨h.ok, h.dat.wk l k, fun h0 F hF => ?_⟩
  cases D with
  | none => cases hF
  | some G =>
    have hd := h.dat.wk l k
    rw [hF] at hd
    unfold Jo.wk at hF
    simp only at hF
    split at hF
    · cases hF
      have h1 := (hd : DatF True P _ _).len
      have h2 := woken_le G l k
      have h3 := h.exact_ h0 G rfl
      omega
    · cases hF
theorem CutI.wake {P : Nat} {D J : Option Fil} (h : CutI P D J) (l : List Int) (k k' : Nat) : Sta True P (wk l k D) (wk l k' J) := by
  obtain ⟨A, B, e, hg⟩ := h
  have hno : ∀ J', psO J' = [] → A = [] → Sta True P (Jo.wk l k D) J' := by
    intro J' h0 hA
    refine ⟨?_, fun _ => ⟨[], by simp [h0]⟩⟩
    have := (hg 0 (Nat.zero_le _)).wk l k
    rw [hA] at this
    simpa [nows, h0] using this
  cases J with
  | none =>
    have hA : A = [] := by
      have := congrArg List.length e
      simp [psO] at this
      exact List.eq_nil_of_length_eq_zero (by omega)
    exact hno none rfl hA
  | some F =>
    have eF : F.ps = A.map settled ++ B.map fresh := e
    obtain ⟨C, hC, hps⟩ := woken_left eF l k'
    have ew : Jo.wk l k' (some F) = if F.lives l k' then some (F.woken l k') else none := rfl
    rw [ew]
    split
    · refine ⟨?_, fun _ => ⟨A ++ C, hps⟩⟩
      have en : nows (some (F.woken l k')) = A ++ C := by
        unfold nows
        show (F.woken l k').ps.map _ = _
        rw [hps, List.map_map]
        exact List.map_id _
      rw [en]
      obtain ⟨q, hq, eq⟩ := scan_behind hC A f0
      rw [eq]
      exact (hg q hq).wk l k
    · rename_i hl
      refine hno none rfl ?_
      cases hA : A with
      | nil => rfl
      | cons a A' =>
        exfalso
        refine hl ?_
        have := end_ge _ (Disk.mets l k' F.ps) rfl 0 (settled a) (by rw [eF, mets_app, hA]; rfl) rfl
        unfold Disk.Fil.lives
        simp
        exact Or.inr (by omega)

end Jo
end Go.Proofs.YtgmbiiocjhkpdaaGreat
