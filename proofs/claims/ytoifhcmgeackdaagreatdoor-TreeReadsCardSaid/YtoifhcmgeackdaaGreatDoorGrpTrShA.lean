/-
  Put together: ShelfMath, ShelfPages, ShelfTrunk, ShelfPutT, ShelfHead, ShelfTake.
-/
import Derived.Test.YtoifhcmgeackdaaGreatDoorGrpTrSpB
import Derived.Test.YtoifhcmgeackdaaGreatDoorShelfShelf
import Derived.Test.YtoifhcmgeackdaaGreatDoorGrpTrSpC
import Derived.Maps.OwnSet
import Derived.Maps.StringElems
import Derived.Handy
/-
  Plain mathematics of layer 10 (shelf): pages by their numbers, Take and Give over them, what stays. No program in sight.
-/
namespace Go.Proofs.YtoifhcmgeackdaaGreatDoor
namespace Sh
open Sp (Hd hd0 Tr noT okT okT_iff pageT decT dec_page dec_ok page_len badT takeNew takeTrunk zeros zeros_len last_split)
open Num (hid)
open Mem (Bs bs)
/-- Pages by their numbers, and how often they were written. -/
structure St where
  f : Int → Option Bs
  n : Nat
def St.set (S : St) (k : Int) (d : Bs) : St := ⟨fun j => if j = k then some d else S.f j, S.n + 1⟩
theorem set_same (S : St) (k : Int) (d : Bs) : (S.set k d).f k = some d := if_pos rfl
theorem set_other {S : St} {k j : Int} (h : j ≠ k) (d : Bs) : (S.set k d).f j = S.f j := if_neg h
theorem ne_in {x n : Int} {U : List Int} (hx : x ∈ U) (hn : n ∉ U) : x ≠ n := fun e => hn (e ▸ hx)
def St.get (S : St) (n : Int) : (Bs × Int) × St := match S.f n with | some x => ((x, 0), S) | none => (([], 21), S)
def St.put (S : St) (n : Int) (d : Bs) : Int × St := match S.f n with | some _ => if d.length ≠ 232 then (1, S) else (0, S.set n d) | none => (21, S)
theorem get_no {S : St} {n : Int} (h : S.f n = none) : S.get n = (([], 21), S) := by unfold St.get; rw [h]
theorem get_yes {S : St} {n : Int} {x : Bs} (h : S.f n = some x) : S.get n = ((x, 0), S) := by unfold St.get; rw [h]
theorem get_st (S : St) (n : Int) : (S.get n).2 = S := by unfold St.get; split <;> rfl
theorem put_no {S : St} {n : Int} {x : Bs} (h : S.f n = none) : S.put n x = (21, S) := by unfold St.put; rw [h]
theorem put_bad {S : St} {n : Int} {x y : Bs} (h : S.f n = some y) (h2 : x.length ≠ 232) : S.put n x = (1, S) := by unfold St.put; rw [h]; exact if_pos h2
theorem put_yes {S : St} {n : Int} {x y : Bs} (h : S.f n = some y) (h2 : x.length = 232) : S.put n x = (0, S.set n x) := by unfold St.put; rw [h]; exact if_neg (fun e => e h2)
def trunkAt (S : St) (n : Int) : (Tr × Int) × St := if (S.get n).1.2 ≠ 0 then ((noT, (S.get n).1.2), (S.get n).2) else if (decT (S.get n).1.1).2 ≠ 0 then ((noT, 30), (S.get n).2) else (((decT (S.get n).1.1).1, 0), (S.get n).2)
def putTrunk (S : St) (n : Int) (t : Tr) : Int × St := if okT t then S.put n (pageT t) else (1, S)
def takeOf (h : Hd) (r : (Tr × Int) × St) : (Int × Hd × Int) × St :=
  if r.1.2 ≠ 0 then ((0, hd0, r.1.2), r.2) else if badT h r.1.1 then ((0, hd0, 30), r.2) else if r.1.1.list.length = 0 then (takeTrunk h r.1.1.next, r.2) else
  if (putTrunk r.2 h.trunk ⟨r.1.1.next, r.1.1.list.dropLast⟩).1 ≠ 0 then ((0, hd0, (putTrunk r.2 h.trunk ⟨r.1.1.next, r.1.1.list.dropLast⟩).1), (putTrunk r.2 h.trunk ⟨r.1.1.next, r.1.1.list.dropLast⟩).2)
  else ((r.1.1.list.getLastD 0, { h with spare := h.spare - 1 }, 0), (putTrunk r.2 h.trunk ⟨r.1.1.next, r.1.1.list.dropLast⟩).2)
def takeM (h : Hd) (S : St) : (Int × Hd × Int) × St := if h.spare = 0 then (takeNew h, S) else takeOf h (trunkAt S h.trunk)
def trunkFor (h : Hd) (S : St) (n : Int) : (Int × Tr × Int) × St :=
  if h.trunk = 0 then ((n, ⟨0, []⟩, 0), S) else
  if (trunkAt S h.trunk).1.2 ≠ 0 then ((0, noT, (trunkAt S h.trunk).1.2), (trunkAt S h.trunk).2) else
  if (trunkAt S h.trunk).1.1.list.length < 50 then ((h.trunk, ⟨(trunkAt S h.trunk).1.1.next, (trunkAt S h.trunk).1.1.list ++ [n]⟩, 0), (trunkAt S h.trunk).2)
  else ((n, ⟨h.trunk, []⟩, 0), (trunkAt S h.trunk).2)
def giveOf (h : Hd) (r : (Int × Tr × Int) × St) : (Hd × Int) × St :=
  if r.1.2.2 ≠ 0 then ((hd0, r.1.2.2), r.2) else
  if (putTrunk r.2 r.1.1 r.1.2.1).1 ≠ 0 then ((hd0, (putTrunk r.2 r.1.1 r.1.2.1).1), (putTrunk r.2 r.1.1 r.1.2.1).2) else (({ h with trunk := r.1.1, spare := h.spare + 1 }, 0), (putTrunk r.2 r.1.1 r.1.2.1).2)
def giveM (h : Hd) (S : St) (n : Int) : (Hd × Int) × St :=
  if n < 1 ∨ h.pages ≤ n then ((hd0, 1), S) else if h.pages - 1 ≤ h.spare then ((hd0, 30), S) else giveOf h (trunkFor h S n)
/-- What a head's numbers keep to, whatever stands on the pages. -/
def Fit (h : Hd) : Prop := 1 ≤ h.pages ∧ h.pages ≤ 4096 ∧ (0 ≤ h.trunk ∧ h.trunk < h.pages) ∧ (0 ≤ h.spare ∧ h.spare ≤ h.pages)
/-- There are just the pages of the head. -/
def Dom (h : Hd) (S : St) : Prop := ∀ x, (∃ d, S.f x = some d) ↔ (1 ≤ x ∧ x < h.pages)
theorem Dom.yes {h : Hd} {S : St} (k : Dom h S) {x : Int} (h1 : 1 ≤ x) (h2 : x < h.pages) : ∃ d, S.f x = some d := (k x).2 ⟨h1, h2⟩
theorem Dom.no {h : Hd} {S : St} (k : Dom h S) {x : Int} (h1 : x < 1 ∨ h.pages ≤ x) : S.f x = none := by
  cases e : S.f x with
  | none => rfl
  | some d =>
    have := (k x).1 ⟨d, e⟩
    omega
theorem Dom.of {h h' : Hd} {S S' : St} (k : Dom h S) (hp : h'.pages = h.pages) (hs : ∀ x, (∃ d, S'.f x = some d) ↔ (∃ d, S.f x = some d)) : Dom h' S' := fun x => by rw [hs x, hp]; exact k x
theorem set_dom {S : St} {k : Int} {e d : Bs} (h : S.f k = some e) (x : Int) : (∃ c, (S.set k d).f x = some c) ↔ (∃ c, S.f x = some c) := by
  by_cases hx : x = k
  · subst hx
    exact ⟨fun _ => ⟨e, h⟩, fun _ => ⟨d, set_same _ _ _⟩⟩
  · rw [set_other hx]
/-- A page more. -/
theorem Dom.new {h : Hd} {S : St} (k : Dom h S) (hp : 1 ≤ h.pages) (d : Bs) : Dom { h with pages := h.pages + 1 } (S.set h.pages d) := by
  intro x
  show _ ↔ 1 ≤ x ∧ x < h.pages + 1
  by_cases hx : x = h.pages
  · subst hx
    exact ⟨fun _ => ⟨hp, by omega⟩, fun _ => ⟨d, set_same _ _ _⟩⟩
  · rw [set_other hx, k x]
    omega
theorem Dom.set {h : Hd} {S : St} (k : Dom h S) {x : Int} (h1 : 1 ≤ x) (h2 : x < h.pages) (d : Bs) : Dom h (S.set x d) := by
  obtain ⟨e, he⟩ := k.yes h1 h2
  exact k.of rfl (set_dom he)
/-! ### the pages that a chain of trunks has -/
inductive Free (S : St) : Int → List Int → Prop
  | none : Free S 0 []
  | trunk {t : Int} {T : Tr} {F : List Int} : t ≠ 0 → okT T = true → S.f t = some (pageT T) → Free S T.next F → Free S t (T.list.reverse ++ t :: F)
theorem Free.head {S : St} {t : Int} {F : List Int} (h : Free S t F) : (t = 0 ∧ F = []) ∨ (t ≠ 0 ∧ t ∈ F ∧ 0 < F.length) := by
  cases h with
  | none => exact Or.inl ⟨rfl, rfl⟩
  | trunk h1 _ _ _ => exact Or.inr ⟨h1, by simp, by simp; omega⟩
theorem Free.same {S S' : St} {t : Int} {F : List Int} (h : Free S t F) : (∀ x ∈ F, S'.f x = S.f x) → Free S' t F := by
  induction h with
  | none => exact fun _ => Free.none
  | trunk h1 h2 h3 _ ih =>
    rename_i t T F _
    intro hs
    exact Free.trunk h1 h2 ((hs t (by simp)).trans h3) (ih (fun x hx => hs x (by simp [hx])))
theorem Free.put {S : St} {n : Int} {d : Bs} {t : Int} {F : List Int} (h : Free S t F) (hn : n ∉ F) : Free (S.set n d) t F :=
  h.same (fun _ hx => set_other (ne_in hx hn) d)
structure Inv (h : Hd) (S : St) (U F : List Int) : Prop where
  fr : Free S h.trunk F
  sp : h.spare = F.length
  pg : h.pages = 1 + U.length + F.length
  nd : (U ++ F).Nodup
  rg : ∀ x ∈ U ++ F, 1 ≤ x ∧ x < h.pages
  dom : Dom h S
variable {h : Hd} {S : St} {U F : List Int}
theorem Inv.fit (k : Inv h S U F) (hp : h.pages ≤ 4096) : Fit h := by
  have h1 := k.sp
  have h2 := k.pg
  unfold Fit
  refine ⟨by omega, hp, ?_, by omega⟩
  rcases k.fr.head with ⟨h4, _⟩ | ⟨_, h4, _⟩
  · omega
  · have := k.rg _ (List.mem_append_right U h4)
    omega
theorem Inv.apart (k : Inv h S U F) {x : Int} (hx : x ∈ U) : x ∉ F := fun e => by
  have hnd := k.nd
  rw [List.nodup_append] at hnd
  exact hnd.2.2 _ hx _ e rfl
/-- A page in use is written. -/
theorem Inv.put (k : Inv h S U F) {x : Int} (hx : x ∈ U) (d : Bs) : Inv h (S.set x d) U F := by
  have hr := k.rg x (List.mem_append_left F hx)
  exact ⟨k.fr.put (k.apart hx), k.sp, k.pg, k.nd, k.rg, k.dom.set hr.1 hr.2 d⟩
theorem tat_free {t : Int} (hf : Free S t F) (ht : t ≠ 0) : ∃ T F0, okT T = true ∧ F = T.list.reverse ++ t :: F0 ∧ Free S T.next F0 ∧ S.f t = some (pageT T) ∧ trunkAt S t = ((T, 0), S) := by
  cases hf with
  | none => exact absurd rfl ht
  | trunk h1 h2 h3 h4 =>
    rename_i T F0
    refine ⟨T, F0, h2, rfl, h4, h3, ?_⟩
    unfold trunkAt
    rw [get_yes h3]
    simp only [dec_page h2]
    rfl
theorem ptr_free {n : Int} {T : Tr} {e : Bs} (ho : okT T = true) (he : S.f n = some e) : putTrunk S n T = (0, S.set n (pageT T)) := by
  unfold putTrunk
  rw [if_pos ho, put_yes he (page_len ho)]
theorem nodup_snoc {x : Int} (h : (U ++ x :: F).Nodup) : ((U ++ [x]) ++ F).Nodup := by
  rw [List.append_assoc]
  exact h
theorem not_bad {T : Tr} (h1 : T.next < h.pages) (h2 : ∀ x ∈ T.list, x < h.pages) : ¬ badT h T = true := by
  unfold badT
  intro e
  simp only [Bool.or_eq_true, decide_eq_true_eq, Bool.and_eq_true] at e
  rcases e with e | ⟨e1, e2⟩
  · omega
  · have := h2 _ (last_split (L := T.list) (by omega)).2
    omega
/-- New: Take, and the page is written. -/
theorem inv_take (k : Inv h S U F) (hp2 : F.length = 0 → h.pages ≤ 4095) (z : Bs) :
    ∃ n h' S' F', takeM h S = ((n, h', 0), S') ∧ S'.n ≤ S.n + 1 ∧ (∀ x, x ∈ U → (S'.set n z).f x = S.f x) ∧ n ∉ U ∧ 1 ≤ n ∧ n < h'.pages ∧ Inv h' (S'.set n z) (U ++ [n]) F' ∧ F'.length = F.length - 1 ∧ h'.pages = h.pages + (if F.length = 0 then 1 else 0) := by
  have h1 := k.sp
  have h2 := k.pg
  rcases k.fr.head with ⟨ht, hF⟩ | ⟨ht, hm, hlen⟩
  · subst hF
    have hs : h.spare = 0 := by rw [h1]; rfl
    have hpg := hp2 rfl
    have hnU : h.pages ∉ U := fun e => by
      have := (k.rg _ (List.mem_append_left [] e)).2
      omega
    refine ⟨h.pages, { h with pages := h.pages + 1 }, S, [], ?_, Nat.le_succ _, fun x hx => set_other (ne_in hx hnU) _, hnU, by omega, by show h.pages < h.pages + 1; omega, ?_, rfl, rfl⟩
    · unfold takeM takeNew
      rw [if_pos hs, if_neg (by omega)]
    · refine ⟨k.fr.put (by simp), hs, ?_, ?_, ?_, k.dom.new (by omega) z⟩
      · show h.pages + 1 = _
        simp at h2 ⊢
        omega
      · rw [List.append_nil]
        have hnd := k.nd
        rw [List.append_nil] at hnd
        rw [List.nodup_append]
        refine ⟨hnd, by simp, fun a ha b hb => ?_⟩
        have := (k.rg a (List.mem_append_left [] ha)).2
        simp at hb
        omega
      · intro x hx
        rw [List.append_nil] at hx
        show 1 ≤ x ∧ x < h.pages + 1
        rcases List.mem_append.1 hx with hx | hx
        · have := k.rg x (List.mem_append_left [] hx); omega
        · simp at hx; omega
  · have hs : ¬ h.spare = 0 := by omega
    obtain ⟨T, F0, ho, hF, hf0, hg, hta⟩ := tat_free k.fr ht
    have hFl : F.length = T.list.length + 1 + F0.length := by rw [hF]; simp; omega
    have htr := k.rg _ (List.mem_append_right U hm)
    have hnext : T.next < h.pages := by
      rcases hf0.head with ⟨e, _⟩ | ⟨_, e, _⟩
      · omega
      · exact (k.rg _ (List.mem_append_right U (by rw [hF]; simp [e]))).2
    have hlist : ∀ x ∈ T.list, x < h.pages := fun x hx => (k.rg _ (List.mem_append_right U (by rw [hF]; simp [hx]))).2
    have hbad := not_bad hnext hlist
    have hndF : (h.trunk :: F0).Nodup := by
      have hnd := k.nd
      rw [hF, List.nodup_append] at hnd
      have := hnd.2.1
      rw [List.nodup_append] at this
      exact this.2.1
    by_cases hz : T.list.length = 0
    · have hnil : T.list = [] := List.length_eq_zero_iff.1 hz
      rw [hnil] at hF
      simp at hF
      have hdec : decide (h.spare - 1 = 0) = decide (T.next = 0) := by
        rcases hf0.head with ⟨e, e2⟩ | ⟨e, _, e2⟩
        · rw [decide_eq_true (by rw [e2] at hFl; simp at hFl; omega), decide_eq_true e]
        · rw [decide_eq_false (by omega), decide_eq_false e]
      have hnU : h.trunk ∉ U := fun e => k.apart e hm
      refine ⟨h.trunk, { h with trunk := T.next, spare := h.spare - 1 }, S, F0, ?_, Nat.le_succ _, fun x hx => set_other (ne_in hx hnU) _, hnU, htr.1, htr.2, ?_, by omega, ?_⟩
      · unfold takeM takeOf
        rw [if_neg hs, hta, if_neg (fun e => e rfl), if_neg (by simpa using hbad), if_pos hz]
        unfold takeTrunk
        simp only
        rw [if_neg (by simpa using hdec)]
      · refine ⟨hf0.put (List.nodup_cons.1 hndF).1, by show h.spare - 1 = _; omega, ?_, ?_, ?_, (k.dom.set htr.1 htr.2 z).of rfl (fun _ => Iff.rfl)⟩
        · show h.pages = _
          rw [List.length_append, List.length_singleton]
          omega
        · have hnd := k.nd
          rw [hF] at hnd
          exact nodup_snoc hnd
        · intro x hx
          refine k.rg x ?_
          rw [hF]
          rw [List.append_assoc] at hx
          exact hx
      · rw [if_neg (by omega)]; show h.pages = _; omega
    · obtain ⟨hsp, hmem⟩ := last_split hz
      have hokL := (okT_iff T).1 ho
      have ho2 : okT ⟨T.next, T.list.dropLast⟩ = true := by
        rw [okT_iff]
        refine ⟨hokL.1, ?_, fun x hx => hokL.2.2 x (List.dropLast_subset _ hx)⟩
        rw [List.length_dropLast]
        have := hokL.2.1
        omega
      have hF2 : F = T.list.getLastD 0 :: (T.list.dropLast.reverse ++ h.trunk :: F0) := by
        rw [hF]
        conv => lhs; rw [hsp]
        simp
      have hput := ptr_free (S := S) (n := h.trunk) ho2 hg
      have hnF : T.list.getLastD 0 ∈ F := by rw [hF2]; simp
      have hnU : T.list.getLastD 0 ∉ U := fun e => k.apart e hnF
      have htU : h.trunk ∉ U := fun e => k.apart e hm
      have hnr := k.rg _ (List.mem_append_right U hnF)
      have hndG : (T.list.getLastD 0 :: (T.list.dropLast.reverse ++ h.trunk :: F0)).Nodup := by
        have hnd := k.nd
        rw [hF2, List.nodup_append] at hnd
        exact hnd.2.1
      refine ⟨T.list.getLastD 0, { h with spare := h.spare - 1 }, S.set h.trunk (pageT ⟨T.next, T.list.dropLast⟩), T.list.dropLast.reverse ++ h.trunk :: F0, ?_, Nat.le_refl _, fun x hx => ?_, hnU, hnr.1, hnr.2, ?_, ?_, ?_⟩
      · unfold takeM takeOf
        rw [if_neg hs, hta, if_neg (fun e => e rfl), if_neg (by simpa using hbad), if_neg hz]
        simp only [hput]
        rfl
      · rw [set_other (ne_in hx hnU), set_other (ne_in hx htU)]
      · have hnd := k.nd
        refine ⟨?_, ?_, ?_, ?_, ?_, ?_⟩
        · refine Free.put ?_ (List.nodup_cons.1 hndG).1
          exact Free.trunk (T := ⟨T.next, T.list.dropLast⟩) ht ho2 (set_same _ _ _) (hf0.put (List.nodup_cons.1 hndF).1)
        · show h.spare - 1 = _
          rw [hF2] at h1
          simp at h1 ⊢
          omega
        · show h.pages = _
          rw [hF2] at h2
          simp at h2 ⊢
          omega
        · rw [hF2] at hnd
          exact nodup_snoc hnd
        · intro x hx
          refine k.rg x ?_
          rw [hF2]
          rw [List.append_assoc] at hx
          exact hx
        · exact ((k.dom.set htr.1 htr.2 _).set hnr.1 hnr.2 z).of rfl (fun _ => Iff.rfl)
      · rw [hF2]; simp
      · rw [if_neg (by omega)]; show h.pages = _; omega
/-- Give of a page that is used. -/
theorem inv_give (k : Inv h S U F) (hp : h.pages ≤ 4096) {i : Nat} (hi : i < U.length) :
    ∃ h' S', giveM h S U[i] = ((h', 0), S') ∧ S'.n ≤ S.n + 1 ∧ (∀ x, x ∈ U.take i ++ U.drop (i + 1) → S'.f x = S.f x) ∧ Inv h' S' (U.take i ++ U.drop (i + 1)) (U[i] :: F) ∧ h'.pages = h.pages := by
  have h1 := k.sp
  have h2 := k.pg
  have hU : U = U.take i ++ U[i] :: U.drop (i + 1) := by simp
  have hn := k.rg U[i] (List.mem_append_left F (List.getElem_mem hi))
  have hnF : U[i] ∉ F := k.apart (List.getElem_mem hi)
  have hnd2 : ((U.take i ++ U.drop (i + 1)) ++ (U[i] :: F)).Nodup := by
    have hnd := k.nd
    have hperm : (U ++ F).Perm ((U.take i ++ U.drop (i + 1)) ++ (U[i] :: F)) := by
      have e1 : U ++ F = U.take i ++ U[i] :: (U.drop (i + 1) ++ F) := by
        rw [← List.cons_append, ← List.append_assoc, ← hU]
      rw [e1]
      refine List.perm_middle.trans ?_
      rw [← List.append_assoc]
      exact List.perm_middle.symm
    exact hperm.nodup hnd
  have hrg : ∀ x ∈ (U.take i ++ U.drop (i + 1)) ++ (U[i] :: F), 1 ≤ x ∧ x < h.pages := by
    intro x hx
    refine k.rg x ?_
    rcases List.mem_append.1 hx with hx | hx
    · refine List.mem_append_left F ?_
      rcases List.mem_append.1 hx with hx | hx
      · exact List.mem_of_mem_take hx
      · exact List.mem_of_mem_drop hx
    · rcases List.mem_cons.1 hx with rfl | hx
      · exact List.mem_append_left F (List.getElem_mem hi)
      · exact List.mem_append_right U hx
  have hlenU : (U.take i ++ U.drop (i + 1)).length + 1 = U.length := by
    rw [List.length_append, List.length_take, List.length_drop]
    omega
  have hout : ∀ x, x ∈ U.take i ++ U.drop (i + 1) → x ∉ U[i] :: F := fun x hx e => by
    have := hnd2
    rw [List.nodup_append] at this
    exact this.2.2 _ hx _ e rfl
  generalize hx : U[i] = n at *
  have key : ∀ (a : Int) (T : Tr), okT T = true → trunkFor h S n = ((a, T, 0), S) → a ∈ n :: F → Free (S.set a (pageT T)) a (n :: F) →
      ∃ h' S', giveM h S n = ((h', 0), S') ∧ S'.n ≤ S.n + 1 ∧ (∀ x, x ∈ U.take i ++ U.drop (i + 1) → S'.f x = S.f x) ∧ Inv h' S' (U.take i ++ U.drop (i + 1)) (n :: F) ∧ h'.pages = h.pages := by
    intro a T ho htf ha hfree
    have har := hrg a (List.mem_append_right _ ha)
    obtain ⟨e, he⟩ := k.dom.yes har.1 har.2
    refine ⟨{ h with trunk := a, spare := h.spare + 1 }, S.set a (pageT T), ?_, Nat.le_refl _, fun x hx => set_other (fun e => hout x hx (by rw [e]; exact ha)) _, ?_, rfl⟩
    · unfold giveM giveOf
      rw [if_neg (by omega), if_neg (by omega), htf]
      simp only [ptr_free (S := S) (n := a) ho he]
      rfl
    · refine ⟨hfree, ?_, ?_, hnd2, hrg, (k.dom.set har.1 har.2 _).of rfl (fun _ => Iff.rfl)⟩
      · show h.spare + 1 = _
        simp
        omega
      · show h.pages = _
        simp only [List.length_cons]
        omega
  rcases k.fr.head with ⟨ht, hF⟩ | ⟨ht, hm, hlen⟩
  · subst hF
    have ho : okT ⟨h.trunk, []⟩ = true := by rw [ht]; rfl
    refine key n ⟨h.trunk, []⟩ ho ?_ (by simp) ?_
    · unfold trunkFor
      rw [if_pos ht, ht]
    · have := Free.trunk (S := S.set n (pageT ⟨h.trunk, []⟩)) (t := n) (T := ⟨h.trunk, []⟩) (F := []) (by omega) ho (set_same _ _ _) (by show Free _ h.trunk []; rw [ht]; exact Free.none)
      exact this
  · obtain ⟨T, F0, ho, hF, hf0, hg, hta⟩ := tat_free k.fr ht
    have hokL := (okT_iff T).1 ho
    have hndF : (h.trunk :: F0).Nodup := by
      have hnd := k.nd
      rw [hF, List.nodup_append] at hnd
      have := hnd.2.1
      rw [List.nodup_append] at this
      exact this.2.1
    by_cases h5 : T.list.length < 50
    · have ho2 : okT ⟨T.next, T.list ++ [n]⟩ = true := by
        rw [okT_iff]
        refine ⟨hokL.1, by simp; omega, fun x hx => ?_⟩
        rcases List.mem_append.1 hx with hx | hx
        · exact hokL.2.2 x hx
        · simp at hx; omega
      refine key h.trunk ⟨T.next, T.list ++ [n]⟩ ho2 ?_ (by simp [hm]) ?_
      · unfold trunkFor
        rw [if_neg ht, hta, if_neg (fun e => e rfl), if_pos h5]
      · have := Free.trunk (S := S.set h.trunk (pageT ⟨T.next, T.list ++ [n]⟩)) (t := h.trunk) (T := ⟨T.next, T.list ++ [n]⟩) (F := F0) ht ho2 (set_same _ _ _) (hf0.put (List.nodup_cons.1 hndF).1)
        rw [hF]
        simpa using this
    · have htr := k.rg _ (List.mem_append_right U hm)
      have ho2 : okT ⟨h.trunk, []⟩ = true := by
        rw [okT_iff]
        exact ⟨by show 0 ≤ h.trunk ∧ h.trunk < 4096; omega, by simp, fun x hx => by simp at hx⟩
      refine key n ⟨h.trunk, []⟩ ho2 ?_ (by simp) ?_
      · unfold trunkFor
        rw [if_neg ht, hta, if_neg (fun e => e rfl), if_neg h5]
      · exact Free.trunk (S := S.set n (pageT ⟨h.trunk, []⟩)) (t := n) (T := ⟨h.trunk, []⟩) (F := F) (by omega) ho2 (set_same _ _ _) (k.fr.put hnF)
theorem inv_new : Inv ⟨1, 1, 0, 0, 0, 0⟩ ⟨fun _ => none, 0⟩ [] [] := by
  refine ⟨Free.none, rfl, rfl, List.nodup_nil, fun x hx => by simp at hx, fun x => ?_⟩
  constructor
  · rintro ⟨d, hd⟩
    cases hd
  · intro hx
    show _
    have : (1 : Int) ≤ x ∧ x < 1 := hx
    omega
end Sh
end Go.Proofs.YtoifhcmgeackdaaGreatDoor

/-
  The shelf's pages in memory: a map of the call's own; has, Get, Put.
-/
namespace Go.Proofs.YtoifhcmgeackdaaGreatDoor
open Go.RowKit
namespace Sh
open Sp
open Num (hid)
open Mem (Bs bs IAt tI tS tIs tSs Chg Row ptr blk_cell blk_free blk_new blk_set blk_other blk_alloc row_kept row_shape row_type)
abbrev tMp : TypeId := 71
abbrev mpV (m : Nat) : Value := .map (some m)
abbrev dkV (d : Nat) : Value := .iface tMp (.map (some d))
theorem intKeyed : Maps.Keyed Tryz.prog tI := Maps.int_keyed Tryz.underlying3
theorem zeroStr (w : World) : (zeroValue tS).run Tryz.prog w = .ok (.string ⟨#[]⟩) w := Tryz.zeroValue9 w
/-- An int of the machine. -/
def Wf (n : Int) : Prop := (Lit.int .i64 n).wf = true
theorem wf_of {n : Int} (h1 : -9223372036854775808 ≤ n) (h2 : n ≤ 9223372036854775807) : Wf n := by
  show (decide (IntKind.i64.min ≤ n) && decide (n ≤ IntKind.i64.max)) = true
  rw [decide_eq_true (show IntKind.i64.min ≤ n from h1), decide_eq_true (show n ≤ IntKind.i64.max from h2)]
  rfl
structure Reads (D : DataW Unit) (S : St) : Prop where
  yes : ∀ k x, Wf k → S.f k = some x → Maps.has D (.int .i64 k) = true ∧ ∀ z, D.atKey (.int .i64 k) z = .lit (.string x)
  no : ∀ k, Wf k → S.f k = none → Maps.has D (.int .i64 k) = false
theorem Reads.set {D : DataW Unit} {S : St} (h : Reads D S) (hD : Maps.IsMap D) (k : Int) (x : Bs) : Reads (D.put (.int .i64 k) (.lit (.string x))) (S.set k x) := by
  have kk : WideAt.IsKeyLit (Lit.int .i64 k) := trivial
  have hne : ∀ j : Int, j ≠ k → (Lit.int .i64 j) ≠ Lit.int .i64 k := fun j hj e => hj (by injection e)
  refine ⟨fun j y hw hj => ?_, fun j hw hj => ?_⟩
  · by_cases hjk : j = k
    · subst hjk
      rw [set_same] at hj
      obtain rfl := Option.some.inj hj
      exact ⟨Maps.has_put_same hD kk _, fun z => Maps.atKey_put_same hD kk _ z⟩
    · rw [set_other hjk] at hj
      obtain ⟨h1, h2⟩ := h.yes j y hw hj
      exact ⟨(Maps.has_put_other (hne j hjk) _).trans h1, fun z => (Maps.atKey_put_other (hne j hjk) _ z).trans (h2 z)⟩
  · by_cases hjk : j = k
    · subst hjk
      rw [set_same] at hj
      cases hj
    · rw [set_other hjk] at hj
      exact (Maps.has_put_other (hne j hjk) _).trans (h.no j hw hj)
structure DeskR (R : Nat → Prop) (w : World) (d b : Nat) (S : St) : Prop where
  own : R d
  len : ∀ k x, S.f k = some x → x.length = 232
  map : ∃ D, w.ownsMap Tryz.prog tI (plainElem (H := Unit) Tryz.prog tS) d S.n D ∧ Reads D S
/-- Small enough. -/
def Small (k : Nat) (S : St) : Prop := S.n ≤ k
theorem Small.more {k k' : Nat} {S : St} (h : Small k S) (hk : k ≤ k') : Small k' S := Nat.le_trans h hk
variable {R : Nat → Prop} {w w' : World} {d b : Nat} {S : St}
theorem DeskR.lt (h : DeskR R w d b S) : d < w.heap.size := by
  obtain ⟨D, hm, -⟩ := h.map
  exact hm.lt
theorem DeskR.apart {F : Nat → Prop} (h : DeskR R w d b S) (hc : Chg F w w') (hF : ∀ k, F k → ¬ R k) : DeskR R w' d b S := by
  obtain ⟨D, ⟨es, clock, hb, r⟩, hr⟩ := h.map
  exact ⟨h.own, h.len, D, ⟨es, clock, hc.at hb (fun e => hF d e h.own), r⟩, hr⟩
theorem DeskR.on (h : DeskR R w d b S) (hb : Below w.heap.size w w') : DeskR R w' d b S := h.apart (F := fun _ => False) (Chg.of_below hb) (fun _ h => h.elim)
theorem DeskR.mono {R' : Nat → Prop} (h : DeskR R w d b S) (hR : ∀ g, g < w.heap.size → R g → R' g) : DeskR R' w d b S := ⟨hR d h.lt h.own, h.len, h.map⟩
theorem turned {m : Nat} (h : w.mapTurned w' m) : Chg (· = m) w w' := by
  obtain ⟨es, clock, es', clock', hb, rfl⟩ := h
  refine ⟨rfl, rfl, rfl, by simp [ChangeMaps.setBlock], fun k _ hk => ?_⟩
  simp only [ChangeMaps.setBlock, Array.getElem?_setIfInBounds]
  rw [if_neg (fun e => hk e.symm)]
/-- Whether a page is there. -/
theorem DeskR.look (h : DeskR R w d b S) {n : Int} (hn : Wf n) : ∃ s, (Instr.lookup tMp (.map (some d)) (.int .i64 n) true).run Tryz.prog w = .ok (.tuple #[.string s, .bool (S.f n).isSome]) w := by
  obtain ⟨D, hm, hr⟩ := h.map
  obtain ⟨v, ps, hrun, hv⟩ := hm.look_ok intKeyed Tryz.underlying71 (zeroStr w) (zd := .lit (.string [])) (zp := []) (plainElem_string Tryz.underlying9 (by decide)) (Maps.keyOf_int_mk Tryz.underlying3 hn)
  obtain ⟨s, rfl, -, -⟩ := plainElem_string_inv Tryz.underlying9 hv
  refine ⟨s, hrun.trans ?_⟩
  cases e : S.f n with
  | none => rw [hr.no n hn e]; rfl
  | some x => rw [(hr.yes n x hn e).1]; rfl
theorem DeskR.at (h : DeskR R w d b S) {n : Int} (hn : Wf n) {x : Bs} (hx : S.f n = some x) : (Instr.lookup tMp (.map (some d)) (.int .i64 n) false).run Tryz.prog w = .ok (.string (bs x)) w := by
  obtain ⟨D, hm, hr⟩ := h.map
  obtain ⟨v, ps, hrun, hv⟩ := hm.lookup intKeyed Tryz.underlying71 (zeroStr w) (zd := .lit (.string [])) (zp := []) (plainElem_string Tryz.underlying9 (by decide)) (Maps.keyOf_int_mk Tryz.underlying3 hn)
  rw [(hr.yes n x hn hx).2] at hv
  obtain ⟨s, rfl, e, -⟩ := plainElem_string_inv Tryz.underlying9 hv
  simp only [Prod.mk.injEq, DataW.lit.injEq, Lit.string.injEq] at e
  have : bs x = s := by
    rw [e.1]
    rfl
  rw [this]
  exact hrun
theorem DeskR.put (h : DeskR R w d b S) {c : Nat} (hS : Small c S) (hc : c ≤ 50000) {n : Int} (hn : Wf n) (x : Bs) (hx : x.length = 232) :
    ∃ w', (Instr.mapUpdate tMp (.map (some d)) (.int .i64 n) (.string (bs x))).run Tryz.prog w = .ok () w' ∧ DeskR R w' d b (S.set n x) ∧ Chg (· = d) w w' := by
  obtain ⟨D, hm, hr⟩ := h.map
  obtain ⟨w', hrun, ho, ht⟩ := hm.store intKeyed Tryz.underlying71 (by unfold Small at hS; unfold maxLen; omega) (Maps.keyOf_int_mk Tryz.underlying3 hn) (val := .string (bs x)) (plainElem_string Tryz.underlying9 (by rw [bs_size, hx]; decide))
  refine ⟨w', hrun, ⟨h.own, fun k y hy => ?_, _, ho, hr.set hm.isMap n x⟩, turned ht⟩
  by_cases hk : k = n
  · subst hk
    rw [set_same] at hy
    rw [← Option.some.inj hy]
    exact hx
  · rw [set_other hk] at hy
    exact h.len k y hy
theorem clone_any (s : ByteArray) (hs : s.size ≤ 232) (w : World) :
    Calls Tryz.prog 82 #[.string s] w fun e w' => e = .returned (.string s) ∧ Below w.heap.size w w' := by
  have HC := hid (fun w => AnyPu.stringslite_Clone Tryz.cloneL s w (by omega))
  clear hs
  go_enter Tryz.func82, Tryz.ntmps82
  go_wp2_with fail
  refine (HC.out _).mono ?_
  rintro e w3 ⟨rfl, hb⟩
  have HB := hid hb
  clear hb
  go_wp2
  go_ret
  exact ⟨rfl, HB.out⟩
set_option maxRecDepth 100000 in
set_option maxHeartbeats 1000000 in
theorem has_any (h : DeskR R w d b S) {n : Int} (hn : Wf n) :
    Calls Tryz.prog 50 #[mpV d, .int .i64 n] w fun e w' => e = .returned (.bool (S.f n).isSome) ∧ w = w' := by
  obtain ⟨s, hrun⟩ := h.look hn
  generalize (S.f n).isSome = y at *
  clear h hn
  go_enter Tryz.func50, Tryz.ntmps50
  go_wp2
  go_ret
  exact ⟨rfl, rfl⟩
set_option maxRecDepth 100000 in
set_option maxHeartbeats 1000000 in
theorem pget_any (h : DeskR R w d b S) {n : Int} (hn : Wf n) :
    Calls Tryz.prog 131 #[mpV d, .int .i64 n] w fun e w' => e = .returned (.tuple #[.string (bs (S.get n).1.1), .int .i64 (S.get n).1.2]) ∧ Below w.heap.size w w' := by
  have HH := hid (has_any h hn)
  cases e : S.f n with
  | none =>
    rw [get_no e]
    rw [e] at HH
    clear h hn e
    go_enter Tryz.func131, Tryz.ntmps131
    go_wp2_with fail
    refine HH.out.mono ?_
    rintro e w3 ⟨rfl, rfl⟩
    go_wp2
    go_ret2
    exact ⟨rfl, Below.refl _ _⟩
  | some x =>
    rw [get_yes e]
    have hat := h.at hn e
    have hlen := h.len n x e
    have HC := hid (fun w => clone_any (bs x) (by rw [bs_size, hlen]; omega) w)
    rw [e] at HH
    clear h hn e hlen
    go_enter Tryz.func131, Tryz.ntmps131
    go_wp2_with fail
    refine HH.out.mono ?_
    rintro e w3 ⟨rfl, rfl⟩
    go_wp2_with fail
    refine (HC.out _).mono ?_
    rintro e w4 ⟨rfl, hb⟩
    have HB := hid hb
    clear hb
    go_wp2
    go_ret2
    exact ⟨rfl, HB.out⟩
theorem dget_any (h : DeskR R w d b S) {c : Nat} (_hS : Small c S) (_hc : c ≤ 50000) (n : Int) (hn : Wf n) :
    Calls Tryz.prog 131 #[mpV d, .int .i64 n] w fun e w' => e = .returned (.tuple #[.string (bs (S.get n).1.1), .int .i64 (S.get n).1.2]) ∧ DeskR R w' d b (S.get n).2 ∧ Chg R w w' := by
  refine (pget_any h hn).mono ?_
  rintro e w' ⟨rfl, hb⟩
  rw [get_st]
  exact ⟨rfl, h.on hb, Chg.of_below hb⟩
set_option maxRecDepth 100000 in
set_option maxHeartbeats 1000000 in
theorem dput_any (h : DeskR R w d b S) {c : Nat} (hS : Small c S) (hc : c ≤ 50000) (n : Int) (hn : Wf n) (x : Bs) :
    Calls Tryz.prog 40 #[mpV d, .int .i64 n, .string (bs x)] w fun e w' => e = .returned (.int .i64 (S.put n x).1) ∧ DeskR R w' d b (S.put n x).2 ∧ Chg R w w' := by
  have HH := hid (has_any h hn)
  have hsz := bs_size x
  cases e : S.f n with
  | none =>
    rw [put_no e]
    rw [e] at HH
    have HD := hid h
    clear h hn e hS hc hsz
    go_enter Tryz.func40, Tryz.ntmps40
    go_wp2_with fail
    refine HH.out.mono ?_
    rintro e w3 ⟨rfl, rfl⟩
    go_wp2
    go_ret
    exact ⟨rfl, HD.out, Chg.refl _ _⟩
  | some y =>
    by_cases hl : x.length = 232
    · rw [put_yes e hl]
      rw [e] at HH
      have HC := hid (fun w => clone_any (bs x) (by rw [bs_size, hl]; omega) w)
      have HD := hid h
      have HP := hid (fun (w4 : World) (h4 : DeskR R w4 d b S) => h4.put hS hc hn x hl)
      have hne : (((bs x).size : Int) != 232) = false := by rw [hsz, hl]; rfl
      have hO := hid h.own
      generalize bs x = X at *
      clear h hn e hS hc hsz hl
      go_enter Tryz.func40, Tryz.ntmps40
      go_wp2_with fail
      refine HH.out.mono ?_
      rintro e w3 ⟨rfl, rfl⟩
      go_wp2_with fail
      refine (HC.out _).mono ?_
      rintro e w4 ⟨rfl, hb⟩
      obtain ⟨w5, hrun, hd5, hc5⟩ := HP.out w4 (HD.out.on hb)
      have HF : Hid (DeskR R w5 d b (S.set n x) ∧ Chg R w w5) := hid ⟨hd5, (Chg.of_below hb).then hc5 (fun k _ hk => Or.inr (by rw [hk]; exact hO.out))⟩
      clear hb hd5 hc5
      go_wp2
      go_ret
      exact ⟨rfl, HF.out.1, HF.out.2⟩
    · rw [put_bad e hl]
      rw [e] at HH
      have HD := hid h
      have hne : (((bs x).size : Int) != 232) = true := by rw [hsz]; simp; omega
      generalize bs x = X at *
      clear h hn e hS hc hsz hl
      go_enter Tryz.func40, Tryz.ntmps40
      go_wp2_with fail
      refine HH.out.mono ?_
      rintro e w3 ⟨rfl, rfl⟩
      go_wp2
      go_ret
      exact ⟨rfl, HD.out, Chg.refl _ _⟩
end Sh
end Go.Proofs.YtoifhcmgeackdaaGreatDoor

/-
  The shelf's pages: contract of the project's trunkAt.
-/
namespace Go.Proofs.YtoifhcmgeackdaaGreatDoor
open Go.RowKit
namespace Sh
open Sp
open Num (hid)
open Mem (Bs bs IAt tI tS tIs tSs Chg Row ptr blk_cell blk_free blk_new blk_set blk_other blk_alloc row_kept row_shape row_type)
variable {R : Nat → Prop} {w : World} {d b : Nat} {S : St}
theorem DeskR.since {w1 : World} (h : DeskR R w d b S) (hb : Below w.heap.size w w1) : DeskR (Since R w w1) w1 d b S :=
  ((h.mono (R' := fun k => R k ∧ k < w.heap.size) (fun _g hg e => ⟨e, hg⟩)).on hb).mono (fun _g _ e => Or.inl e)
theorem DeskR.wide {Q : Nat → Prop} {w1 : World} (h : DeskR Q w1 d b S) (hQ : ∀ k, Q k → R k) : DeskR R w1 d b S := h.mono (fun g _ e => hQ g e)
theorem DeskR.set {Q : Nat → Prop} {w1 : World} (h : DeskR Q w1 d b S) {g : Nat} (hg : ¬ Q g) (i : Nat) (u : Value) : DeskR Q (w1.setCell ⟨g, i, none⟩ u) d b S := h.apart (F := (· = g)) ((Chg.refl _ w1).root i u) (fun _k hk e => hg (hk ▸ e))
theorem tat_get {S : St} {n : Int} (h : ¬ (S.get n).1.2 = 0) : trunkAt S n = ((noT, (S.get n).1.2), (S.get n).2) := if_pos h
theorem tat_bad {S : St} {n : Int} (h : (S.get n).1.2 = 0) (h2 : ¬ (decT (S.get n).1.1).2 = 0) : trunkAt S n = ((noT, 30), (S.get n).2) := by unfold trunkAt; rw [if_neg (by simpa using h), if_pos h2]
theorem tat_ok {S : St} {n : Int} (h : (S.get n).1.2 = 0) (h2 : (decT (S.get n).1.1).2 = 0) : trunkAt S n = (((decT (S.get n).1.1).1, 0), (S.get n).2) := by unfold trunkAt; rw [if_neg (by simpa using h), if_neg (by simpa using h2)]
def AtGives (R : Nat → Prop) (d b : Nat) (x : (Tr × Int) × St) (w w' : World) (e : Ending) : Prop :=
  (∃ lv N, e = .returned (.tuple #[trV x.1.1 lv, .int .i64 x.1.2]) ∧ (w.heap.size ≤ N ∧ N ≤ w'.heap.size) ∧ Lrow N lv x.1.1.list w' ∧ DeskR (fun k => R k ∧ k < N) w' d b x.2) ∧ Chg R w w'
set_option maxRecDepth 100000 in
set_option maxHeartbeats 4000000 in
theorem trunkat_any (h : DeskR R w d b S) (hR : ∀ k, w.heap.size ≤ k → R k) {c : Nat} (hS : Small c S) (hc : c ≤ 50000) (n : Int) (hn : Wf n) :
    Calls Tryz.prog 69 #[dkV d, .int .i64 n] w fun e w' => AtGives R d b (trunkAt S n) w w' e := by
  have T0 := hid (Tb.new 0 nilS w)
  have B0 := hid ((Below.refl w.heap.size w).alloc (Nat.le_refl _) (tObj 0 nilS))
  have hz : w.heap.size < (w.alloc (tObj 0 nilS)).heap.size := by simp
  have D1 := h.since B0.out
  have HG := hid (dget_any D1 hS hc n hn)
  have hno : ¬ Since R w (w.alloc (tObj 0 nilS)) w.heap.size := Since.no (Nat.le_refl _) hz
  have HNO := hid hno
  have HO := hid (Since.old (w1 := w.alloc (tObj 0 nilS)) hR (Nat.le_of_lt hz))
  have HA := hid (fun e => tat_get (S := S) (n := n) e)
  have HB := hid (fun e e2 => tat_bad (S := S) (n := n) e e2)
  have HC := hid (fun e e2 => tat_ok (S := S) (n := n) e e2)
  have HW := hid hR
  generalize Since R w (w.alloc (tObj 0 nilS)) = Q at *
  generalize hX : trunkAt S n = X at *
  generalize S.get n = G at *
  obtain ⟨⟨D, e1⟩, S1⟩ := G
  simp only at HG HA HB HC
  clear h hS hc hX D1 hn hno hR hz
  go_enter Tryz.func69, Tryz.ntmps69
  go_wp2_with fail
  refine HG.out.mono ?_
  rintro e w2 ⟨rfl, hd2, hc2⟩
  have D2 : Hid (DeskR (fun k => Q k ∧ k < w2.heap.size) w2 d b S1) := hid (hd2.mono (fun g hg e => ⟨e, hg⟩))
  have HN2 : Hid (¬ (Q w.heap.size ∧ w.heap.size < w2.heap.size)) := hid (fun e => HNO.out e.1)
  have HO2 : Hid (∀ k, (Q k ∧ k < w2.heap.size) → (R k ∧ k < w2.heap.size)) := hid (fun k e => ⟨HO.out k e.1, e.2⟩)
  have HZ2 : Hid (w.heap.size ≤ w2.heap.size) := hid (Nat.le_of_lt (T0.out.at hc2 HNO.out).lt)
  have C2 := hid hc2
  have T2 := hid (T0.out.at hc2 HNO.out)
  have CR : Hid (Chg R w w2) := hid ((Chg.of_below B0.out).trans (hc2.mono (fun k _ e => HO.out k e)))
  clear hd2 hc2
  have hcell := T2.out.cells
  obtain ⟨r0, r1⟩ := T2.out.cells
  obtain ⟨s0, s1⟩ := T2.out.free
  have hlr := T2.out.lt
  by_cases h1 : e1 = 0
  · subst h1
    have HDc := hid (decode_any D w2)
    have HB2 := hid (HB.out rfl)
    have HC2 := hid (HC.out rfl)
    clear HA HB HC hcell r0 r1 s0 s1 hlr
    generalize decT D = Y at *
    obtain ⟨T, ed⟩ := Y
    simp only at HB2 HC2
    go_wp2_with fail
    refine HDc.out.mono ?_
    rintro e w3 ⟨⟨lv, rfl, hrow⟩, hb3⟩
    obtain ⟨ao, cap, rfl⟩ := hrow.shape
    unfold trV
    simp only at hrow ⊢
    have D3 := hid (D2.out.on hb3)
    have HZ3 : Hid (∀ a x o, w2.heap.size ≤ ((put2 w3 w.heap.size a x).alloc o).heap.size) := hid (fun a x o => by have := hb3.size; simp [World.setCell]; omega)
    have T3 := hid (T2.out.on hb3)
    have L3 := hid hrow
    have CR3 := hid (CR.out.trans (Chg.of_below hb3))
    clear hrow hb3 D2 T2 CR C2
    have U4 := hid (Tb.new T.next (.slice ao T.list.length cap) w3)
    obtain ⟨r0, r1⟩ := T3.out.cells
    obtain ⟨s0, s1⟩ := T3.out.free
    have hlr3 := T3.out.lt
    obtain ⟨u0, u1⟩ := U4.out.cells
    have CF : Hid (∀ a x, Chg R w ((put2 w3 w.heap.size a x).alloc (tObj T.next (.slice ao T.list.length cap)))) := hid (fun a x => ((CR3.out.setCell (Or.inl (Nat.le_refl _)) _).setCell (Or.inl (Nat.le_refl _)) _).alloc _)
    have DF : Hid (∀ a x, DeskR (fun k => R k ∧ k < w2.heap.size) ((put2 w3 w.heap.size a x).alloc (tObj T.next (.slice ao T.list.length cap))) d b S1) := hid (fun a x => (((D3.out.set HN2.out _ _).set HN2.out _ _).wide HO2.out).on ((Below.refl _ _).alloc (Nat.le_refl _) _))
    by_cases h2 : ed = 0
    · subst h2
      have hx := HC2.out rfl
      subst hx
      clear HB2 HC2
      have HF : Hid (Tb w.heap.size T.next (.slice ao T.list.length cap) ((put2 w3 w.heap.size T.next (.slice ao T.list.length cap)).alloc (tObj T.next (.slice ao T.list.length cap))) ∧ Lrow w2.heap.size (.slice ao T.list.length cap) T.list ((put2 w3 w.heap.size T.next (.slice ao T.list.length cap)).alloc (tObj T.next (.slice ao T.list.length cap)))) := by
        refine hid ⟨((T3.out.set0 _).set1 _).on ((Below.refl _ _).alloc (Nat.le_refl _) _), ?_⟩
        have := ((L3.out.set T3.out (.int .i64 T.next) (i := 0)).set (T3.out.set0 T.next) (.slice ao T.list.length cap) (i := 1)).on ((Below.refl _ _).alloc (Nat.le_refl _) (tObj T.next (.slice ao T.list.length cap)))
        exact this
      go_wp2
      obtain ⟨g4, g1⟩ := HF.out
      obtain ⟨x0, x1⟩ := g4.cells
      refine @bodyPost_ret Tryz.prog Tryz.f69 (fun e w' => AtGives R d b ((T, 0), S1) w w' e) _ _ (.tuple #[trV T (.slice ao T.list.length cap), .int .i64 0]) ?_ ?_ ?_
      · simp [results, trV, go_sem, x0, x1]
      · rfl
      · exact ⟨⟨_, w2.heap.size, rfl, ⟨HZ2.out, HZ3.out _ _ _⟩, g1, DF.out _ _⟩, CF.out _ _⟩
    · have hx := HB2.out h2
      subst hx
      have h2' : (ed == 0) = false := by simpa using h2
      clear HB2 HC2
      have HF : Hid (Tb w.heap.size 0 nilS ((put2 w3 w.heap.size 0 nilS).alloc (tObj T.next (.slice ao T.list.length cap)))) := hid (((T3.out.set0 _).set1 _).on ((Below.refl _ _).alloc (Nat.le_refl _) _))
      go_wp2
      obtain ⟨x0, x1⟩ := HF.out.cells
      refine @bodyPost_ret Tryz.prog Tryz.f69 (fun e w' => AtGives R d b ((noT, 30), S1) w w' e) _ _ (.tuple #[trV noT nilS, .int .i64 30]) ?_ ?_ ?_
      · simp [results, trV, noT, go_sem, x0, x1]
      · rfl
      · exact ⟨⟨_, w2.heap.size, rfl, ⟨HZ2.out, HZ3.out _ _ _⟩, Lrow.nil _ _, DF.out _ _⟩, CF.out _ _⟩
  · have hx := HA.out h1
    subst hx
    have h1' : (e1 == 0) = false := by simpa using h1
    clear HA HB HC
    have HF : Hid (Tb w.heap.size 0 nilS (put2 w2 w.heap.size 0 nilS)) := hid ((T2.out.set0 _).set1 _)
    have CF : Hid (Chg R w (put2 w2 w.heap.size 0 nilS)) := hid ((CR.out.setCell (Or.inl (Nat.le_refl _)) _).setCell (Or.inl (Nat.le_refl _)) _)
    have DF : Hid (DeskR (fun k => R k ∧ k < w2.heap.size) (put2 w2 w.heap.size 0 nilS) d b S1) := hid (((D2.out.set HN2.out _ _).set HN2.out _ _).wide HO2.out)
    go_wp2
    obtain ⟨x0, x1⟩ := HF.out.cells
    refine @bodyPost_ret Tryz.prog Tryz.f69 (fun e w' => AtGives R d b ((noT, e1), S1) w w' e) _ _ (.tuple #[trV noT nilS, .int .i64 e1]) ?_ ?_ ?_
    · simp [results, trV, noT, go_sem, x0, x1]
    · rfl
    · exact ⟨⟨_, w2.heap.size, rfl, ⟨HZ2.out, Nat.le_of_eq (by simp [World.setCell])⟩, Lrow.nil _ _, DF.out⟩, CF.out⟩
end Sh
end Go.Proofs.YtoifhcmgeackdaaGreatDoor

/-
  The shelf's pages: contract of the project's putTrunk.
-/
namespace Go.Proofs.YtoifhcmgeackdaaGreatDoor
open Go.RowKit
namespace Sh
open Sp
open Num (hid)
open Mem (Bs bs IAt tI tS tIs tSs Chg Row ptr blk_cell blk_free blk_new blk_set blk_other blk_alloc row_kept row_shape row_type wpList_append_run)
variable {R : Nat → Prop} {w : World} {d b : Nat} {S : St}
theorem ptr_bad {t : Tr} {n : Int} (h : okT t = false) : putTrunk S n t = (1, S) := by unfold putTrunk; rw [h]; rfl
theorem ptr_ok {t : Tr} {n : Int} (h : okT t = true) : putTrunk S n t = S.put n (pageT t) := by unfold putTrunk; rw [if_pos h]
set_option maxRecDepth 100000 in
set_option maxHeartbeats 4000000 in
theorem puttrunk_any (h : DeskR R w d b S) {c : Nat} (hS : Small c S) (hc : c ≤ 50000) (n : Int) (hn : Wf n) (t : Tr) (lv : Value) (hI : IAt w lv t.list) :
    Calls Tryz.prog 71 #[dkV d, .int .i64 n, trV t lv] w fun e w' => e = .returned (.int .i64 (putTrunk S n t).1) ∧ DeskR R w' d b (putTrunk S n t).2 ∧ Chg R w w' := by
  obtain ⟨ao, cap, rfl, hm, -, -⟩ := Mem.IAt.ways1 hI
  have T1 := hid (Tb.new t.next (.slice ao t.list.length cap) w)
  have B1 := hid ((Below.refl w.heap.size w).alloc (Nat.le_refl _) (tObj t.next (.slice ao t.list.length cap)))
  have HE := hid (encode_any t (.slice ao t.list.length cap) _ (hI.on B1.out))
  obtain ⟨c0, c1⟩ := T1.out.cells
  have HD := hid h
  have HP := hid (fun (w2 : World) (D2 : DeskR R w2 d b S) (x : Bs) => dput_any D2 hS hc n hn x)
  unfold trV sV2 at *
  cases ho : okT t with
  | false =>
    rw [ptr_bad ho]
    rw [enc_bad ho] at HE
    clear h hI hS hc hn ho
    go_enter Tryz.func71, Tryz.ntmps71
    go_wp2_with fail
    refine HE.out.mono ?_
    rintro e w3 ⟨rfl, hb⟩
    have B2 := hid (B1.out.trans (hb.mono B1.out.size))
    clear hb c0 c1
    go_wp2
    go_ret
    exact ⟨rfl, HD.out.on B2.out, Chg.of_below B2.out⟩
  | true =>
    rw [ptr_ok ho]
    rw [enc_good ho] at HE
    clear h hI hS hc hn ho
    generalize pageT t = P at *
    go_enter Tryz.func71, Tryz.ntmps71
    go_wp2_with fail
    refine HE.out.mono ?_
    rintro e w3 ⟨rfl, hb⟩
    have B2 := hid (B1.out.trans (hb.mono B1.out.size))
    clear hb c0 c1
    have HPx := hid (HP.out w3 (HD.out.on B2.out) P)
    go_wp2_with fail
    refine HPx.out.mono ?_
    rintro e w4 ⟨rfl, hd4, hc4⟩
    have D4 := hid hd4
    have C4 := hid ((Chg.of_below B2.out).trans hc4)
    clear hd4 hc4
    go_wp2
    go_ret
    exact ⟨rfl, D4.out, C4.out⟩
end Sh
end Go.Proofs.YtoifhcmgeackdaaGreatDoor

/-
  The shelf's pages: contracts of the project's takeNew and takeTrunk.
-/
namespace Go.Proofs.YtoifhcmgeackdaaGreatDoor
open Go.RowKit
namespace Sh
open Sp
open Num (hid)
open Mem (Bs bs IAt tI tS tIs tSs Chg Row ptr blk_cell blk_free blk_new blk_set blk_other blk_alloc row_kept row_shape row_type)
theorem desk_put6z {Q : Nat → Prop} {w : World} {d b : Nat} {S : St} (h : DeskR Q w d b S) {r : Nat} (hr : ¬ Q r) : DeskR Q (put6z w r) d b S :=
  (((((h.set hr _ _).set hr _ _).set hr _ _).set hr _ _).set hr _ _).set hr _ _
theorem desk_put6 {Q : Nat → Prop} {w : World} {d b : Nat} {S : St} (h : DeskR Q w d b S) {r : Nat} (hr : ¬ Q r) (g : Hd) : DeskR Q (put6 w r g) d b S :=
  (((((h.set hr _ _).set hr _ _).set hr _ _).set hr _ _).set hr _ _).set hr _ _
set_option maxRecDepth 100000 in
set_option maxHeartbeats 1000000 in
theorem takenew_any (h : Hd) (hf : Fit h) (w : World) :
    Calls Tryz.prog 68 #[hV h] w fun e w' => e = .returned (takeV (takeNew h)) ∧ Below w.heap.size w w' := by
  have HT := hid (two_heads w)
  obtain ⟨mode, pages, trunk, spare, root, change⟩ := h
  by_cases hp : 4096 ≤ pages
  · rw [tn_full hp]
    unfold hV
    clear hf
    go_enter Tryz.func68, Tryz.ntmps68
    go_wp2
    obtain ⟨-, g1, g2⟩ := HT.out ⟨mode, pages, trunk, spare, root, change⟩ hd0
    obtain ⟨x0, x1, x2, x3, x4, x5⟩ := g1.cells
    refine @bodyPost_ret Tryz.prog Tryz.f68 (fun e w' => e = .returned (takeV (0, hd0, 22)) ∧ Below w.heap.size w w') _ _ (takeV (0, hd0, 22)) ?_ ?_ ?_
    · simp [results, takeV, hV, hd0, go_sem]
    · rfl
    · exact ⟨rfl, g2⟩
  · rw [tn_more hp]
    unfold Fit at hf
    have hw : wrap64 (pages + 1) = pages + 1 := by rw [Num.wrap_i]; simp only at hf; omega
    unfold hV
    clear hf
    go_enter Tryz.func68, Tryz.ntmps68
    go_wp2
    go_region
    go_wp2
    obtain ⟨-, g1, g2⟩ := HT.out ⟨mode, pages + 1, trunk, spare, root, change⟩ ⟨mode, pages + 1, trunk, spare, root, change⟩
    refine @bodyPost_ret Tryz.prog Tryz.f68 (fun e w' => e = .returned (takeV (pages, ⟨mode, pages + 1, trunk, spare, root, change⟩, 0)) ∧ Below w.heap.size w w') _ _ (takeV (pages, ⟨mode, pages + 1, trunk, spare, root, change⟩, 0)) ?_ ?_ ?_
    · simp [results, takeV, hV, go_sem]
    · rfl
    · exact ⟨rfl, g2.drew⟩
set_option maxRecDepth 100000 in
set_option maxHeartbeats 1000000 in
theorem taketrunk_any (h : Hd) (hf : Fit h) (n : Int) (w : World) :
    Calls Tryz.prog 70 #[hV h, .int .i64 n] w fun e w' => e = .returned (takeV (takeTrunk h n)) ∧ Below w.heap.size w w' := by
  have HT := hid (two_heads w)
  obtain ⟨mode, pages, trunk, spare, root, change⟩ := h
  unfold Fit at hf
  have hw : wrap64 (spare - 1) = spare - 1 := by rw [Num.wrap_i]; simp only at hf; omega
  by_cases hp : decide (spare - 1 = 0) = decide (n = 0)
  · rw [tt_ok (h := ⟨mode, pages, trunk, spare, root, change⟩) hp]
    have hq : (spare - 1 == 0) = (n == 0) := by rw [ibeq, ibeq]; exact hp
    unfold hV
    clear hf hp
    go_enter Tryz.func70, Tryz.ntmps70
    go_wp2
    go_region
    go_wp2
    obtain ⟨-, g1, g2⟩ := HT.out ⟨mode, pages, n, spare - 1, root, change⟩ ⟨mode, pages, n, spare - 1, root, change⟩
    refine @bodyPost_ret Tryz.prog Tryz.f70 (fun e w' => e = .returned (takeV (trunk, ⟨mode, pages, n, spare - 1, root, change⟩, 0)) ∧ Below w.heap.size w w') _ _ (takeV (trunk, ⟨mode, pages, n, spare - 1, root, change⟩, 0)) ?_ ?_ ?_
    · simp [results, takeV, hV, go_sem]
    · rfl
    · exact ⟨rfl, g2.drew⟩
  · rw [tt_bad (h := ⟨mode, pages, trunk, spare, root, change⟩) hp]
    have hq : ((spare - 1 == 0) == (n == 0)) = false := by
      rw [ibeq, ibeq]
      by_cases e1 : spare - 1 = 0 <;> by_cases e2 : n = 0 <;> simp_all
    unfold hV
    clear hf hp
    go_enter Tryz.func70, Tryz.ntmps70
    go_wp2
    obtain ⟨-, g1, g2⟩ := HT.out ⟨mode, pages, n, spare - 1, root, change⟩ hd0
    refine @bodyPost_ret Tryz.prog Tryz.f70 (fun e w' => e = .returned (takeV (0, hd0, 30)) ∧ Below w.heap.size w w') _ _ (takeV (0, hd0, 30)) ?_ ?_ ?_
    · simp [results, takeV, hV, hd0, go_sem]
    · rfl
    · exact ⟨rfl, g2⟩
end Sh
end Go.Proofs.YtoifhcmgeackdaaGreatDoor

/-
  The shelf's pages: contract of the project's Take.
-/
namespace Go.Proofs.YtoifhcmgeackdaaGreatDoor
open Go.RowKit
namespace Sh
open Sp
open Num (hid)
open Mem (Bs bs IAt tI tS tIs tSs Chg Row ptr blk_cell blk_free blk_new blk_set blk_other blk_alloc row_kept row_shape row_type)
variable {R : Nat → Prop} {w : World} {d b : Nat} {S : St}
def TakeGives (R : Nat → Prop) (d b : Nat) (x : (Int × Hd × Int) × St) (w w' : World) (e : Ending) : Prop := e = .returned (takeV x.1) ∧ DeskR R w' d b x.2 ∧ Chg R w w'
theorem DeskR.drew {w : World} (h : DeskR R w d b S) : DeskR R w.drew d b S := h.on (Below.refl _ _).drew
theorem tk_new {h : Hd} (k : h.spare = 0) : takeM h S = (takeNew h, S) := if_pos k
theorem tk_old {h : Hd} (k : ¬ h.spare = 0) : takeM h S = takeOf h (trunkAt S h.trunk) := if_neg k
theorem to_err {h : Hd} {T : Tr} {e : Int} {S1 : St} (k : ¬ e = 0) : takeOf h ((T, e), S1) = ((0, hd0, e), S1) := if_pos k
theorem to_bad {h : Hd} {T : Tr} {S1 : St} (k : badT h T = true) : takeOf h ((T, 0), S1) = ((0, hd0, 30), S1) := by unfold takeOf; rw [if_neg (fun e => e rfl), if_pos k]
theorem to_none {h : Hd} {T : Tr} {S1 : St} (k : badT h T = false) (k2 : T.list.length = 0) : takeOf h ((T, 0), S1) = (takeTrunk h T.next, S1) := by unfold takeOf; rw [if_neg (fun e => e rfl), if_neg (by simpa using k), if_pos k2]
theorem to_some {h : Hd} {T : Tr} {S1 : St} (k : badT h T = false) (k2 : ¬ T.list.length = 0) : takeOf h ((T, 0), S1) = if (putTrunk S1 h.trunk ⟨T.next, T.list.dropLast⟩).1 ≠ 0 then ((0, hd0, (putTrunk S1 h.trunk ⟨T.next, T.list.dropLast⟩).1), (putTrunk S1 h.trunk ⟨T.next, T.list.dropLast⟩).2)
  else ((T.list.getLastD 0, { h with spare := h.spare - 1 }, 0), (putTrunk S1 h.trunk ⟨T.next, T.list.dropLast⟩).2) := by unfold takeOf; rw [if_neg (fun e => e rfl), if_neg (by simpa using k), if_neg k2]
theorem boxes (h : DeskR R w d b S) (hR : ∀ k, w.heap.size ≤ k → R k) (hd : Hd) : ∃ z, z = (w.alloc (.cells #[.int .i64 hd.mode, .int .i64 hd.pages, .int .i64 hd.trunk, .int .i64 hd.spare, .int .i64 hd.root, .int .u64 (hd.change : Nat)] tH)).alloc zObj ∧ z.heap.size = w.heap.size + 2 ∧ Hb w.heap.size hd z ∧ Hb (w.heap.size + 1) hd0 z ∧ Below w.heap.size w z ∧ DeskR (Since R w z) z d b S ∧
    (∀ k, Since R w z k → R k) ∧ ¬ Since R w z w.heap.size ∧ ¬ Since R w z (w.heap.size + 1) := by
  obtain ⟨h1, h2, h3⟩ := two_heads w hd hd0
  refine ⟨_, rfl, by simp, h1, h2, h3, h.since h3, Since.old hR h3.size, Since.no (Nat.le_refl _) (by simp; omega), Since.no (Nat.le_succ _) (by simp)⟩
theorem small_put {c : Nat} {S : St} (h : Small c S) (n : Int) (x : Bs) : Small (c + 1) (S.put n x).2 := by
  unfold St.put
  unfold Small at *
  split
  · split
    · exact Nat.le_succ_of_le h
    · exact Nat.succ_le_succ h
  · exact Nat.le_succ_of_le h
theorem tat_st (S : St) (n : Int) : (trunkAt S n).2 = S := by
  unfold trunkAt
  split
  · exact get_st S n
  · split
    · exact get_st S n
    · exact get_st S n
theorem small_tat {c : Nat} {S : St} (h : Small c S) (n : Int) : Small (c + 1) (trunkAt S n).2 := by
  rw [tat_st]
  exact h.more (Nat.le_succ _)
theorem small_ptr {c : Nat} {S : St} (h : Small c S) (n : Int) (t : Tr) : Small (c + 1) (putTrunk S n t).2 := by
  unfold putTrunk
  split
  · exact small_put h n _
  · exact h.more (Nat.le_succ _)
theorem take_fin {Q : Nat → Prop} {w7 : World} {S2 : St} (hd : Hd) (D7 : DeskR Q w7 d b S2) (hQ : ∀ k, Q k → R k) (h1 : ¬ Q w.heap.size) (h2 : ¬ Q (w.heap.size + 1)) (C7 : Chg R w w7) (R7 : Hb (w.heap.size + 1) hd0 w7) (s : Int) :
    ((tkW w7 w.heap.size hd s).cell? ⟨w.heap.size + 1, 0, none⟩ = some (.int .i64 hd.mode) ∧ (tkW w7 w.heap.size hd s).cell? ⟨w.heap.size + 1, 1, none⟩ = some (.int .i64 hd.pages) ∧ (tkW w7 w.heap.size hd s).cell? ⟨w.heap.size + 1, 2, none⟩ = some (.int .i64 hd.trunk) ∧ (tkW w7 w.heap.size hd s).cell? ⟨w.heap.size + 1, 3, none⟩ = some (.int .i64 s) ∧ (tkW w7 w.heap.size hd s).cell? ⟨w.heap.size + 1, 4, none⟩ = some (.int .i64 hd.root) ∧ (tkW w7 w.heap.size hd s).cell? ⟨w.heap.size + 1, 5, none⟩ = some (.int .u64 (hd.change : Nat))) ∧
    Chg R w (tkW w7 w.heap.size hd s) ∧ DeskR R (tkW w7 w.heap.size hd s) d b S2 := by
  have R8 := R7.other (i := 3) (show w.heap.size + 1 ≠ w.heap.size by omega) (.int .i64 s)
  have H := R8.put ⟨hd.mode, hd.pages, hd.trunk, s, hd.root, hd.change⟩
  have C := chg_put6 (C7.setCell (p := ⟨w.heap.size, 3, none⟩) (Or.inl (Nat.le_refl _)) (.int .i64 s)) (r := w.heap.size + 1) (Or.inl (Nat.le_succ _)) ⟨hd.mode, hd.pages, hd.trunk, s, hd.root, hd.change⟩
  have D := desk_put6 (D7.set h1 3 (.int .i64 s)) h2 ⟨hd.mode, hd.pages, hd.trunk, s, hd.root, hd.change⟩
  exact ⟨H.drew.cells, C.drew, (D.wide hQ).drew⟩
theorem tat_okT (S : St) (n : Int) (h : (trunkAt S n).1.2 = 0) : okT (trunkAt S n).1.1 = true := by
  unfold trunkAt at h ⊢
  split at h
  · rename_i h1; exact absurd h h1
  · rename_i h1
    rw [if_neg h1]
    split at h
    · cases h
    · rename_i h2
      rw [if_neg h2]
      exact (dec_ok (by simpa using h2)).1
set_option maxRecDepth 100000 in
set_option maxHeartbeats 2000000 in
theorem take_any (h : DeskR R w d b S) (hR : ∀ k, w.heap.size ≤ k → R k) {c : Nat} (hS : Small c S) (hc : c ≤ 40000) (hd : Hd) (hf : Fit hd) :
    Calls Tryz.prog 35 #[hV hd, dkV d] w fun e w' => TakeGives R d b (takeM hd S) w w' e := by
  obtain ⟨z, hz, hzs, Z1, Z2, Z3, Z4, Z5, Z6, Z7⟩ := boxes h hR hd
  have HZ := hid hz
  have HZ1 := hid Z1
  have HZ2 := hid Z2
  have HZ3 := hid Z3
  have HZ4 := hid Z4
  have HZ5 := hid Z5
  have HZ6 := hid Z6
  have HZ7 := hid Z7
  have hwf : Wf hd.trunk := wf_of (by unfold Fit at hf; omega) (by unfold Fit at hf; omega)
  have HWF := hid hwf
  have HTN := hid (takenew_any hd hf)
  have HTT := hid (taketrunk_any hd hf)
  have HTA := hid (trunkat_any Z4 (fun k hk => Or.inr hk) hS (by omega) hd.trunk hwf)
  have HDR := hid h
  have hsp : wrap64 (hd.spare - 1) = hd.spare - 1 := by unfold Fit at hf; rw [Num.wrap_i]; omega
  obtain ⟨a0, a1, a2, a3, a4, a5⟩ := Z1.cells
  obtain ⟨r0, r1, r2, r3, r4, r5⟩ := Z2.cells
  obtain ⟨s0, s1, s2, s3, s4, s5⟩ := Z2.free
  have hl1 := Z1.lt
  have hl2 := Z2.lt
  clear Z1 Z2 Z3 Z4 Z5 Z6 Z7 h hf hwf
  by_cases h0 : hd.spare = 0
  · rw [tk_new h0]
    have h0' : (hd.spare == 0) = true := by simpa using h0
    generalize takeNew hd = X at *
    obtain ⟨xn, xh, xe⟩ := X
    unfold takeV hV at *
    clear h0 HTT HTA hS hR
    go_enter Tryz.func35, Tryz.ntmps35
    go_wp2_with fail
    rw [← HZ.out]
    refine (HTN.out _).mono ?_
    rintro e w3 ⟨rfl, hb⟩
    have Z2b := hid (HZ2.out.on hb)
    have CF : Hid (Chg R w (put6 w3 (w.heap.size + 1) xh)) := hid (chg_put6 ((Chg.of_below HZ3.out).trans (Chg.of_below hb)) (Or.inl (Nat.le_succ _)) xh)
    have DF : Hid (DeskR R (put6 w3 (w.heap.size + 1) xh) d b S) := hid ((desk_put6 (HZ4.out.on hb) HZ7.out xh).wide HZ5.out)
    have HF := hid (Z2b.out.put xh)
    clear hb a0 a1 a2 a3 a4 a5 r0 r1 r2 r3 r4 r5 s0 s1 s2 s3 s4 s5 hl1 hl2
    obtain ⟨r0, r1, r2, r3, r4, r5⟩ := Z2b.out.cells
    obtain ⟨s0, s1, s2, s3, s4, s5⟩ := Z2b.out.free
    have hl2 := Z2b.out.lt
    go_wp2
    obtain ⟨x0, x1, x2, x3, x4, x5⟩ := HF.out.cells
    refine @bodyPost_ret Tryz.prog Tryz.f35 (fun e w' => TakeGives R d b ((xn, xh, xe), S) w w' e) _ _ (takeV (xn, xh, xe)) ?_ ?_ ?_
    · simp [results, takeV, hV, go_sem, x0, x1, x2, x3, x4, x5]
    · rfl
    · exact ⟨rfl, DF.out, CF.out⟩
  · rw [tk_old h0]
    have h0' : (hd.spare == 0) = false := by simpa using h0
    have HOK : Hid ((trunkAt S hd.trunk).1.2 = 0 → okT (trunkAt S hd.trunk).1.1 = true) := hid (tat_okT S hd.trunk)
    have HSM : Hid (Small (c + 1) (trunkAt S hd.trunk).2) := hid (small_tat hS hd.trunk)
    generalize hX : trunkAt S hd.trunk = X at *
    obtain ⟨⟨T, e1⟩, S1⟩ := X
    simp only at HOK HSM
    generalize hY : takeOf hd ((T, e1), S1) = Y at *
    have HY := hid hY
    clear hY
    generalize hQ : Since R w z = Q at *
    unfold takeV hV at *
    have HW := hid hR
    clear h0 HTN hR hX hQ
    go_enter Tryz.func35, Tryz.ntmps35
    go_wp2_with fail
    rw [← HZ.out]
    refine HTA.out.mono ?_
    rintro e w3 ⟨⟨lv, N, rfl, -, hrow, hd3n⟩, hc3⟩
    have hd3 := hd3n.wide (R := Q) (fun k e => e.1)
    clear hd3n
    obtain ⟨ao, cap, rfl⟩ := hrow.shape
    unfold trV
    simp only at hrow hd3 ⊢
    have L3 := hid hrow
    have D3 := hid hd3
    have A3 := hid (HZ1.out.at hc3 HZ6.out)
    have R3 := hid (HZ2.out.at hc3 HZ7.out)
    have C3 := hid ((Chg.of_below HZ3.out).trans (hc3.mono (fun k _ e => HZ5.out k e)))
    have hB4 : Below w3.heap.size w3 (w3.alloc (tObj T.next (.slice ao T.list.length cap))) := (Below.refl w3.heap.size w3).alloc (Nat.le_refl _) _
    have U4 := hid (Tb.new T.next (.slice ao T.list.length cap) w3)
    have L4 := hid (L3.out.on hB4)
    have D4 : Hid (DeskR (fun k => Q k ∧ k < w3.heap.size) (w3.alloc (tObj T.next (.slice ao T.list.length cap))) d b S1) := hid ((D3.out.mono (fun g hg e => ⟨e, hg⟩)).on hB4)
    have N6 : Hid (¬ (Q w.heap.size ∧ w.heap.size < w3.heap.size)) := hid (fun e => HZ6.out e.1)
    have N7 : Hid (¬ (Q (w.heap.size + 1) ∧ w.heap.size + 1 < w3.heap.size)) := hid (fun e => HZ7.out e.1)
    have NO : Hid (∀ k, Q k ∧ k < w3.heap.size → R k) := hid (fun k e => HZ5.out k e.1)
    have SM : Hid (Small (c + 1) S1) := hid HSM.out
    have A4 := hid (A3.out.on hB4)
    have R4 := hid (R3.out.on hB4)
    have C4 := hid (C3.out.trans (Chg.of_below hB4))
    have hz4 : w3.heap.size < (w3.alloc (tObj T.next (.slice ao T.list.length cap))).heap.size := by simp
    have hz3 : w.heap.size + 2 ≤ w3.heap.size := by have := hc3.size; omega
    have HZL := hid hz4
    have HZM := hid hz3
    clear hrow hd3 hc3 a0 a1 a2 a3 a4 a5 r0 r1 r2 r3 r4 r5 s0 s1 s2 s3 s4 s5 hl1 hl2 hB4 hz4 hz3 L3 D3 A3 R3 C3
    go_upto_region 4 with fail
    generalize w3.alloc (tObj T.next (.slice ao T.list.length cap)) = w4 at *
    obtain ⟨u0, u1⟩ := U4.out.cells
    obtain ⟨a0, a1, a2, a3, a4, a5⟩ := A4.out.cells
    obtain ⟨r0, r1, r2, r3, r4, r5⟩ := R4.out.cells
    obtain ⟨s0, s1, s2, s3, s4, s5⟩ := R4.out.free
    have hl1 := A4.out.lt
    have hl2 := R4.out.lt
    have hl3 := U4.out.lt
    have CZ : Hid (Chg R w (put6z w4 (w.heap.size + 1))) := hid (chg_put6z C4.out (Or.inl (Nat.le_succ _)))
    have DZ : Hid (DeskR R (put6z w4 (w.heap.size + 1)) d b S1) := hid ((desk_put6z D4.out N7.out).wide NO.out)
    have RZ : Hid (Hb (w.heap.size + 1) hd0 (put6z w4 (w.heap.size + 1))) := hid R4.out.zero
    have CQ : Hid (∀ q, Chg R w (put6z (w4.drewN q) (w.heap.size + 1))) := hid (fun q => chg_put6z (C4.out.drewN q) (Or.inl (Nat.le_succ _)))
    have DQ : Hid (∀ q, DeskR R (put6z (w4.drewN q) (w.heap.size + 1)) d b S1) := hid (fun q => (desk_put6z (D4.out.on (below_drewN (Below.refl _ _) q)) N7.out).wide NO.out)
    have RQ : Hid (∀ q, Hb (w.heap.size + 1) hd0 (put6z (w4.drewN q) (w.heap.size + 1))) := hid (fun q => (R4.out.on (below_drewN (Below.refl _ _) q)).zero)
    by_cases h1 : e1 = 0
    · subst h1
      by_cases hb1 : hd.pages ≤ T.next
      · have hy := HY.out
        rw [to_bad (bad_next hb1)] at hy
        subst hy
        clear HY
        go_wp2_with fail
        go_quiet (fail)
        go_wp2
        have X0 := fun q => (RQ.out q).zeros.1
        have X1 := fun q => (RQ.out q).zeros.2.1
        have X2 := fun q => (RQ.out q).zeros.2.2.1
        have X3 := fun q => (RQ.out q).zeros.2.2.2.1
        have X4 := fun q => (RQ.out q).zeros.2.2.2.2.1
        have X5 := fun q => (RQ.out q).zeros.2.2.2.2.2
        refine @bodyPost_ret Tryz.prog Tryz.f35 (fun e w' => TakeGives R d b ((0, hd0, 30), S1) w w' e) _ _ (takeV (0, hd0, 30)) ?_ ?_ ?_
        · simp [results, takeV, hV, hd0, go_sem, X0, X1, X2, X3, X4, X5]
        · rfl
        · exact ⟨rfl, DQ.out _, CQ.out _⟩
      · obtain ⟨len, hlen⟩ : ∃ x, T.list.length = x := ⟨_, rfl⟩
        rw [hlen] at u1 ⊢
        have hok := HOK.out rfl
        have hle := ((okT_iff T).1 hok).2.1
        have hg1 : decide (hd.pages ≤ T.next) = false := decide_eq_false hb1
        by_cases hn : len = 0
        · subst hn
          have hy := HY.out
          rw [to_none (bad_none hb1 hlen) hlen] at hy
          generalize hN : takeTrunk hd T.next = N at *
          have HTTx := hid (HTT.out T.next)
          rw [hN] at HTTx
          obtain ⟨xn, xh, xe⟩ := N
          subst hy
          rw [hlen] at L4 U4
          clear HY hlen hle hok hN HTT
          go_wp2_with fail
          go_quiet (fail)
          rename_i nq
          have hbq := below_drewN (Below.refl w4.heap.size w4) nq
          have U5 := hid (U4.out.on hbq)
          have A5 := hid (A4.out.on hbq)
          have R5 := hid (R4.out.on hbq)
          have D5 := hid (D4.out.on hbq)
          have C5 := hid (C4.out.drewN nq)
          have L5 := hid (L4.out.on hbq)
          have hz5 : w4.heap.size = (w4.drewN nq).heap.size := rfl
          clear hbq u0 u1 a0 a1 a2 a3 a4 a5 r0 r1 r2 r3 r4 r5 s0 s1 s2 s3 s4 s5 hl1 hl2 hl3 CZ DZ RZ CQ DQ RQ
          generalize w4.drewN nq = w5 at *
          obtain ⟨u0, u1⟩ := U5.out.cells
          obtain ⟨v0, v1⟩ := U5.out.free
          obtain ⟨a0, a1, a2, a3, a4, a5⟩ := A5.out.cells
          obtain ⟨q0, q1, q2, q3, q4, q5⟩ := A5.out.free
          obtain ⟨r0, r1, r2, r3, r4, r5⟩ := R5.out.cells
          obtain ⟨s0, s1, s2, s3, s4, s5⟩ := R5.out.free
          have hl1 := A5.out.lt
          have hl2 := R5.out.lt
          have hl3 := U5.out.lt
          go_wp2_with fail
          refine (HTTx.out _).mono ?_
          rintro e w6 ⟨rfl, hb⟩
          have R6 := hid (R5.out.on hb)
          have CF : Hid (Chg R w (put6 w6 (w.heap.size + 1) xh)) := hid (chg_put6 (C5.out.trans (Chg.of_below hb)) (Or.inl (Nat.le_succ _)) xh)
          have DF : Hid (DeskR R (put6 w6 (w.heap.size + 1) xh) d b S1) := hid ((desk_put6 (D5.out.on hb) N7.out xh).wide NO.out)
          have HF := hid (R6.out.put xh)
          clear hb u0 u1 v0 v1 a0 a1 a2 a3 a4 a5 q0 q1 q2 q3 q4 q5 r0 r1 r2 r3 r4 r5 s0 s1 s2 s3 s4 s5 hl1 hl2 hl3
          obtain ⟨r0, r1, r2, r3, r4, r5⟩ := R6.out.cells
          obtain ⟨s0, s1, s2, s3, s4, s5⟩ := R6.out.free
          have hl2 := R6.out.lt
          go_wp2
          obtain ⟨x0, x1, x2, x3, x4, x5⟩ := HF.out.cells
          refine @bodyPost_ret Tryz.prog Tryz.f35 (fun e w' => TakeGives R d b ((xn, xh, xe), S1) w w' e) _ _ (takeV (xn, xh, xe)) ?_ ?_ ?_
          · simp [results, takeV, hV, go_sem, x0, x1, x2, x3, x4, x5]
          · rfl
          · exact ⟨rfl, DF.out, CF.out⟩
        · obtain ⟨m, hm⟩ : ∃ m, len = m + 1 := ⟨len - 1, by omega⟩
          have hlen2 : T.list.length = m + 1 := hlen.trans hm
          have hpos : (0 : Int) < (len : Int) := by omega
          have hgp : decide (0 < len) = true := decide_eq_true (by omega)
          have hwm : wrap64 ((len : Int) - 1) = (m : Int) := by rw [Num.wrap_i]; omega
          have hml : (m : Int) < (len : Int) := by omega
          have hml2 : m ≤ len := by omega
          have hm0 : (0 : Int) ≤ (m : Int) := by omega
          have hI4 := L4.out.at (by omega)
          rw [hlen] at hI4 L4 U4
          obtain ⟨_, _, ev, -, hcap, hat⟩ := Mem.IAt.ways1 hI4
          cases ev
          rw [hlen] at hcap
          obtain ⟨b0, o0, rfl, hb0, x0⟩ := hat m (by omega)
          have HTk : Hid (IAt w4 (.slice (some ⟨b0, o0, none⟩) m cap) (T.list.take m)) := hid (Mem.LAt.take hI4 (by omega))
          have hokd : (T.list.take m).length = m := by rw [List.length_take]; omega
          have HOKD := hid hokd
          by_cases hb2 : hd.pages ≤ T.list[m]'(by omega)
          · have hy := HY.out
            rw [to_bad (by rw [bad_last hb1 hlen2, decide_eq_true hb2])] at hy
            subst hy
            generalize T.list[m] = x at *
            clear HY hlen hlen2 hm hn hle hok hat hI4 HTk hokd HOKD
            go_wp2_with fail
            go_quiet (fail)
            rename_i nq
            have hbq := below_drewN (Below.refl w4.heap.size w4) nq
            have U5 := hid (U4.out.on hbq)
            have A5 := hid (A4.out.on hbq)
            have R5 := hid (R4.out.on hbq)
            have D5 := hid (D4.out.on hbq)
            have C5 := hid (C4.out.drewN nq)
            have L5 := hid (L4.out.on hbq)
            have hz5 : w4.heap.size = (w4.drewN nq).heap.size := rfl
            clear hbq u0 u1 a0 a1 a2 a3 a4 a5 r0 r1 r2 r3 r4 r5 s0 s1 s2 s3 s4 s5 hl1 hl2 hl3 CZ DZ RZ CQ DQ RQ
            generalize w4.drewN nq = w5 at *
            obtain ⟨u0, u1⟩ := U5.out.cells
            obtain ⟨v0, v1⟩ := U5.out.free
            obtain ⟨a0, a1, a2, a3, a4, a5⟩ := A5.out.cells
            obtain ⟨q0, q1, q2, q3, q4, q5⟩ := A5.out.free
            obtain ⟨r0, r1, r2, r3, r4, r5⟩ := R5.out.cells
            obtain ⟨s0, s1, s2, s3, s4, s5⟩ := R5.out.free
            have hl1 := A5.out.lt
            have hl2 := R5.out.lt
            have hl3 := U5.out.lt
            have CF : Hid (Chg R w (put6z w5 (w.heap.size + 1))) := hid (chg_put6z C5.out (Or.inl (Nat.le_succ _)))
            have DF : Hid (DeskR R (put6z w5 (w.heap.size + 1)) d b S1) := hid ((desk_put6z D5.out N7.out).wide NO.out)
            have HF : Hid (Hb (w.heap.size + 1) hd0 (put6z w5 (w.heap.size + 1))) := hid R5.out.zero
            go_wp2
            obtain ⟨x0, x1, x2, x3, x4, x5⟩ := HF.out.zeros
            refine @bodyPost_ret Tryz.prog Tryz.f35 (fun e w' => TakeGives R d b ((0, hd0, 30), S1) w w' e) _ _ (takeV (0, hd0, 30)) ?_ ?_ ?_
            · simp [results, takeV, hV, hd0, go_sem, x0, x1, x2, x3, x4, x5]
            · rfl
            · exact ⟨rfl, DF.out, CF.out⟩
          · have hy := HY.out
            have hg2 : decide (hd.pages ≤ T.list[m]'(by omega)) = false := decide_eq_false hb2
            rw [to_some (by rw [bad_last hb1 hlen2, decide_eq_false hb2]) (by omega), last_at hlen2, last_take hlen2] at hy
            generalize T.list[m] = x at *
            generalize hT2 : T.list.take m = l2 at *
            have HT2 := hid hT2
            have HLE : Hid (T.list.length ≤ 1000000) := hid (by omega)
            clear HY hlen hlen2 hm hn hle hok hat hI4 hT2 hb2
            go_wp2_with fail
            go_quiet (fail)
            rename_i nq
            have hbq := below_drewN (Below.refl w4.heap.size w4) nq
            have U5 := hid (U4.out.on hbq)
            have A5 := hid (A4.out.on hbq)
            have R5 := hid (R4.out.on hbq)
            have D5 := hid (D4.out.on hbq)
            have C5 := hid (C4.out.drewN nq)
            have L5 := hid (L4.out.on hbq)
            have HI5 : Hid (IAt (w4.drewN nq) (.slice (some ⟨b0, o0, none⟩) m cap) l2) := hid (HTk.out.on hbq)
            have y0 : (w4.drewN nq).cell? ⟨b0, o0 + m, none⟩ = some (.int .i64 x) := x0
            have hb5 : b0 < (w4.drewN nq).heap.size := hb0
            clear x0 hb0 HTk
            have hz5 : w4.heap.size = (w4.drewN nq).heap.size := rfl
            clear hbq u0 u1 a0 a1 a2 a3 a4 a5 r0 r1 r2 r3 r4 r5 s0 s1 s2 s3 s4 s5 hl1 hl2 hl3 CZ DZ RZ CQ DQ RQ
            generalize w4.drewN nq = w5 at *
            obtain ⟨u0, u1⟩ := U5.out.cells
            obtain ⟨v0, v1⟩ := U5.out.free
            obtain ⟨a0, a1, a2, a3, a4, a5⟩ := A5.out.cells
            obtain ⟨q0, q1, q2, q3, q4, q5⟩ := A5.out.free
            obtain ⟨r0, r1, r2, r3, r4, r5⟩ := R5.out.cells
            obtain ⟨s0, s1, s2, s3, s4, s5⟩ := R5.out.free
            have hl1 := A5.out.lt
            have hl2 := R5.out.lt
            have hl3 := U5.out.lt
            have hne1 : w.heap.size ≠ w3.heap.size := by have := HZM.out; omega
            have hne2 : w.heap.size + 1 ≠ w3.heap.size := by have := HZM.out; omega
            have U6 := hid (U5.out.set1 (.slice (some ⟨b0, o0, none⟩) m cap))
            have A6 := hid (A5.out.other (i := 1) hne1 (.slice (some ⟨b0, o0, none⟩) m cap))
            have R6 := hid (R5.out.other (i := 1) hne2 (.slice (some ⟨b0, o0, none⟩) m cap))
            have D6 := hid (D5.out.set (g := w3.heap.size) (fun e => Nat.lt_irrefl _ e.2) 1 (.slice (some ⟨b0, o0, none⟩) m cap))
            have C6 : Hid (Chg R w (w5.setCell ⟨w3.heap.size, 1, none⟩ (.slice (some ⟨b0, o0, none⟩) m cap))) := hid (C5.out.setCell (Or.inl (by have := HZM.out; show w.heap.size ≤ w3.heap.size; omega)) _)
            have HI6 : Hid (IAt (w5.setCell ⟨w3.heap.size, 1, none⟩ (.slice (some ⟨b0, o0, none⟩) m cap)) (.slice (some ⟨b0, o0, none⟩) m cap) l2) := by
              have hl := (L5.out.set U5.out (i := 1) (.slice (some ⟨b0, o0, none⟩) m cap)).at HLE.out
              exact hid (HT2.out ▸ Mem.LAt.take hl hml2)
            clear hne1 hne2
            go_upto_region 13 with fail
            clear u0 u1 v0 v1 a0 a1 a2 a3 a4 a5 q0 q1 q2 q3 q4 q5 r0 r1 r2 r3 r4 r5 s0 s1 s2 s3 s4 s5 hl1 hl2 hl3 y0 hb5
            generalize w5.setCell ⟨w3.heap.size, 1, none⟩ (.slice (some ⟨b0, o0, none⟩) m cap) = w6 at *
            obtain ⟨u0, u1⟩ := U6.out.cells
            obtain ⟨a0, a1, a2, a3, a4, a5⟩ := A6.out.cells
            have hPT := puttrunk_any (D6.out.since (Below.refl _ _)) SM.out (by omega) hd.trunk HWF.out ⟨T.next, l2⟩ (.slice (some ⟨b0, o0, none⟩) m cap) HI6.out
            have hA7 : ¬ Since (fun k => Q k ∧ k < w3.heap.size) w6 w6 w.heap.size := by
              rintro (e | e)
              · exact N6.out e.1
              · have := A6.out.lt; omega
            have hR7 : ¬ Since (fun k => Q k ∧ k < w3.heap.size) w6 w6 (w.heap.size + 1) := by
              rintro (e | e)
              · exact N7.out e.1
              · have := R6.out.lt; omega
            have hO7 : ∀ k, Since (fun k => Q k ∧ k < w3.heap.size) w6 w6 k → R k := by
              rintro k (e | e)
              · exact NO.out k e.1
              · exact HW.out k (Nat.le_trans C6.out.size e)
            have HPT := hid hPT
            have HA7 := hid hA7
            have HR7 := hid hR7
            have HO7 := hid hO7
            clear hPT hA7 hR7 hO7
            generalize Since (fun k => Q k ∧ k < w3.heap.size) w6 w6 = Q7 at *
            generalize putTrunk S1 hd.trunk ⟨T.next, l2⟩ = P7 at *
            obtain ⟨e2, S2⟩ := P7
            unfold trV at HPT
            simp only at hy HPT
            go_wp2_with fail
            refine HPT.out.mono ?_
            rintro e w7 ⟨rfl, hd7, hc7⟩
            have D7 := hid hd7
            have A7 := hid (A6.out.at hc7 HA7.out)
            have R7 := hid (R6.out.at hc7 HR7.out)
            have C7 := hid (C6.out.trans (hc7.mono (fun k _ e => HO7.out k e)))
            clear hd7 hc7 u0 u1 a0 a1 a2 a3 a4 a5
            obtain ⟨a0, a1, a2, a3, a4, a5⟩ := A7.out.cells
            obtain ⟨q0, q1, q2, q3, q4, q5⟩ := A7.out.free
            obtain ⟨r0, r1, r2, r3, r4, r5⟩ := R7.out.cells
            obtain ⟨s0, s1, s2, s3, s4, s5⟩ := R7.out.free
            have hl1 := A7.out.lt
            have hl2 := R7.out.lt
            by_cases h2 : e2 = 0
            · subst h2
              rw [if_neg (fun e => e rfl)] at hy
              subst hy
              go_wp2_with fail
              have HE := hid (take_fin hd D7.out HO7.out HA7.out HR7.out C7.out R7.out (hd.spare - 1))
              go_region
              go_wp2
              obtain ⟨⟨x0, x1, x2, x3, x4, x5⟩, CF, DF⟩ := HE.out
              refine @bodyPost_ret Tryz.prog Tryz.f35 (fun e w' => TakeGives R d b ((x, ⟨hd.mode, hd.pages, hd.trunk, hd.spare - 1, hd.root, hd.change⟩, 0), S2) w w' e) _ _ (takeV (x, ⟨hd.mode, hd.pages, hd.trunk, hd.spare - 1, hd.root, hd.change⟩, 0)) ?_ ?_ ?_
              · simp [results, takeV, hV, go_sem, x0, x1, x2, x3, x4, x5]
              · rfl
              · exact ⟨rfl, DF, CF⟩
            · rw [if_pos h2] at hy
              subst hy
              have h2' : (e2 != 0) = true := by simpa using h2
              clear h2
              have CF : Hid (Chg R w (put6z w7 (w.heap.size + 1))) := hid (chg_put6z C7.out (Or.inl (Nat.le_succ _)))
              have DF : Hid (DeskR R (put6z w7 (w.heap.size + 1)) d b S2) := hid ((desk_put6z D7.out HR7.out).wide HO7.out)
              have HF : Hid (Hb (w.heap.size + 1) hd0 (put6z w7 (w.heap.size + 1))) := hid R7.out.zero
              go_wp2
              obtain ⟨x0, x1, x2, x3, x4, x5⟩ := HF.out.zeros
              refine @bodyPost_ret Tryz.prog Tryz.f35 (fun e w' => TakeGives R d b ((0, hd0, e2), S2) w w' e) _ _ (takeV (0, hd0, e2)) ?_ ?_ ?_
              · simp [results, takeV, hV, hd0, go_sem, x0, x1, x2, x3, x4, x5]
              · rfl
              · exact ⟨rfl, DF.out, CF.out⟩
    · have hy := HY.out
      rw [to_err h1] at hy
      subst hy
      have h1' : (e1 != 0) = true := by simpa using h1
      clear h1
      clear HY
      go_wp2
      obtain ⟨x0, x1, x2, x3, x4, x5⟩ := RZ.out.zeros
      refine @bodyPost_ret Tryz.prog Tryz.f35 (fun e w' => TakeGives R d b ((0, hd0, e1), S1) w w' e) _ _ (takeV (0, hd0, e1)) ?_ ?_ ?_
      · simp [results, takeV, hV, hd0, go_sem, x0, x1, x2, x3, x4, x5]
      · rfl
      · exact ⟨rfl, DZ.out, CZ.out⟩
end Sh
end Go.Proofs.YtoifhcmgeackdaaGreatDoor
