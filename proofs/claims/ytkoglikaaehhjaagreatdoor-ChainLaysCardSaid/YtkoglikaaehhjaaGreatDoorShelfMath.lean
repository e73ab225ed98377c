/-
  Plain mathematics of layer 10 (shelf): pages by their numbers, Take and Give over them, what stays. No program in sight.
-/
import Derived.Test.YtkoglikaaehhjaaGreatDoorSpareInv
namespace Go.Proofs.YtkoglikaaehhjaaGreatDoor
namespace Sh
open Sp (Hd hd0 Tr noT okT okT_iff pageT decT dec_page dec_ok page_len badT takeNew takeTrunk zeros zeros_len last_split)
open Num (hid)
open Mem (Bs bs)
/-- Pages by their numbers, and how often they were written. -/
structure St where
  f : Int → Option Bs
  n : Nat
def St.set (S : St) (k : Int) (d : Bs) : St := ⟨fun j => if j = k then some d else S.f j, S.n + 1⟩
theorem set_same (S : St) (k : Int) (d : Bs) : (S.set k d).f k = some d := if_pos rfl
theorem set_other {S : St} {k j : Int} (h : j ≠ k) (d : Bs) : (S.set k d).f j = S.f j := if_neg h
theorem ne_in {x n : Int} {U : List Int} (hx : x ∈ U) (hn : n ∉ U) : x ≠ n := fun e => hn (e ▸ hx)
def St.get (S : St) (n : Int) : (Bs × Int) × St := match S.f n with | some x => ((x, 0), S) | none => (([], 21), S)
def St.put (S : St) (n : Int) (d : Bs) : Int × St := match S.f n with | some _ => if d.length ≠ 232 then (1, S) else (0, S.set n d) | none => (21, S)
theorem get_no {S : St} {n : Int} (h : S.f n = none) : S.get n = (([], 21), S) := by unfold St.get; rw [h]
theorem get_yes {S : St} {n : Int} {x : Bs} (h : S.f n = some x) : S.get n = ((x, 0), S) := by unfold St.get; rw [h]
theorem get_st (S : St) (n : Int) : (S.get n).2 = S := by unfold St.get; split <;> rfl
theorem put_no {S : St} {n : Int} {x : Bs} (h : S.f n = none) : S.put n x = (21, S) := by unfold St.put; rw [h]
theorem put_bad {S : St} {n : Int} {x y : Bs} (h : S.f n = some y) (h2 : x.length ≠ 232) : S.put n x = (1, S) := by unfold St.put; rw [h]; exact if_pos h2
theorem put_yes {S : St} {n : Int} {x y : Bs} (h : S.f n = some y) (h2 : x.length = 232) : S.put n x = (0, S.set n x) := by unfold St.put; rw [h]; exact if_neg (fun e => e h2)
def trunkAt (S : St) (n : Int) : (Tr × Int) × St := if (S.get n).1.2 ≠ 0 then ((noT, (S.get n).1.2), (S.get n).2) else if (decT (S.get n).1.1).2 ≠ 0 then ((noT, 30), (S.get n).2) else (((decT (S.get n).1.1).1, 0), (S.get n).2)
def putTrunk (S : St) (n : Int) (t : Tr) : Int × St := if okT t then S.put n (pageT t) else (1, S)
def takeOf (h : Hd) (r : (Tr × Int) × St) : (Int × Hd × Int) × St :=
  if r.1.2 ≠ 0 then ((0, hd0, r.1.2), r.2) else if badT h r.1.1 then ((0, hd0, 30), r.2) else if r.1.1.list.length = 0 then (takeTrunk h r.1.1.next, r.2) else
  if (putTrunk r.2 h.trunk ⟨r.1.1.next, r.1.1.list.dropLast⟩).1 ≠ 0 then ((0, hd0, (putTrunk r.2 h.trunk ⟨r.1.1.next, r.1.1.list.dropLast⟩).1), (putTrunk r.2 h.trunk ⟨r.1.1.next, r.1.1.list.dropLast⟩).2)
  else ((r.1.1.list.getLastD 0, { h with spare := h.spare - 1 }, 0), (putTrunk r.2 h.trunk ⟨r.1.1.next, r.1.1.list.dropLast⟩).2)
def takeM (h : Hd) (S : St) : (Int × Hd × Int) × St := if h.spare = 0 then (takeNew h, S) else takeOf h (trunkAt S h.trunk)
def trunkFor (h : Hd) (S : St) (n : Int) : (Int × Tr × Int) × St :=
  if h.trunk = 0 then ((n, ⟨0, []⟩, 0), S) else
  if (trunkAt S h.trunk).1.2 ≠ 0 then ((0, noT, (trunkAt S h.trunk).1.2), (trunkAt S h.trunk).2) else
  if (trunkAt S h.trunk).1.1.list.length < 50 then ((h.trunk, ⟨(trunkAt S h.trunk).1.1.next, (trunkAt S h.trunk).1.1.list ++ [n]⟩, 0), (trunkAt S h.trunk).2)
  else ((n, ⟨h.trunk, []⟩, 0), (trunkAt S h.trunk).2)
def giveOf (h : Hd) (r : (Int × Tr × Int) × St) : (Hd × Int) × St :=
  if r.1.2.2 ≠ 0 then ((hd0, r.1.2.2), r.2) else
  if (putTrunk r.2 r.1.1 r.1.2.1).1 ≠ 0 then ((hd0, (putTrunk r.2 r.1.1 r.1.2.1).1), (putTrunk r.2 r.1.1 r.1.2.1).2) else (({ h with trunk := r.1.1, spare := h.spare + 1 }, 0), (putTrunk r.2 r.1.1 r.1.2.1).2)
def giveM (h : Hd) (S : St) (n : Int) : (Hd × Int) × St :=
  if n < 1 ∨ h.pages ≤ n then ((hd0, 1), S) else if h.pages - 1 ≤ h.spare then ((hd0, 30), S) else giveOf h (trunkFor h S n)
/-- What a head's numbers keep to, whatever stands on the pages. -/
def Fit (h : Hd) : Prop := 1 ≤ h.pages ∧ h.pages ≤ 4096 ∧ (0 ≤ h.trunk ∧ h.trunk < h.pages) ∧ (0 ≤ h.spare ∧ h.spare ≤ h.pages)
/-- There are just the pages of the head. -/
def Dom (h : Hd) (S : St) : Prop := ∀ x, (∃ d, S.f x = some d) ↔ (1 ≤ x ∧ x < h.pages)
theorem Dom.yes {h : Hd} {S : St} (k : Dom h S) {x : Int} (h1 : 1 ≤ x) (h2 : x < h.pages) : ∃ d, S.f x = some d := (k x).2 ⟨h1, h2⟩
theorem Dom.no {h : Hd} {S : St} (k : Dom h S) {x : Int} (h1 : x < 1 ∨ h.pages ≤ x) : S.f x = none := by
  cases e : S.f x with
  | none => rfl
  | some d =>
    have := (k x).1 ⟨d, e⟩
    omega
theorem Dom.of {h h' : Hd} {S S' : St} (k : Dom h S) (hp : h'.pages = h.pages) (hs : ∀ x, (∃ d, S'.f x = some d) ↔ (∃ d, S.f x = some d)) : Dom h' S' := fun x => by rw [hs x, hp]; exact k x
theorem set_dom {S : St} {k : Int} {e d : Bs} (h : S.f k = some e) (x : Int) : (∃ c, (S.set k d).f x = some c) ↔ (∃ c, S.f x = some c) := by
  by_cases hx : x = k
  · subst hx
    exact ⟨fun _ => ⟨e, h⟩, fun _ => ⟨d, set_same _ _ _⟩⟩
  · rw [set_other hx]
/-- A page more. -/
theorem Dom.new {h : Hd} {S : St} (k : Dom h S) (hp : 1 ≤ h.pages) (d : Bs) : Dom { h with pages := h.pages + 1 } (S.set h.pages d) := by
  intro x
  show _ ↔ 1 ≤ x ∧ x < h.pages + 1
  by_cases hx : x = h.pages
  · subst hx
    exact ⟨fun _ => ⟨hp, by omega⟩, fun _ => ⟨d, set_same _ _ _⟩⟩
  · rw [set_other hx, k x]
    omega
theorem Dom.set {h : Hd} {S : St} (k : Dom h S) {x : Int} (h1 : 1 ≤ x) (h2 : x < h.pages) (d : Bs) : Dom h (S.set x d) := by
  obtain ⟨e, he⟩ := k.yes h1 h2
  exact k.of rfl (set_dom he)
/-! ### the pages that a chain of trunks has -/
inductive Free (S : St) : Int → List Int → Prop
  | none : Free S 0 []
  | trunk {t : Int} {T : Tr} {F : List Int} : t ≠ 0 → okT T = true → S.f t = some (pageT T) → Free S T.next F → Free S t (T.list.reverse ++ t :: F)
theorem Free.head {S : St} {t : Int} {F : List Int} (h : Free S t F) : (t = 0 ∧ F = []) ∨ (t ≠ 0 ∧ t ∈ F ∧ 0 < F.length) := by
  cases h with
  | none => exact Or.inl ⟨rfl, rfl⟩
  | trunk h1 _ _ _ => exact Or.inr ⟨h1, by simp, by simp; omega⟩
theorem Free.same {S S' : St} {t : Int} {F : List Int} (h : Free S t F) : (∀ x ∈ F, S'.f x = S.f x) → Free S' t F := by
  induction h with
  | none => exact fun _ => Free.none
  | trunk h1 h2 h3 _ ih =>
    rename_i t T F _
    intro hs
    exact Free.trunk h1 h2 ((hs t (by simp)).trans h3) (ih (fun x hx => hs x (by simp [hx])))
theorem Free.put {S : St} {n : Int} {d : Bs} {t : Int} {F : List Int} (h : Free S t F) (hn : n ∉ F) : Free (S.set n d) t F :=
  h.same (fun _ hx => set_other (ne_in hx hn) d)
structure Inv (h : Hd) (S : St) (U F : List Int) : Prop where
  fr : Free S h.trunk F
  sp : h.spare = F.length
  pg : h.pages = 1 + U.length + F.length
  nd : (U ++ F).Nodup
  rg : ∀ x ∈ U ++ F, 1 ≤ x ∧ x < h.pages
  dom : Dom h S
variable {h : Hd} {S : St} {U F : List Int}
theorem Inv.fit (k : Inv h S U F) (hp : h.pages ≤ 4096) : Fit h := by
  have h1 := k.sp
  have h2 := k.pg
  unfold Fit
  refine ⟨by omega, hp, ?_, by omega⟩
  rcases k.fr.head with ⟨h4, _⟩ | ⟨_, h4, _⟩
  · omega
  · have := k.rg _ (List.mem_append_right U h4)
    omega
theorem Inv.apart (k : Inv h S U F) {x : Int} (hx : x ∈ U) : x ∉ F := fun e => by
  have hnd := k.nd
  rw [List.nodup_append] at hnd
  exact hnd.2.2 _ hx _ e rfl
/-- A page in use is written. -/
theorem Inv.put (k : Inv h S U F) {x : Int} (hx : x ∈ U) (d : Bs) : Inv h (S.set x d) U F := by
  have hr := k.rg x (List.mem_append_left F hx)
  exact ⟨k.fr.put (k.apart hx), k.sp, k.pg, k.nd, k.rg, k.dom.set hr.1 hr.2 d⟩
theorem tat_free {t : Int} (hf : Free S t F) (ht : t ≠ 0) : ∃ T F0, okT T = true ∧ F = T.list.reverse ++ t :: F0 ∧ Free S T.next F0 ∧ S.f t = some (pageT T) ∧ trunkAt S t = ((T, 0), S) := by
  cases hf with
  | none => exact absurd rfl ht
  | trunk h1 h2 h3 h4 =>
    rename_i T F0
    refine ⟨T, F0, h2, rfl, h4, h3, ?_⟩
    unfold trunkAt
    rw [get_yes h3]
    simp only [dec_page h2]
    rfl
theorem ptr_free {n : Int} {T : Tr} {e : Bs} (ho : okT T = true) (he : S.f n = some e) : putTrunk S n T = (0, S.set n (pageT T)) := by
  unfold putTrunk
  rw [if_pos ho, put_yes he (page_len ho)]
theorem nodup_snoc {x : Int} (h : (U ++ x :: F).Nodup) : ((U ++ [x]) ++ F).Nodup := by
  rw [List.append_assoc]
  exact h
theorem not_bad {T : Tr} (h1 : T.next < h.pages) (h2 : ∀ x ∈ T.list, x < h.pages) : ¬ badT h T = true := by
  unfold badT
  intro e
  simp only [Bool.or_eq_true, decide_eq_true_eq, Bool.and_eq_true] at e
  rcases e with e | ⟨e1, e2⟩
  · omega
  · have := h2 _ (last_split (L := T.list) (by omega)).2
    omega
/-- New: Take, and the page is written. -/
theorem inv_take (k : Inv h S U F) (hp2 : F.length = 0 → h.pages ≤ 4095) (z : Bs) :
    ∃ n h' S' F', takeM h S = ((n, h', 0), S') ∧ S'.n ≤ S.n + 1 ∧ (∀ x, x ∈ U → (S'.set n z).f x = S.f x) ∧ n ∉ U ∧ 1 ≤ n ∧ n < h'.pages ∧ Inv h' (S'.set n z) (U ++ [n]) F' ∧ F'.length = F.length - 1 ∧ h'.pages = h.pages + (if F.length = 0 then 1 else 0) := by
  have h1 := k.sp
  have h2 := k.pg
  rcases k.fr.head with ⟨ht, hF⟩ | ⟨ht, hm, hlen⟩
  · subst hF
    have hs : h.spare = 0 := by rw [h1]; rfl
    have hpg := hp2 rfl
    have hnU : h.pages ∉ U := fun e => by
      have := (k.rg _ (List.mem_append_left [] e)).2
      omega
    refine ⟨h.pages, { h with pages := h.pages + 1 }, S, [], ?_, Nat.le_succ _, fun x hx => set_other (ne_in hx hnU) _, hnU, by omega, by show h.pages < h.pages + 1; omega, ?_, rfl, rfl⟩
    · unfold takeM takeNew
      rw [if_pos hs, if_neg (by omega)]
    · refine ⟨k.fr.put (by simp), hs, ?_, ?_, ?_, k.dom.new (by omega) z⟩
      · show h.pages + 1 = _
        simp at h2 ⊢
        omega
      · rw [List.append_nil]
        have hnd := k.nd
        rw [List.append_nil] at hnd
        rw [List.nodup_append]
        refine ⟨hnd, by simp, fun a ha b hb => ?_⟩
        have := (k.rg a (List.mem_append_left [] ha)).2
        simp at hb
        omega
      · intro x hx
        rw [List.append_nil] at hx
        show 1 ≤ x ∧ x < h.pages + 1
        rcases List.mem_append.1 hx with hx | hx
        · have := k.rg x (List.mem_append_left [] hx); omega
        · simp at hx; omega
  · have hs : ¬ h.spare = 0 := by omega
    obtain ⟨T, F0, ho, hF, hf0, hg, hta⟩ := tat_free k.fr ht
    have hFl : F.length = T.list.length + 1 + F0.length := by rw [hF]; simp; omega
    have htr := k.rg _ (List.mem_append_right U hm)
    have hnext : T.next < h.pages := by
      rcases hf0.head with ⟨e, _⟩ | ⟨_, e, _⟩
      · omega
      · exact (k.rg _ (List.mem_append_right U (by rw [hF]; simp [e]))).2
    have hlist : ∀ x ∈ T.list, x < h.pages := fun x hx => (k.rg _ (List.mem_append_right U (by rw [hF]; simp [hx]))).2
    have hbad := not_bad hnext hlist
    have hndF : (h.trunk :: F0).Nodup := by
      have hnd := k.nd
      rw [hF, List.nodup_append] at hnd
      have := hnd.2.1
      rw [List.nodup_append] at this
      exact this.2.1
    by_cases hz : T.list.length = 0
    · have hnil : T.list = [] := List.length_eq_zero_iff.1 hz
      rw [hnil] at hF
      simp at hF
      have hdec : decide (h.spare - 1 = 0) = decide (T.next = 0) := by
        rcases hf0.head with ⟨e, e2⟩ | ⟨e, _, e2⟩
        · rw [decide_eq_true (by rw [e2] at hFl; simp at hFl; omega), decide_eq_true e]
        · rw [decide_eq_false (by omega), decide_eq_false e]
      have hnU : h.trunk ∉ U := fun e => k.apart e hm
      refine ⟨h.trunk, { h with trunk := T.next, spare := h.spare - 1 }, S, F0, ?_, Nat.le_succ _, fun x hx => set_other (ne_in hx hnU) _, hnU, htr.1, htr.2, ?_, by omega, ?_⟩
      · unfold takeM takeOf
        rw [if_neg hs, hta, if_neg (fun e => e rfl), if_neg (by simpa using hbad), if_pos hz]
        unfold takeTrunk
        simp only
        rw [if_neg (by simpa using hdec)]
      · refine ⟨hf0.put (List.nodup_cons.1 hndF).1, by show h.spare - 1 = _; omega, ?_, ?_, ?_, (k.dom.set htr.1 htr.2 z).of rfl (fun _ => Iff.rfl)⟩
        · show h.pages = _
          rw [List.length_append, List.length_singleton]
          omega
        · have hnd := k.nd
          rw [hF] at hnd
          exact nodup_snoc hnd
        · intro x hx
          refine k.rg x ?_
          rw [hF]
          rw [List.append_assoc] at hx
          exact hx
      · rw [if_neg (by omega)]; show h.pages = _; omega
    · obtain ⟨hsp, hmem⟩ := last_split hz
      have hokL := (okT_iff T).1 ho
      have ho2 : okT ⟨T.next, T.list.dropLast⟩ = true := by
        rw [okT_iff]
        refine ⟨hokL.1, ?_, fun x hx => hokL.2.2 x (List.dropLast_subset _ hx)⟩
        rw [List.length_dropLast]
        have := hokL.2.1
        omega
      have hF2 : F = T.list.getLastD 0 :: (T.list.dropLast.reverse ++ h.trunk :: F0) := by
        rw [hF]
        conv => lhs; rw [hsp]
        simp
      have hput := ptr_free (S := S) (n := h.trunk) ho2 hg
      have hnF : T.list.getLastD 0 ∈ F := by rw [hF2]; simp
      have hnU : T.list.getLastD 0 ∉ U := fun e => k.apart e hnF
      have htU : h.trunk ∉ U := fun e => k.apart e hm
      have hnr := k.rg _ (List.mem_append_right U hnF)
      have hndG : (T.list.getLastD 0 :: (T.list.dropLast.reverse ++ h.trunk :: F0)).Nodup := by
        have hnd := k.nd
        rw [hF2, List.nodup_append] at hnd
        exact hnd.2.1
      refine ⟨T.list.getLastD 0, { h with spare := h.spare - 1 }, S.set h.trunk (pageT ⟨T.next, T.list.dropLast⟩), T.list.dropLast.reverse ++ h.trunk :: F0, ?_, Nat.le_refl _, fun x hx => ?_, hnU, hnr.1, hnr.2, ?_, ?_, ?_⟩
      · unfold takeM takeOf
        rw [if_neg hs, hta, if_neg (fun e => e rfl), if_neg (by simpa using hbad), if_neg hz]
        simp only [hput]
        rfl
      · rw [set_other (ne_in hx hnU), set_other (ne_in hx htU)]
      · have hnd := k.nd
        refine ⟨?_, ?_, ?_, ?_, ?_, ?_⟩
        · refine Free.put ?_ (List.nodup_cons.1 hndG).1
          exact Free.trunk (T := ⟨T.next, T.list.dropLast⟩) ht ho2 (set_same _ _ _) (hf0.put (List.nodup_cons.1 hndF).1)
        · show h.spare - 1 = _
          rw [hF2] at h1
          simp at h1 ⊢
          omega
        · show h.pages = _
          rw [hF2] at h2
          simp at h2 ⊢
          omega
        · rw [hF2] at hnd
          exact nodup_snoc hnd
        · intro x hx
          refine k.rg x ?_
          rw [hF2]
          rw [List.append_assoc] at hx
          exact hx
        · exact ((k.dom.set htr.1 htr.2 _).set hnr.1 hnr.2 z).of rfl (fun _ => Iff.rfl)
      · rw [hF2]; simp
      · rw [if_neg (by omega)]; show h.pages = _; omega
/-- Give of a page that is used. -/
theorem inv_give (k : Inv h S U F) (hp : h.pages ≤ 4096) {i : Nat} (hi : i < U.length) :
    ∃ h' S', giveM h S U[i] = ((h', 0), S') ∧ S'.n ≤ S.n + 1 ∧ (∀ x, x ∈ U.take i ++ U.drop (i + 1) → S'.f x = S.f x) ∧ Inv h' S' (U.take i ++ U.drop (i + 1)) (U[i] :: F) ∧ h'.pages = h.pages := by
  have h1 := k.sp
  have h2 := k.pg
  have hU : U = U.take i ++ U[i] :: U.drop (i + 1) := by simp
  have hn := k.rg U[i] (List.mem_append_left F (List.getElem_mem hi))
  have hnF : U[i] ∉ F := k.apart (List.getElem_mem hi)
  have hnd2 : ((U.take i ++ U.drop (i + 1)) ++ (U[i] :: F)).Nodup := by
    have hnd := k.nd
    have hperm : (U ++ F).Perm ((U.take i ++ U.drop (i + 1)) ++ (U[i] :: F)) := by
      have e1 : U ++ F = U.take i ++ U[i] :: (U.drop (i + 1) ++ F) := by
        rw [← List.cons_append, ← List.append_assoc, ← hU]
      rw [e1]
      refine List.perm_middle.trans ?_
      rw [← List.append_assoc]
      exact List.perm_middle.symm
    exact hperm.nodup hnd
  have hrg : ∀ x ∈ (U.take i ++ U.drop (i + 1)) ++ (U[i] :: F), 1 ≤ x ∧ x < h.pages := by
    intro x hx
    refine k.rg x ?_
    rcases List.mem_append.1 hx with hx | hx
    · refine List.mem_append_left F ?_
      rcases List.mem_append.1 hx with hx | hx
      · exact List.mem_of_mem_take hx
      · exact List.mem_of_mem_drop hx
    · rcases List.mem_cons.1 hx with rfl | hx
      · exact List.mem_append_left F (List.getElem_mem hi)
      · exact List.mem_append_right U hx
  have hlenU : (U.take i ++ U.drop (i + 1)).length + 1 = U.length := by
    rw [List.length_append, List.length_take, List.length_drop]
    omega
  have hout : ∀ x, x ∈ U.take i ++ U.drop (i + 1) → x ∉ U[i] :: F := fun x hx e => by
    have := hnd2
    rw [List.nodup_append] at this
    exact this.2.2 _ hx _ e rfl
  generalize hx : U[i] = n at *
  have key : ∀ (a : Int) (T : Tr), okT T = true → trunkFor h S n = ((a, T, 0), S) → a ∈ n :: F → Free (S.set a (pageT T)) a (n :: F) →
      ∃ h' S', giveM h S n = ((h', 0), S') ∧ S'.n ≤ S.n + 1 ∧ (∀ x, x ∈ U.take i ++ U.drop (i + 1) → S'.f x = S.f x) ∧ Inv h' S' (U.take i ++ U.drop (i + 1)) (n :: F) ∧ h'.pages = h.pages := by
    intro a T ho htf ha hfree
    have har := hrg a (List.mem_append_right _ ha)
    obtain ⟨e, he⟩ := k.dom.yes har.1 har.2
    refine ⟨{ h with trunk := a, spare := h.spare + 1 }, S.set a (pageT T), ?_, Nat.le_refl _, fun x hx => set_other (fun e => hout x hx (by rw [e]; exact ha)) _, ?_, rfl⟩
    · unfold giveM giveOf
      rw [if_neg (by omega), if_neg (by omega), htf]
      simp only [ptr_free (S := S) (n := a) ho he]
      rfl
    · refine ⟨hfree, ?_, ?_, hnd2, hrg, (k.dom.set har.1 har.2 _).of rfl (fun _ => Iff.rfl)⟩
      · show h.spare + 1 = _
        simp
        omega
      · show h.pages = _
        simp only [List.length_cons]
        omega
  rcases k.fr.head with ⟨ht, hF⟩ | ⟨ht, hm, hlen⟩
  · subst hF
    have ho : okT ⟨h.trunk, []⟩ = true := by rw [ht]; rfl
    refine key n ⟨h.trunk, []⟩ ho ?_ (by simp) ?_
    · unfold trunkFor
      rw [if_pos ht, ht]
    · have := Free.trunk (S := S.set n (pageT ⟨h.trunk, []⟩)) (t := n) (T := ⟨h.trunk, []⟩) (F := []) (by omega) ho (set_same _ _ _) (by show Free _ h.trunk []; rw [ht]; exact Free.none)
      exact this
  · obtain ⟨T, F0, ho, hF, hf0, hg, hta⟩ := tat_free k.fr ht
    have hokL := (okT_iff T).1 ho
    have hndF : (h.trunk :: F0).Nodup := by
      have hnd := k.nd
      rw [hF, List.nodup_append] at hnd
      have := hnd.2.1
      rw [List.nodup_append] at this
      exact this.2.1
    by_cases h5 : T.list.length < 50
    · have ho2 : okT ⟨T.next, T.list ++ [n]⟩ = true := by
        rw [okT_iff]
        refine ⟨hokL.1, by simp; omega, fun x hx => ?_⟩
        rcases List.mem_append.1 hx with hx | hx
        · exact hokL.2.2 x hx
        · simp at hx; omega
      refine key h.trunk ⟨T.next, T.list ++ [n]⟩ ho2 ?_ (by simp [hm]) ?_
      · unfold trunkFor
        rw [if_neg ht, hta, if_neg (fun e => e rfl), if_pos h5]
      · have := Free.trunk (S := S.set h.trunk (pageT ⟨T.next, T.list ++ [n]⟩)) (t := h.trunk) (T := ⟨T.next, T.list ++ [n]⟩) (F := F0) ht ho2 (set_same _ _ _) (hf0.put (List.nodup_cons.1 hndF).1)
        rw [hF]
        simpa using this
    · have htr := k.rg _ (List.mem_append_right U hm)
      have ho2 : okT ⟨h.trunk, []⟩ = true := by
        rw [okT_iff]
        exact ⟨by show 0 ≤ h.trunk ∧ h.trunk < 4096; omega, by simp, fun x hx => by simp at hx⟩
      refine key n ⟨h.trunk, []⟩ ho2 ?_ (by simp) ?_
      · unfold trunkFor
        rw [if_neg ht, hta, if_neg (fun e => e rfl), if_neg h5]
      · exact Free.trunk (S := S.set n (pageT ⟨h.trunk, []⟩)) (t := n) (T := ⟨h.trunk, []⟩) (F := F) (by omega) ho2 (set_same _ _ _) (k.fr.put hnF)
theorem inv_new : Inv ⟨1, 1, 0, 0, 0, 0⟩ ⟨fun _ => none, 0⟩ [] [] := by
  refine ⟨Free.none, rfl, rfl, List.nodup_nil, fun x hx => by simp at hx, fun x => ?_⟩
  constructor
  · rintro ⟨d, hd⟩
    cases hd
  · intro hx
    show _
    have : (1 : Int) ≤ x ∧ x < 1 := hx
    omega
end Sh
end Go.Proofs.YtkoglikaaehhjaaGreatDoor
