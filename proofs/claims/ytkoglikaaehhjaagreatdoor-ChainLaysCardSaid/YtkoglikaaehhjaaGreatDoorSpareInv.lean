/-
  Plain mathematics of layer 9: which pages are free; Take and Give keep it so. No program in sight.
-/
import Derived.Test.YtkoglikaaehhjaaGreatDoorSpareMath
namespace Go.Proofs.YtkoglikaaehhjaaGreatDoor
namespace Sp
open Num (hid)
open Mem (Bs bs)
/-- The pages that a chain of trunks has, the ones that are taken first first. -/
inductive Free (B : Book) : Int → List Int → Prop
  | none : Free B 0 []
  | trunk {t : Int} {T : Tr} {F : List Int} : t ≠ 0 → okT T = true → getB B t = pageT T → Free B T.next F → Free B t (T.list.reverse ++ t :: F)
theorem Free.head {B : Book} {t : Int} {F : List Int} (h : Free B t F) : (t = 0 ∧ F = []) ∨ (t ≠ 0 ∧ t ∈ F ∧ 0 < F.length) := by
  cases h with
  | none => exact Or.inl ⟨rfl, rfl⟩
  | trunk h1 _ _ _ => exact Or.inr ⟨h1, by simp, by simp; omega⟩
theorem Free.put {B : Book} {n : Int} {d : Bs} {t : Int} {F : List Int} (h : Free B t F) (hn : n ∉ F) : Free (putB B n d) t F := by
  induction h with
  | none => exact Free.none
  | trunk h1 h2 h3 _ ih =>
    rename_i t T F _
    have hne : t ≠ n := fun e => hn (by rw [e]; simp)
    exact Free.trunk h1 h2 (by rw [get_other hne]; exact h3) (ih (fun e => hn (by simp [e])))
structure Inv (h : Hd) (B : Book) (U F : List Int) : Prop where
  fr : Free B h.trunk F
  sp : h.spare = F.length
  pg : h.pages = 1 + U.length + F.length
  nd : (U ++ F).Nodup
  rg : ∀ x ∈ U ++ F, 1 ≤ x ∧ x < h.pages
  mode : h.mode = 1 ∨ h.mode = 2
  root : h.root = 0
variable {h : Hd} {B : Book} {U F : List Int} {l : Int}
theorem Inv.fit (k : Inv h B U F) (hp : h.pages ≤ 4096) : Fit h := by
  have h1 := k.sp
  have h2 := k.pg
  have h3 := k.root
  unfold Fit
  refine ⟨k.mode, by omega, hp, ?_, by omega, by omega, ?_⟩
  · rcases k.fr.head with ⟨h4, _⟩ | ⟨_, h4, _⟩
    · omega
    · have := k.rg _ (List.mem_append_right U h4)
      omega
  · rcases k.fr.head with ⟨h4, h5⟩ | ⟨h4, _, h5⟩
    · rw [h5] at h1
      simp at h1
      omega
    · omega
theorem tat_free {t : Int} (hf : Free B t F) (ht : t ≠ 0) (hl : l ≠ 0) : ∃ T F0, okT T = true ∧ F = T.list.reverse ++ t :: F0 ∧ Free B T.next F0 ∧ getB B t = pageT T ∧ trunkAt ⟨B, l⟩ t = ((T, 0), ⟨B, l - 1⟩) := by
  cases hf with
  | none => exact absurd rfl ht
  | trunk h1 h2 h3 h4 =>
    rename_i T F0
    refine ⟨T, F0, h2, rfl, h4, h3, ?_⟩
    have e : St.get ⟨B, l⟩ t = ((pageT T, 0), ⟨B, l - 1⟩) := by unfold St.get; rw [if_neg hl, h3]
    unfold trunkAt
    rw [e]
    simp only [dec_page h2]
    rfl
theorem ptr_free {n : Int} {T : Tr} (ho : okT T = true) (hl : l ≠ 0) : putTrunk ⟨B, l⟩ n T = (0, ⟨putB B n (pageT T), l - 1⟩) := by
  unfold putTrunk St.put
  rw [if_pos ho, if_neg hl]
theorem ptr_stop {n : Int} {T : Tr} (ho : okT T = true) : putTrunk ⟨B, 0⟩ n T = (11, ⟨B, 0⟩) := by
  unfold putTrunk St.put
  rw [if_pos ho, if_pos rfl]
theorem nodup_snoc {x : Int} (h : (U ++ x :: F).Nodup) : ((U ++ [x]) ++ F).Nodup := by
  rw [List.append_assoc]
  exact h
theorem last_split {L : List Int} (h : L.length ≠ 0) : L = L.dropLast ++ [L.getLastD 0] ∧ L.getLastD 0 ∈ L := by
  have hne : L ≠ [] := fun e => h (by rw [e]; rfl)
  have e1 : L.getLastD 0 = L.getLast hne := by
    rw [List.getLastD_eq_getLast?, List.getLast?_eq_some_getLast hne]
    rfl
  rw [e1]
  exact ⟨(List.dropLast_concat_getLast hne).symm, List.getLast_mem hne⟩
theorem not_bad {T : Tr} (h1 : T.next < h.pages) (h2 : ∀ x ∈ T.list, x < h.pages) : ¬ badT h T = true := by
  unfold badT
  intro e
  simp only [Bool.or_eq_true, decide_eq_true_eq, Bool.and_eq_true] at e
  rcases e with e | ⟨e1, e2⟩
  · omega
  · have := h2 _ (last_split (L := T.list) (by omega)).2
    omega
/-- Take, from a head on whose free pages are F. -/
theorem inv_take (k : Inv h B U F) (hp : h.pages ≤ 4096) (hp2 : F.length = 0 → h.pages ≤ 4095) (hl : l < 0 ∨ 2 ≤ l) :
    ∃ n h' B' l' F', takeM h ⟨B, l⟩ = ((n, h', 0), ⟨B', l'⟩) ∧ l - 2 ≤ l' ∧ l' ≤ l ∧ B'.length ≤ B.length + 1 ∧ n ∉ U ∧ 1 ≤ n ∧ n < h'.pages ∧ Inv h' B' (U ++ [n]) F' ∧ h'.mode = h.mode ∧ h'.change = h.change ∧ F'.length = F.length - 1 ∧ h'.spare = (F.length : Int) - 1 + (if F.length = 0 then 1 else 0) ∧ h'.pages = h.pages + (if F.length = 0 then 1 else 0) ∧ (0 < F.length → n ∈ F) := by
  have h1 := k.sp
  have h2 := k.pg
  rcases k.fr.head with ⟨ht, hF⟩ | ⟨ht, hm, hlen⟩
  · subst hF
    have hs : h.spare = 0 := by rw [h1]; rfl
    have hpg := hp2 rfl
    refine ⟨h.pages, { h with pages := h.pages + 1 }, B, l, [], ?_, by omega, by omega, Nat.le_succ _, fun e => ?_, by omega, by show h.pages < h.pages + 1; omega, ?_, rfl, rfl, rfl, ?_, rfl, fun e => absurd e (by simp)⟩
    · unfold takeM takeNew
      rw [if_pos hs, if_neg (by omega)]
    · have := (k.rg _ (List.mem_append_left [] e)).2
      omega
    · refine ⟨k.fr, hs, ?_, ?_, ?_, k.mode, k.root⟩
      · show h.pages + 1 = _
        simp at h2 ⊢
        omega
      · rw [List.append_nil]
        have hnd := k.nd
        rw [List.append_nil] at hnd
        rw [List.nodup_append]
        refine ⟨hnd, by simp, fun a ha b hb => ?_⟩
        have := (k.rg a (List.mem_append_left [] ha)).2
        simp at hb
        omega
      · intro x hx
        rw [List.append_nil] at hx
        show 1 ≤ x ∧ x < h.pages + 1
        rcases List.mem_append.1 hx with hx | hx
        · have := k.rg x (List.mem_append_left [] hx); omega
        · simp at hx; omega
    · rw [hs]; rfl
  · have hs : ¬ h.spare = 0 := by omega
    obtain ⟨T, F0, ho, hF, hf0, hg, hta⟩ := tat_free (l := l) k.fr ht (by omega)
    have hFl : F.length = T.list.length + 1 + F0.length := by rw [hF]; simp; omega
    have hnext : T.next < h.pages := by
      rcases hf0.head with ⟨e, _⟩ | ⟨_, e, _⟩
      · omega
      · exact (k.rg _ (List.mem_append_right U (by rw [hF]; simp [e]))).2
    have hlist : ∀ x ∈ T.list, x < h.pages := fun x hx => (k.rg _ (List.mem_append_right U (by rw [hF]; simp [hx]))).2
    have hbad := not_bad hnext hlist
    by_cases hz : T.list.length = 0
    · have hnil : T.list = [] := List.length_eq_zero_iff.1 hz
      rw [hnil] at hF
      simp at hF
      have hdec : decide (h.spare - 1 = 0) = decide (T.next = 0) := by
        rcases hf0.head with ⟨e, e2⟩ | ⟨e, _, e2⟩
        · rw [decide_eq_true (by rw [e2] at hFl; simp at hFl; omega), decide_eq_true e]
        · rw [decide_eq_false (by omega), decide_eq_false e]
      refine ⟨h.trunk, { h with trunk := T.next, spare := h.spare - 1 }, B, l - 1, F0, ?_, by omega, by omega, Nat.le_succ _, ?_, ?_, ?_, ?_, rfl, rfl, by omega, ?_, ?_, fun _ => hm⟩
      · unfold takeM takeOf
        rw [if_neg hs, hta, if_neg (fun e => e rfl), if_neg (by simpa using hbad), if_pos hz]
        unfold takeTrunk
        simp only
        rw [if_neg (by simpa using hdec)]
      · intro e
        have hnd := k.nd
        rw [List.nodup_append] at hnd
        exact hnd.2.2 _ e _ hm rfl
      · exact (k.rg _ (List.mem_append_right U hm)).1
      · exact (k.rg _ (List.mem_append_right U hm)).2
      · refine ⟨hf0, by show h.spare - 1 = _; omega, ?_, ?_, ?_, k.mode, k.root⟩
        · show h.pages = _
          rw [List.length_append, List.length_singleton]
          omega
        · have hnd := k.nd
          rw [hF] at hnd
          exact nodup_snoc hnd
        · intro x hx
          refine k.rg x ?_
          rw [hF]
          rw [List.append_assoc] at hx
          exact hx
      · rw [if_neg (by omega)]; show h.spare - 1 = _; omega
      · rw [if_neg (by omega)]; show h.pages = _; omega
    · obtain ⟨hsp, hmem⟩ := last_split hz
      have hokL := (okT_iff T).1 ho
      have ho2 : okT ⟨T.next, T.list.dropLast⟩ = true := by
        rw [okT_iff]
        refine ⟨hokL.1, ?_, fun x hx => hokL.2.2 x (List.dropLast_subset _ hx)⟩
        rw [List.length_dropLast]
        have := hokL.2.1
        omega
      have hF2 : F = T.list.getLastD 0 :: (T.list.dropLast.reverse ++ h.trunk :: F0) := by
        rw [hF]
        conv => lhs; rw [hsp]
        simp
      have hput := ptr_free (B := B) (l := l - 1) (n := h.trunk) ho2 (by omega)
      refine ⟨T.list.getLastD 0, { h with spare := h.spare - 1 }, putB B h.trunk (pageT ⟨T.next, T.list.dropLast⟩), l - 1 - 1, T.list.dropLast.reverse ++ h.trunk :: F0, ?_, by omega, by omega, put_len _ _ _, ?_, ?_, ?_, ?_, rfl, rfl, ?_, ?_, ?_, fun _ => ?_⟩
      · unfold takeM takeOf
        rw [if_neg hs, hta, if_neg (fun e => e rfl), if_neg (by simpa using hbad), if_neg hz]
        simp only [hput]
        rfl
      · intro e
        have hnd := k.nd
        rw [List.nodup_append] at hnd
        exact hnd.2.2 _ e _ (by rw [hF2]; simp) rfl
      · exact (k.rg _ (List.mem_append_right U (by rw [hF2]; simp))).1
      · exact (k.rg _ (List.mem_append_right U (by rw [hF2]; simp))).2
      · have hnd := k.nd
        have hndF : (h.trunk :: F0).Nodup := by
          rw [hF, List.nodup_append] at hnd
          have := hnd.2.1
          rw [List.nodup_append] at this
          exact this.2.1
        refine ⟨?_, ?_, ?_, ?_, ?_, k.mode, k.root⟩
        · exact Free.trunk (T := ⟨T.next, T.list.dropLast⟩) ht ho2 (get_same _ _ _) (hf0.put (List.nodup_cons.1 hndF).1)
        · show h.spare - 1 = _
          rw [hF2] at h1
          simp at h1 ⊢
          omega
        · show h.pages = _
          rw [hF2] at h2
          simp at h2 ⊢
          omega
        · rw [hF2] at hnd
          exact nodup_snoc hnd
        · intro x hx
          refine k.rg x ?_
          rw [hF2]
          rw [List.append_assoc] at hx
          exact hx
      · rw [hF2]; simp
      · rw [if_neg (by omega)]; show h.spare - 1 = _; omega
      · rw [if_neg (by omega)]; show h.pages = _; omega
      · rw [hF2]; simp
/-- Give of a page that is used. -/
theorem inv_give (k : Inv h B U F) (hp : h.pages ≤ 4096) (hl : l < 0 ∨ 2 ≤ l) {i : Nat} (hi : i < U.length) :
    ∃ h' B' l', giveM h ⟨B, l⟩ U[i] = ((h', 0), ⟨B', l'⟩) ∧ l - 2 ≤ l' ∧ l' ≤ l ∧ B'.length ≤ B.length + 1 ∧ Inv h' B' (U.take i ++ U.drop (i + 1)) (U[i] :: F) ∧ h'.mode = h.mode ∧ h'.change = h.change ∧ h'.pages = h.pages ∧ h'.spare = h.spare + 1 := by
  have h1 := k.sp
  have h2 := k.pg
  have hU : U = U.take i ++ U[i] :: U.drop (i + 1) := by simp
  have hn := k.rg U[i] (List.mem_append_left F (List.getElem_mem hi))
  have hnF : U[i] ∉ F := by
    intro e
    have hnd := k.nd
    rw [List.nodup_append] at hnd
    exact hnd.2.2 _ (List.getElem_mem hi) _ e rfl
  have hnd2 : ((U.take i ++ U.drop (i + 1)) ++ (U[i] :: F)).Nodup := by
    have hnd := k.nd
    have hperm : (U ++ F).Perm ((U.take i ++ U.drop (i + 1)) ++ (U[i] :: F)) := by
      have e1 : U ++ F = U.take i ++ U[i] :: (U.drop (i + 1) ++ F) := by
        rw [← List.cons_append, ← List.append_assoc, ← hU]
      rw [e1]
      refine List.perm_middle.trans ?_
      rw [← List.append_assoc]
      exact List.perm_middle.symm
    exact hperm.nodup hnd
  have hrg : ∀ x ∈ (U.take i ++ U.drop (i + 1)) ++ (U[i] :: F), 1 ≤ x ∧ x < h.pages := by
    intro x hx
    refine k.rg x ?_
    rcases List.mem_append.1 hx with hx | hx
    · refine List.mem_append_left F ?_
      rcases List.mem_append.1 hx with hx | hx
      · exact List.mem_of_mem_take hx
      · exact List.mem_of_mem_drop hx
    · rcases List.mem_cons.1 hx with rfl | hx
      · exact List.mem_append_left F (List.getElem_mem hi)
      · exact List.mem_append_right U hx
  have hlenU : (U.take i ++ U.drop (i + 1)).length + 1 = U.length := by
    rw [List.length_append, List.length_take, List.length_drop]
    omega
  generalize hx : U[i] = n at *
  have key : ∀ (a : Int) (T : Tr) (l1 : Int), okT T = true → trunkFor h ⟨B, l⟩ n = ((a, T, 0), ⟨B, l1⟩) → l - 1 ≤ l1 → l1 ≤ l → l1 ≠ 0 → Free (putB B a (pageT T)) a (n :: F) →
      ∃ h' B' l', giveM h ⟨B, l⟩ n = ((h', 0), ⟨B', l'⟩) ∧ l - 2 ≤ l' ∧ l' ≤ l ∧ B'.length ≤ B.length + 1 ∧ Inv h' B' (U.take i ++ U.drop (i + 1)) (n :: F) ∧ h'.mode = h.mode ∧ h'.change = h.change ∧ h'.pages = h.pages ∧ h'.spare = h.spare + 1 := by
    intro a T l1 ho htf hl1 hl2 hl3 hfree
    refine ⟨{ h with trunk := a, spare := h.spare + 1 }, putB B a (pageT T), l1 - 1, ?_, by omega, by omega, put_len _ _ _, ?_, rfl, rfl, rfl, rfl⟩
    · unfold giveM giveOf
      rw [if_neg (by omega), if_neg (by omega), htf]
      simp only [ptr_free (B := B) (l := l1) (n := a) ho hl3]
      rfl
    · refine ⟨hfree, ?_, ?_, hnd2, hrg, k.mode, k.root⟩
      · show h.spare + 1 = _
        simp
        omega
      · show h.pages = _
        simp only [List.length_cons]
        omega
  rcases k.fr.head with ⟨ht, hF⟩ | ⟨ht, hm, hlen⟩
  · subst hF
    have ho : okT ⟨h.trunk, []⟩ = true := by rw [ht]; rfl
    refine key n ⟨h.trunk, []⟩ l ho ?_ (by omega) (by omega) (by omega) ?_
    · unfold trunkFor
      rw [if_pos ht, ht]
    · have := Free.trunk (B := putB B n (pageT ⟨h.trunk, []⟩)) (t := n) (T := ⟨h.trunk, []⟩) (F := []) (by omega) ho (get_same _ _ _) (by show Free _ h.trunk []; rw [ht]; exact Free.none)
      exact this
  · obtain ⟨T, F0, ho, hF, hf0, hg, hta⟩ := tat_free (l := l) k.fr ht (by omega)
    have hokL := (okT_iff T).1 ho
    have hndF : (h.trunk :: F0).Nodup := by
      have hnd := k.nd
      rw [hF, List.nodup_append] at hnd
      have := hnd.2.1
      rw [List.nodup_append] at this
      exact this.2.1
    by_cases h5 : T.list.length < 50
    · have ho2 : okT ⟨T.next, T.list ++ [n]⟩ = true := by
        rw [okT_iff]
        refine ⟨hokL.1, by simp; omega, fun x hx => ?_⟩
        rcases List.mem_append.1 hx with hx | hx
        · exact hokL.2.2 x hx
        · simp at hx; omega
      refine key h.trunk ⟨T.next, T.list ++ [n]⟩ (l - 1) ho2 ?_ (by omega) (by omega) (by omega) ?_
      · unfold trunkFor
        rw [if_neg ht, hta, if_neg (fun e => e rfl), if_pos h5]
      · have := Free.trunk (B := putB B h.trunk (pageT ⟨T.next, T.list ++ [n]⟩)) (t := h.trunk) (T := ⟨T.next, T.list ++ [n]⟩) (F := F0) ht ho2 (get_same _ _ _) (hf0.put (List.nodup_cons.1 hndF).1)
        rw [hF]
        simpa using this
    · have htr := k.rg _ (List.mem_append_right U hm)
      have ho2 : okT ⟨h.trunk, []⟩ = true := by
        rw [okT_iff]
        exact ⟨by show 0 ≤ h.trunk ∧ h.trunk < 4096; omega, by simp, fun x hx => by simp at hx⟩
      refine key n ⟨h.trunk, []⟩ (l - 1) ho2 ?_ (by omega) (by omega) (by omega) ?_
      · unfold trunkFor
        rw [if_neg ht, hta, if_neg (fun e => e rfl), if_neg h5]
      · exact Free.trunk (B := putB B n (pageT ⟨h.trunk, []⟩)) (t := n) (T := ⟨h.trunk, []⟩) (F := F) (by omega) ho2 (get_same _ _ _) (k.fr.put hnF)
/-- The store's errors: Give. -/
theorem fail_give (k : Inv h B U F) (hp : h.pages ≤ 4096) (hF0 : 0 < F.length) {i : Nat} (hi : i < U.length) (hl : l = 0 ∨ l = 1) : ∃ S', giveM h ⟨B, l⟩ U[i] = ((hd0, 11), S') := by
  have h1 := k.sp
  have h2 := k.pg
  have hn := k.rg U[i] (List.mem_append_left F (List.getElem_mem hi))
  generalize U[i] = n at *
  rcases k.fr.head with ⟨_, hF⟩ | ⟨ht, hm, hlen⟩
  · rw [hF] at hF0; exact absurd hF0 (by simp)
  · rcases hl with rfl | rfl
    · refine ⟨⟨B, 0⟩, ?_⟩
      have e : trunkFor h ⟨B, 0⟩ n = ((0, noT, 11), ⟨B, 0⟩) := by
        unfold trunkFor
        rw [if_neg ht]
        have : trunkAt ⟨B, 0⟩ h.trunk = ((noT, 11), ⟨B, 0⟩) := rfl
        rw [this]
        rfl
      unfold giveM giveOf
      rw [if_neg (by omega), if_neg (by omega), e]
      rfl
    · obtain ⟨T, F0, ho, hF, hf0, hg, hta⟩ := tat_free (l := 1) k.fr ht (by omega)
      have hokL := (okT_iff T).1 ho
      have htr := k.rg _ (List.mem_append_right U hm)
      have hstop : ∀ (a : Int) (T2 : Tr), okT T2 = true → trunkFor h ⟨B, 1⟩ n = ((a, T2, 0), ⟨B, 0⟩) → ∃ S', giveM h ⟨B, 1⟩ n = ((hd0, 11), S') := by
        intro a T2 ho2 htf
        refine ⟨⟨B, 0⟩, ?_⟩
        unfold giveM giveOf
        rw [if_neg (by omega), if_neg (by omega), htf]
        simp only [ptr_stop (B := B) (n := a) ho2]
        rfl
      by_cases h5 : T.list.length < 50
      · refine hstop h.trunk ⟨T.next, T.list ++ [n]⟩ ?_ ?_
        · rw [okT_iff]
          refine ⟨hokL.1, by simp; omega, fun x hx => ?_⟩
          rcases List.mem_append.1 hx with hx | hx
          · exact hokL.2.2 x hx
          · simp at hx; omega
        · unfold trunkFor
          rw [if_neg ht, hta, if_neg (fun e => e rfl), if_pos h5]
          rfl
      · refine hstop n ⟨h.trunk, []⟩ ?_ ?_
        · rw [okT_iff]
          exact ⟨by show 0 ≤ h.trunk ∧ h.trunk < 4096; omega, by simp, fun x hx => by simp at hx⟩
        · unfold trunkFor
          rw [if_neg ht, hta, if_neg (fun e => e rfl), if_neg h5]
          rfl
/-- The store's errors: Take. -/
theorem fail_take (k : Inv h B U F) (hF0 : 0 < F.length) (hl : l = 0 ∨ l = 1) : ∃ n h' e S', takeM h ⟨B, l⟩ = ((n, h', e), S') ∧ ((n = 0 ∧ h' = hd0 ∧ e = 11) ∨ (e = 0 ∧ h'.spare = h.spare - 1 ∧ l = 1)) := by
  have h1 := k.sp
  have hs : ¬ h.spare = 0 := by omega
  rcases k.fr.head with ⟨_, hF⟩ | ⟨ht, hm, hlen⟩
  · rw [hF] at hF0; exact absurd hF0 (by simp)
  · rcases hl with rfl | rfl
    · refine ⟨0, hd0, 11, ⟨B, 0⟩, ?_, Or.inl ⟨rfl, rfl, rfl⟩⟩
      unfold takeM
      rw [if_neg hs]
      rfl
    · obtain ⟨T, F0, ho, hF, hf0, hg, hta⟩ := tat_free (l := 1) k.fr ht (by omega)
      have hFl : F.length = T.list.length + 1 + F0.length := by rw [hF]; simp; omega
      have hokL := (okT_iff T).1 ho
      have hnext : T.next < h.pages := by
        have h2 := k.pg
        rcases hf0.head with ⟨e, _⟩ | ⟨_, e, _⟩
        · omega
        · exact (k.rg _ (List.mem_append_right U (by rw [hF]; simp [e]))).2
      have hlist : ∀ x ∈ T.list, x < h.pages := fun x hx => (k.rg _ (List.mem_append_right U (by rw [hF]; simp [hx]))).2
      have hbad := not_bad hnext hlist
      by_cases hz : T.list.length = 0
      · have hdec : decide (h.spare - 1 = 0) = decide (T.next = 0) := by
          rcases hf0.head with ⟨e, e2⟩ | ⟨e, _, e2⟩
          · rw [decide_eq_true (by rw [e2] at hFl; simp at hFl; omega), decide_eq_true e]
          · rw [decide_eq_false (by omega), decide_eq_false e]
        refine ⟨h.trunk, { h with trunk := T.next, spare := h.spare - 1 }, 0, ⟨B, 0⟩, ?_, Or.inr ⟨rfl, rfl, rfl⟩⟩
        unfold takeM takeOf
        rw [if_neg hs, hta, if_neg (fun e => e rfl), if_neg (by simpa using hbad), if_pos hz]
        unfold takeTrunk
        simp only
        rw [if_neg (by simpa using hdec)]
        rfl
      · have ho2 : okT ⟨T.next, T.list.dropLast⟩ = true := by
          rw [okT_iff]
          refine ⟨hokL.1, ?_, fun x hx => hokL.2.2 x (List.dropLast_subset _ hx)⟩
          rw [List.length_dropLast]
          have := hokL.2.1
          omega
        refine ⟨0, hd0, 11, ⟨B, 0⟩, ?_, Or.inl ⟨rfl, rfl, rfl⟩⟩
        unfold takeM takeOf
        rw [if_neg hs, hta, if_neg (fun e => e rfl), if_neg (by simpa using hbad), if_neg hz]
        simp only [show (1 : Int) - 1 = 0 from rfl, ptr_stop (B := B) (n := h.trunk) ho2]
        rfl
end Sp
end Go.Proofs.YtkoglikaaehhjaaGreatDoor
