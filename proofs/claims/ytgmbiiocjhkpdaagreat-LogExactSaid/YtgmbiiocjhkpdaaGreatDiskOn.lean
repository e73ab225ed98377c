/-
  Contract of the project's disk: On.
-/
import Derived.Test.YtgmbiiocjhkpdaaGreatDiskWrite
import Derived.Test.YtgmbiiocjhkpdaaGreatGrpJDkb
import Derived.Test.YtgmbiiocjhkpdaaGreatGrpJDka
namespace Go.Proofs.YtgmbiiocjhkpdaaGreat
open Go.RowKit
namespace Disk
open Num (hid bcells)

/-- Files that have woken: the first of them. -/
theorem wakes_append (l : List Int) : ∀ (k : Nat) (a b : Dir), wakes l k (a ++ b) = wakes l k a ++ wakes l (a.foldl (fun k e => counts k e.2.ps) k) b
  | k, [], b => rfl
  | k, e :: r, b => by
    simp only [List.cons_append, wakes, List.foldl_cons, wakes_append l (counts k e.2.ps) r b, List.append_assoc]

theorem rises_dir {L : Ents} (h : Rises L) : (dirOf L).Pairwise fun p q => bytesBefore p.1 q.1 = true := by
  unfold dirOf
  rw [List.pairwise_map]
  exact h
/-- A name in the midst, rising: its entry is another one, or gone. -/
theorem mid {α : Type} {X Y : List (Nam × α)} {n : Nam} {a : α} (h : (X ++ (n, a) :: Y).Pairwise fun p q => bytesBefore p.1 q.1 = true) :
    (∀ e ∈ X, e.1 ≠ n) ∧ (∀ e ∈ Y, e.1 ≠ n) := by
  obtain ⟨_, h2, h3⟩ := List.pairwise_append.1 h
  constructor
  · intro e he hn
    have := h3 e he (n, a) (List.mem_cons_self ..)
    rw [hn, bytesBefore_irrefl] at this; cases this
  · intro e he hn
    have := (List.pairwise_cons.1 h2).1 e he
    rw [hn, bytesBefore_irrefl] at this; cases this
theorem mid_get {α : Type} {X Y : List (Nam × α)} {n : Nam} {a : α} (h : (X ++ (n, a) :: Y).Pairwise fun p q => bytesBefore p.1 q.1 = true) : get? (X ++ (n, a) :: Y) n = some a :=
  get?_of_mem h (e := (n, a)) (by simp)
theorem mid_ins {α : Type} {X Y : List (Nam × α)} {n : Nam} {a b : α} (h : (X ++ (n, a) :: Y).Pairwise fun p q => bytesBefore p.1 q.1 = true) : ins (X ++ (n, a) :: Y) n b = X ++ (n, b) :: Y := by
  obtain ⟨h1, h2⟩ := mid h
  rw [ins_there b h (mid_get h), List.map_append, List.map_cons]
  have e : ∀ Z : List (Nam × α), (∀ e ∈ Z, e.1 ≠ n) → Z.map (fun e => if e.1 == n then (n, b) else e) = Z := by
    intro Z hZ
    conv => rhs; rw [← List.map_id Z]
    exact List.map_congr_left fun q hq => by simp [hZ q hq]
  rw [e X h1, e Y h2]
  simp
theorem mid_del {α : Type} {X Y : List (Nam × α)} {n : Nam} {a : α} (h : (X ++ (n, a) :: Y).Pairwise fun p q => bytesBefore p.1 q.1 = true) : del (X ++ (n, a) :: Y) n = X ++ Y := by
  obtain ⟨h1, h2⟩ := mid h
  have e1 := del_self h1
  have e2 := del_self h2
  unfold del at e1 e2 ⊢
  rw [List.filter_append, List.filter_cons_of_neg (by simp), e1, e2]

/-- A call on one file, and on what is no disk's. -/
theorem DiskAt.filed2 {tag tag' : Nat → Tag} {w w' : World} {d m : Nat} {c : Ctl} {L : Ents} (D : DiskAt tag w d m c L) {n : Nam} {b : Nat} {F F' : Fil} (hg : get? L n = some (b, F)) {G : Nat → Prop} (hc : Chg G w w')
    (hG : ∀ k, G k → tag k = .file n ∨ tag k = .row n ∨ tag k = .other) (ht : ∀ k, k < w.heap.size → tag' k = tag k) (hf : ∃ v Q, FileAt tag' w' n b F' v Q) : DiskAt tag' w' d m c (ins L n (b, F')) := by
  obtain ⟨hd, hl⟩ := datum_there D.owns.rises (F' := F') hg
  have hm : ¬ G m := fun e => by rcases hG m e with e | e | e <;> rw [D.root.tagm] at e <;> cases e
  have hdd : ¬ G d := fun e => by rcases hG d e with e | e | e <;> rw [D.root.tagd] at e <;> cases e
  refine ⟨D.root.kept D.mlt hc ht hdd, ?_, ?_, by rw [hl]; exact D.few⟩
  · unfold Owns
    rw [hd, hl]
    exact D.owns.kept hc hm
  · intro e he
    rcases mem_ins he with rfl | ⟨he, hne⟩
    · exact hf
    · obtain ⟨v2, Q2, hf2⟩ := D.files e he
      refine ⟨v2, Q2, hf2.kept hc ht ?_⟩
      intro k hk
      rcases hG k hk with e | e | e <;> rw [e] <;> refine ⟨by simp, ?_, ?_⟩ <;> intro h <;> cases h <;> exact hne rfl
/-- .. that is gone then. -/
theorem DiskAt.gone2 {tag tag' : Nat → Tag} {w w1 w' : World} {d m : Nat} {c : Ctl} {L : Ents} (D : DiskAt tag w d m c L) {n : Nam} {G : Nat → Prop} (hc : Chg G w w1)
    (hG : ∀ k, G k → tag k = .file n ∨ tag k = .row n ∨ tag k = .other) (ht : ∀ k, k < w.heap.size → tag' k = tag k) (ho : Owns w' m (del L n)) (hmt : w1.mapTurned w' m) : DiskAt tag' w' d m c (del L n) := by
  have hm : ¬ G m := fun e => by rcases hG m e with e | e | e <;> rw [D.root.tagm] at e <;> cases e
  have hdd : ¬ G d := fun e => by rcases hG d e with e | e | e <;> rw [D.root.tagd] at e <;> cases e
  have hc2 : Chg (· = m) w1 w' := (Chg.refl _ w1).grown hmt.grown (fun k hk => Or.inr (by cases hk; rfl))
  have hdm : ¬ d = m := fun e => by have h1 := D.root.tagd; rw [e, D.root.tagm] at h1; cases h1
  have hm1 : tag' m = .dir := (ht m D.mlt).trans D.root.tagm
  have D1 := D.root.kept D.mlt hc ht hdd
  refine ⟨D1.kept (Nat.lt_of_lt_of_le D.mlt hc.size) hc2 (fun _ _ => rfl) hdm, ho, ?_, ?_⟩
  · intro e he
    obtain ⟨he, hne⟩ := mem_del he
    obtain ⟨v2, Q2, hf2⟩ := D.files e he
    refine ⟨v2, Q2, (hf2.kept hc ht ?_).kept hc2 (fun _ _ => rfl) ?_⟩
    · intro k hk
      rcases hG k hk with e | e | e <;> rw [e] <;> refine ⟨by simp, ?_, ?_⟩ <;> intro h <;> cases h <;> exact hne rfl
    · rintro k rfl; rw [hm1]; exact ⟨by simp, by simp, by simp⟩
  · have h1 : (del L n).length ≤ L.length := List.length_filter_le _ _
    have := D.few
    show (del L n).length ≤ 8
    omega

def metAll (fs : Dir) : Nat := fs.foldl (fun k e => counts k e.2.ps) 0
theorem metAll_le (fs : Dir) : metAll fs ≤ lensD fs := by
  have : ∀ (fs : Dir) (k : Nat), fs.foldl (fun k e => counts k e.2.ps) k ≤ k + lensD fs := by
    intro fs
    induction fs with
    | nil => intro k; exact Nat.le_refl _
    | cons e r ih =>
      intro k
      have h1 := ih (counts k e.2.ps)
      have h2 := counts_le e.2.ps k
      simp only [List.foldl_cons, lensD, List.map_cons, List.sum_cons] at h1 ⊢
      omega
  have := this fs 0
  unfold metAll; omega
theorem lensD_take (fs : Dir) (j : Nat) : lensD (fs.take j) ≤ lensD fs := by
  unfold lensD
  conv => rhs; rw [← List.take_append_drop j fs]
  rw [List.map_append, List.sum_append]; omega

/-- The first j files have woken. -/
structure OnAt (tag0 : Nat → Tag) (w0 : World) (d m : Nat) (c : Ctl) (L : Ents) (l : List Int) (fv : Value) (A B : Nat) (v : Value) (N1 j : Nat) (wr : World) (tag' : Nat → Tag) (L' : Ents) : Prop where
  disk : DiskAt tag' wr d m c L'
  dir : dirOf L' = wakes l 0 ((dirOf L).take j) ++ (dirOf L).drop j
  fates : Fates wr A B fv l (metAll ((dirOf L).take j))
  outer : Outer tag' A B fv
  row : wr.ownsRow N1 tStr 1 v L.length ((L.map (·.1)).map fun l => Value.string ⟨l.toArray⟩)
  rowt : ∀ g, v.ownBlock = some g → tag' g = .other ∧ g ≠ B
  tags : ∀ i, i < w0.heap.size → tag' i = tag0 i
  chg : Chg (Mine tag0) w0 wr
  bge : w0.heap.size ≤ B

section
variable {tag0 tag' tag2 : Nat → Tag} {w0 wr w1 w2 : World} {d m : Nat} {c : Ctl} {L L' : Ents} {l : List Int} {fv : Value} {A B : Nat} {v : Value} {N1 j : Nat}

theorem OnAt.entry (h : OnAt tag0 w0 d m c L l fv A B v N1 j wr tag' L') (hj : j < L.length) : ∃ b, get? L' L[j].1 = some (b, L[j].2.2) ∧ (dirOf L).drop j = (L[j].1, L[j].2.2) :: (dirOf L).drop (j + 1) := by
  have hl : j < (dirOf L).length := by rw [dirOf_len]; exact hj
  have e : (dirOf L).drop j = (L[j].1, L[j].2.2) :: (dirOf L).drop (j + 1) := by
    rw [List.drop_eq_getElem_cons hl]
    congr 1
    simp [dirOf]
  have hr := rises_dir h.disk.owns.rises
  rw [h.dir, e] at hr
  have hg := mid_get hr
  rw [← e, ← h.dir, dirOf_get] at hg
  cases hx : get? L' L[j].1 with
  | none => rw [hx] at hg; cases hg
  | some x =>
    rw [hx] at hg
    exact ⟨x.1, by have e2 : x.2 = L[j].2.2 := Option.some.inj hg
                   rw [← e2], e⟩
theorem OnAt.next (h : OnAt tag0 w0 d m c L l fv A B v N1 j wr tag' L') (hj : j < L.length) {b : Nat} (hg : get? L' L[j].1 = some (b, L[j].2.2)) (hw : Woken tag' L[j].1 b L[j].2.2 A B fv l (metAll ((dirOf L).take j)) wr w1) :
    (L[j].2.2.lives l (metAll ((dirOf L).take j)) = true → ∃ t L2, OnAt tag0 w0 d m c L l fv A B v N1 (j + 1) w1 t L2) ∧
    (L[j].2.2.lives l (metAll ((dirOf L).take j)) = false → Owns w1 m L' ∧ ∀ w2, Owns w2 m (del L' L[j].1) → w1.mapTurned w2 m → ∃ t L2, OnAt tag0 w0 d m c L l fv A B v N1 (j + 1) w2 t L2) := by
  obtain ⟨hfa, tag2, ht2, hc2, hlv⟩ := hw
  have hl : j < (dirOf L).length := by rw [dirOf_len]; exact hj
  have e : (dirOf L).drop j = (L[j].1, L[j].2.2) :: (dirOf L).drop (j + 1) := by
    rw [List.drop_eq_getElem_cons hl]; congr 1; simp [dirOf]
  have et : (dirOf L).take (j + 1) = (dirOf L).take j ++ [(L[j].1, L[j].2.2)] := by
    rw [List.take_succ_eq_append_getElem hl]; congr 2; simp [dirOf]
  have hr := rises_dir h.disk.owns.rises
  rw [h.dir, e] at hr
  have hG : ∀ k, WF0 tag' L[j].1 B k → tag' k = .file L[j].1 ∨ tag' k = .row L[j].1 ∨ tag' k = .other := by
    rintro k ((e | e) | rfl)
    · exact Or.inl e
    · exact Or.inr (Or.inl e)
    · exact Or.inr (Or.inr h.outer.b)
  have hm1 : metAll ((dirOf L).take (j + 1)) = counts (metAll ((dirOf L).take j)) L[j].2.2.ps := by rw [et]; unfold metAll; rw [List.foldl_append]; rfl
  have hwk : wakes l 0 ((dirOf L).take (j + 1)) = wakes l 0 ((dirOf L).take j) ++ (if L[j].2.2.lives l (metAll ((dirOf L).take j)) then [(L[j].1, L[j].2.2.woken l (metAll ((dirOf L).take j)))] else []) := by
    rw [et, wakes_append]; simp only [wakes, List.append_nil]; rfl
  have hrow : w1.ownsRow N1 tStr 1 v L.length ((L.map (·.1)).map fun l => Value.string ⟨l.toArray⟩) := row_kept h.row hc2 (fun g hg e => by
    obtain ⟨h1, h2⟩ := h.rowt g hg
    rcases e with (e | e) | e
    · rw [h1] at e; cases e
    · rw [h1] at e; cases e
    · exact h2 e)
  have hbl : ∀ g, v.ownBlock = some g → g < wr.heap.size := fun g hg => (h.row.lt g hg).2
  have hsz := h.chg.size
  have hchg1 : Chg (Mine tag0) w0 w1 := h.chg.then hc2 (fun i hi e => by
    by_cases h0 : i < w0.heap.size
    · refine Or.inr ?_
      unfold Mine
      rw [← h.tags i h0]
      rcases e with (e | e) | e
      · rw [e]; simp
      · rw [e]; simp
      · exact absurd h0 (by have := h.bge; omega)
    · exact Or.inl (by omega))
  have hout : Outer tag2 A B fv := h.outer.ext h.fates ht2
  constructor
  · intro hlive
    refine ⟨tag2, _, h.disk.filed2 hg hc2 hG ht2 (hlv hlive), ?_, by rw [hm1]; exact hfa, hout, hrow, fun g hg => ⟨(ht2 g (hbl g hg)).trans (h.rowt g hg).1, (h.rowt g hg).2⟩, fun i hi => (ht2 i (by omega)).trans (h.tags i hi), hchg1, h.bge⟩
    rw [dirOf_ins, h.dir, e, mid_ins hr, hwk, hlive, if_pos rfl, List.append_assoc]; rfl
  · intro hdead
    have hm' : ¬ WF0 tag' L[j].1 B m := fun e => by rcases hG m e with e | e | e <;> rw [h.disk.root.tagm] at e <;> cases e
    refine ⟨h.disk.owns.kept hc2 hm', fun w2 ho2 hmt => ⟨tag2, _, h.disk.gone2 hc2 hG ht2 ho2 hmt, ?_, ?_, hout, ?_, fun g hg => ⟨(ht2 g (hbl g hg)).trans (h.rowt g hg).1, (h.rowt g hg).2⟩, fun i hi => (ht2 i (by omega)).trans (h.tags i hi), ?_, h.bge⟩⟩
    · rw [dirOf_del, h.dir, e, mid_del hr, hwk, hdead, if_neg (by simp), List.append_nil]
    · have hc3 : Chg (· = m) w1 w2 := (Chg.refl _ w1).grown hmt.grown (fun k hk => Or.inr (by cases hk; rfl))
      rw [hm1]
      have hmd : tag' m = .dir := h.disk.root.tagm
      refine hfa.kept hc3 ?_ ?_ ?_
      · rintro rfl; rw [h.outer.a] at hmd; cases hmd
      · rintro rfl; rw [h.outer.b] at hmd; cases hmd
      · rintro b o n cap hv hn rfl; rw [h.outer.v _ _ _ _ hv hn] at hmd; cases hmd
    · have hc3 : Chg (· = m) w1 w2 := (Chg.refl _ w1).grown hmt.grown (fun k hk => Or.inr (by cases hk; rfl))
      refine row_kept hrow hc3 ?_
      rintro g hg rfl
      have := (h.rowt g hg).1
      rw [h.disk.root.tagm] at this; cases this
    · have hc3 : Chg (· = m) w1 w2 := (Chg.refl _ w1).grown hmt.grown (fun k hk => Or.inr (by cases hk; rfl))
      refine hchg1.then hc3 ?_
      rintro i hi rfl
      by_cases h0 : i < w0.heap.size
      · refine Or.inr ?_
        unfold Mine
        rw [← h.tags i h0, h.disk.root.tagm]; simp
      · exact Or.inl (by omega)
end

set_option maxRecDepth 100000 in
set_option maxHeartbeats 2000000 in
theorem on_down (tag : Nat → Tag) (w : World) (d m : Nat) (c : Ctl) (L : Ents) (D : DiskAt tag w d m c L) (fv : Value) (l : List Int) (hI : IntsAt w fv l) (hd : c.down = false) :
    Calls Tryz.prog 27 #[ptr d, fv] w fun e w' => e = .returned (.tuple #[]) ∧ Out tag d m ⟨c, dirOf L⟩ w w' := by
  obtain ⟨c0, -, -, -, -, c5, -, -⟩ := root_cells D.root.blk
  rw [hd] at c5
  have HD := hid D
  have ld := lt_of_block D.root.blk
  have hm2 : ∃ ao n cap, fv = .slice ao n cap := by
    rcases hI with ⟨ao, cap, h, _⟩ | ⟨b, o, cap, h, _⟩
    · exact ⟨ao, _, cap, h⟩
    · exact ⟨_, _, cap, h⟩
  clear hI D hd
  obtain ⟨ao, n, cap, rfl⟩ := hm2
  all_goals
    go_enter Tryz.func27, Tryz.ntmps27
    go_wp2
    exact bodyPost_ret (v := .tuple #[]) (by simp [results, Tryz.results27, go_sem]) rfl ⟨rfl, Out.same (HD.out.alloc _) ((Chg.refl _ w).alloc _)⟩

/-- Before the files wake. -/
theorem on_start {tag : Nat → Tag} {w w2 : World} {d m : Nat} {c : Ctl} {L : Ents} (D : DiskAt tag w d m c L) {fv : Value} {l : List Int} (hI : IntsAt w fv l) (hv : ∀ b o n cap, fv = .slice (some ⟨b, o, none⟩) n cap → n ≠ 0 → tag b = .other)
    (hfr : ∀ k, w.heap.size ≤ k → tag k = .other) {v : Value} (hrow : w2.ownsRow (((w.setCell ⟨d, 5, none⟩ (.bool false)).alloc (.cells #[fv] tInts)).alloc (.cells #[.int .i64 0] tInt)).heap.size tStr 1 v L.length ((L.map (·.1)).map fun l => Value.string ⟨l.toArray⟩))
    (hb : Below (((w.setCell ⟨d, 5, none⟩ (.bool false)).alloc (.cells #[fv] tInts)).alloc (.cells #[.int .i64 0] tInt)).heap.size (((w.setCell ⟨d, 5, none⟩ (.bool false)).alloc (.cells #[fv] tInts)).alloc (.cells #[.int .i64 0] tInt)) w2) :
    OnAt tag w d m { c with down := false } L l fv w.heap.size (w.heap.size + 1) v (w.heap.size + 2) 0 w2 tag L := by
  have hd := lt_of_block D.root.blk
  have T : Turns m d { c with down := false } w (w.setCell ⟨d, 5, none⟩ (.bool false)) := ⟨set_down D.root.blk false, (Chg.refl _ w).root 5 _⟩
  have D1 := ((D.turned T ⟨D.root.ok.room, D.root.ok.at_, D.root.ok.more, D.root.ok.none, D.root.ok.some⟩).kept (F := fun _ => False) (tag' := tag) (((Chg.refl _ _).alloc (.cells #[fv] tInts)).alloc (.cells #[.int .i64 0] tInt)) (fun _ _ => rfl) (fun _ h => h.elim))
  have hsz : (((w.setCell ⟨d, 5, none⟩ (.bool false)).alloc (.cells #[fv] tInts)).alloc (.cells #[.int .i64 0] tInt)).heap.size = w.heap.size + 2 := by simp
  have na := blk_alloc (blk_new (w.setCell ⟨d, 5, none⟩ (.bool false)) (.cells #[fv] tInts)) (.cells #[.int .i64 0] tInt)
  have nb := blk_new ((w.setCell ⟨d, 5, none⟩ (.bool false)).alloc (.cells #[fv] tInts)) (.cells #[.int .i64 0] tInt)
  have hs1 : ((w.setCell ⟨d, 5, none⟩ (.bool false)).alloc (.cells #[fv] tInts)).heap.size = w.heap.size + 1 := by simp
  rw [set_size] at na
  rw [hs1] at nb
  have hc1 : Chg (· = d) w (((w.setCell ⟨d, 5, none⟩ (.bool false)).alloc (.cells #[fv] tInts)).alloc (.cells #[.int .i64 0] tInt)) := (((Chg.refl _ w).root 5 _).alloc _).alloc _
  have hc2 : Chg (fun _ => False) (((w.setCell ⟨d, 5, none⟩ (.bool false)).alloc (.cells #[fv] tInts)).alloc (.cells #[.int .i64 0] tInt)) w2 := Chg.of_below hb
  rw [hsz] at hrow
  generalize (((w.setCell ⟨d, 5, none⟩ (.bool false)).alloc (.cells #[fv] tInts)).alloc (.cells #[.int .i64 0] tInt)) = W at *
  have hbI : ∀ b o n cap, fv = .slice (some ⟨b, o, none⟩) n cap → n ≠ 0 → b < w.heap.size := by
    intro b o n cap e hn
    rcases hI with ⟨ao, cap', h1, _⟩ | ⟨b', o', cap', h1, h2, _⟩
    · rw [h1] at e; cases e; exact absurd rfl hn
    · rw [h1] at e; cases e; exact h2
  refine ⟨D1.kept hc2 (fun _ _ => rfl) (fun _ h => h.elim), ?_, ⟨hc2.at na (fun h => h), ⟨0, hc2.at nb (fun h => h), fun _ => rfl⟩, ?_, by omega, ?_⟩, ⟨hfr _ (Nat.le_refl _), hfr _ (by omega), hv⟩, hrow, ?_, fun _ _ => rfl, ?_, by omega⟩
  · simp [wakes]
  · refine (hI.kept hc1 ?_).kept hc2 (fun _ _ _ _ _ _ h => h)
    rintro b o n cap e hn rfl
    have := hv _ _ _ _ e hn
    rw [D.root.tagd] at this; cases this
  · intro b o n cap e hn
    have := hbI b o n cap e hn
    omega
  · intro g hg
    have := (hrow.lt g hg).1
    exact ⟨hfr g (by omega), by omega⟩
  · refine (hc1.mono ?_).trans (hc2.mono (fun _ _ h => h.elim))
    rintro k _ rfl
    unfold Mine; rw [D.root.tagd]; simp
theorem OnAt.out {tag0 tag' : Nat → Tag} {w0 wr : World} {d m : Nat} {c : Ctl} {L L' : Ents} {l : List Int} {fv : Value} {A B : Nat} {v : Value} {N1 : Nat} (h : OnAt tag0 w0 d m c L l fv A B v N1 L.length wr tag' L') : Out tag0 d m ⟨c, wakes l 0 (dirOf L)⟩ w0 wr := by
  have e1 : (dirOf L).take L.length = dirOf L := List.take_of_length_le (by rw [dirOf_len]; exact Nat.le_refl _)
  have e2 : (dirOf L).drop L.length = [] := List.drop_of_length_le (by rw [dirOf_len]; exact Nat.le_refl _)
  have hd := h.dir
  rw [e1, e2, List.append_nil] at hd
  exact ⟨tag', L', h.disk, hd, h.tags, h.chg⟩
theorem key_len {w : World} {m : Nat} {L : Ents} (h : Owns w m L) {e : Nam × (Nat × Fil)} (he : e ∈ L) : e.1.length ≤ maxLen := by
  obtain ⟨es, clock, hb, F, hs, hD⟩ := h
  unfold datum at hD
  simp only [DataW.map.injEq] at hD
  have h1 : (Lit.string e.1, (DataW.lit (.int .u64 (e.2.1 : Int)) : DataW Unit)) ∈ (es.toList.map (WideElems.rg Tryz.prog tStr RP)).foldr DataW.insert [] := by rw [← hD]; exact List.mem_map_of_mem he
  obtain ⟨v, hv⟩ := (Maps.fit_keys F) _ (mem_sorted.1 h1)
  obtain ⟨s, rfl⟩ := Maps.keyOf_string_inv Tryz.underlying9 hv
  simp [keyOf, Tryz.underlying9, mapKey] at hv
  obtain ⟨h2, h3⟩ := hv
  have h4 : s.data.toList.length = e.1.length := by rw [← h3]
  have h5 : s.size = s.data.toList.length := rfl
  omega

set_option maxRecDepth 100000 in
set_option maxHeartbeats 4000000 in
theorem on_up (tag : Nat → Tag) (w : World) (d m : Nat) (c : Ctl) (L : Ents) (D : DiskAt tag w d m c L) (fv : Value) (l : List Int) (hI : IntsAt w fv l) (hl : l.length ≤ maxLen) (hd : c.down = true) (hv : ∀ b o n cap, fv = .slice (some ⟨b, o, none⟩) n cap → n ≠ 0 → tag b = .other)
    (hfr : ∀ k, w.heap.size ≤ k → tag k = .other) :
    Calls Tryz.prog 27 #[ptr d, fv] w fun e w' => e = .returned (.tuple #[]) ∧ Out tag d m ⟨{ c with down := false }, wakes l 0 (dirOf L)⟩ w w' := by
  have hmf : ∀ (fn : Fn) (first cap : Array Value) (w : World), (Instr.makeFunc fn first cap).run Tryz.prog w = .ok (.func fn first cap) w := fun _ _ _ _ => rfl
  obtain ⟨c0, -, -, -, -, c5, -, -⟩ := root_cells D.root.blk
  have f5 := blk_free D.root.blk 5
  rw [hd] at c5
  have HD := hid D
  have ld := lt_of_block D.root.blk
  have hm2 : ∃ ao n cap, fv = .slice ao n cap := by
    rcases hI with ⟨ao, cap, h, _⟩ | ⟨b, o, cap, h, _⟩
    · exact ⟨ao, _, cap, h⟩
    · exact ⟨_, _, cap, h⟩
  have HI := hid hI
  have HV := hid hv
  have HFR := hid hfr
  clear hI D hd hv hfr
  obtain ⟨ao, n, cap, rfl⟩ := hm2
  go_enter Tryz.func27, Tryz.ntmps27
  go_wp2_with fail
  have T : Turns m d { c with down := false } w (w.setCell ⟨d, 5, none⟩ (.bool false)) := ⟨set_down HD.out.root.blk false, (Chg.refl _ w).root 5 _⟩
  have D1 := (((HD.out.turned T ⟨HD.out.root.ok.room, HD.out.root.ok.at_, HD.out.root.ok.more, HD.out.root.ok.none, HD.out.root.ok.some⟩).kept (F := fun _ => False) (tag' := tag) (((Chg.refl _ _).alloc (.cells #[(.slice ao n cap)] tInts)).alloc (.cells #[.int .i64 0] tInt)) (fun _ _ => rfl) (fun _ h => h.elim)))
  refine (names_any tag _ d m _ L D1).mono ?_
  rintro e w2 ⟨v, rfl, hrow, hb⟩
  have O0 := on_start HD.out HI.out HV.out HFR.out hrow hb
  have HO := hid O0
  have hrow2 := hrow.2
  clear T D1 hrow hb O0
  rcases hrow2 with ⟨hv2, hn2⟩ | ⟨gN, capN, curN, hv2, hgN, _, hnN, hmN, -, -⟩
  · subst hv2
    have hN := hid hn2
    clear hn2
    go_wp2
    go_loopw [24] (fun i wr => i = .int .i64 0 ∧ wr = w2) (fun _ _ => 0)
    case atStart => exact ⟨rfl, rfl⟩
    case round =>
      obtain ⟨rfl, rfl⟩ := hrel
      go_wp2
      go_end0
      have h := HO.out
      rw [← hN.out] at h
      exact ⟨rfl, h.out⟩
  · subst hv2
    go_wp2
    go_loopw [24] (fun i wr => ∃ j : Nat, j ≤ L.length ∧ i = .int .i64 j ∧ ∃ t L', OnAt tag w d m { c with down := false } L l (.slice ao n cap) w.heap.size (w.heap.size + 1) (.slice (some ⟨gN, 0, none⟩) L.length capN) (w.heap.size + 2) j wr t L') (fun i _ => L.length - (intOf i).toNat)
    case atStart => exact ⟨0, Nat.zero_le _, rfl, tag, L, HO.out⟩
    case round =>
      obtain ⟨j, hj, rfl, t, L', hO⟩ := hrel
      have H := hid hO
      have hfew := HD.out.few
      by_cases hlt : j < L.length
      · obtain ⟨b4, hget, -⟩ := hO.entry hlt
        have hnm : wr.cell? ⟨gN, j, none⟩ = some (.string ⟨L[j].1.toArray⟩) := by
          have h1 := World.ownsRow.cellAt hO.row j (by omega)
          rw [h1, List.getElem?_map, List.getElem?_map, List.getElem?_eq_getElem hlt]; rfl
        have d0 := (root_cells hO.disk.root.blk).1
        have hkl := key_len HD.out.owns (List.getElem_mem hlt)
        have hlk := hO.disk.owns.look ⟨L[j].1.toArray⟩ hkl
        have hget' : get? L' (⟨L[j].1.toArray⟩ : ByteArray).data.toList = some (b4, L[j].2.2) := hget
        rw [hget'] at hlk
        have hlk2 : _ = Result.ok (Value.pointer (some ⟨b4, 0, none⟩)) wr := hlk
        obtain ⟨v4, Q4, hf4⟩ := hO.disk.file hget
        have HG := hid hget
        have HF4 := hid hf4
        have HK := hid hkl
        clear hlk hget hget' hf4 hkl hO
        have hkb : metAll ((dirOf L).take j) + Q4.length ≤ 1000000000 := by
          have h1 := metAll_le ((dirOf L).take j)
          have h2 := lensD_take (dirOf L) j
          have h3 := lens_le tag w d m c L HD.out
          have h4 := HF4.out.len
          rw [dirOf_lens] at h2
          omega
        have HKB := hid hkb
        clear hkb
        go_wp2_with fail
        refine (wake_any t _ _ b4 L[j].2.2 v4 Q4 HF4.out w.heap.size (w.heap.size + 1) _ l (metAll ((dirOf L).take j)) H.out.fates HKB.out hl H.out.outer).mono ?_
        rintro e w1 ⟨rfl, hw⟩
        have HW := hid hw
        have q0 : w1.cell? ⟨d, 0, none⟩ = some (.map (some m)) := by
          obtain ⟨-, t2, ht2, hc2, -⟩ := hw
          refine (hc2.cell (lt_of_block H.out.disk.root.blk) ?_).trans d0
          have htd := H.out.disk.root.tagd
          rintro ((e | e) | e)
          · rw [htd] at e; cases e
          · rw [htd] at e; cases e
          · have := H.out.outer.b; rw [← e, htd] at this; cases this
        clear hw
        cases hlv : L[j].2.2.lives l (metAll ((dirOf L).take j)) with
        | true =>
          have HLV := hid hlv
          clear hlv
          go_wp2
          go_roundw
          case rel => exact ⟨j + 1, by omega, by go_num, (H.out.next hlt HG.out HW.out).1 HLV.out⟩
          case measure => simp [intOf]; omega
        | false =>
          obtain ⟨ho1, hnx⟩ := (H.out.next hlt HG.out HW.out).2 hlv
          obtain ⟨w3, hrun3, ho3, hmt3⟩ := ho1.drop ⟨L[j].1.toArray⟩ HK.out 0
          have HNX := hid (hnx w3 ho3 hmt3)
          clear hlv ho1 hnx ho3 hmt3
          go_wp2
          go_roundw
          case rel => exact ⟨j + 1, by omega, by go_num, HNX.out⟩
          case measure => simp [intOf]; omega
      · obtain rfl : j = L.length := by omega
        clear hO
        go_wp2
        go_end0
        exact ⟨rfl, H.out.out⟩

end Disk
end Go.Proofs.YtgmbiiocjhkpdaaGreat
