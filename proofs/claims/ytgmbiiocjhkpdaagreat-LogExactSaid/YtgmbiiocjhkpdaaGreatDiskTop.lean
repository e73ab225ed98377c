/-
  Contracts of the project's disk: Sync, Cut, Drop, Read.
-/
import Derived.Test.YtgmbiiocjhkpdaaGreatGrpJDkb
import Derived.Test.YtgmbiiocjhkpdaaGreatDiskOnFile
namespace Go.Proofs.YtgmbiiocjhkpdaaGreat
open Go.RowKit
namespace Disk
open Num (hid bcells)

theorem nameOk_fit (s : ByteArray) : nameOk s = nameFit s.data.toList := rfl
theorem Out.after {tag : Nat → Tag} {d m : Nat} {M : Mod} {w w1 w' : World} (h : Out tag d m M w1 w') (hc : Chg (· = d) w w1) (hd : tag d = .root) : Out tag d m M w w' := by
  obtain ⟨tag', L', h1, h2, h3, h4⟩ := h
  refine ⟨tag', L', h1, h2, fun k hk => h3 k (Nat.lt_of_lt_of_le hk hc.size), (hc.mono ?_).trans h4⟩
  rintro k _ rfl
  unfold Mine; rw [hd]; simp
theorem Out.same {tag : Nat → Tag} {d m : Nat} {c : Ctl} {L : Ents} {w w' : World} (D : DiskAt tag w' d m c L) (hc : Chg (· = d) w w') : Out tag d m ⟨c, dirOf L⟩ w w' := by
  refine ⟨tag, L, D, rfl, fun _ _ => rfl, hc.mono ?_⟩
  rintro k _ rfl
  unfold Mine; rw [D.root.tagd]; simp
theorem Gives.mono {P R : Int → World → Prop} {p : Program} {f : FuncId} {args : Array Value} {w : World} (h : Calls p f args w (Gives P)) (hP : ∀ x w', P x w' → R x w') : Calls p f args w (Gives R) :=
  Calls.mono h fun _ _ ⟨x, he, hx⟩ => ⟨x, he, hP _ _ hx⟩
/-- Behind an operation. -/
theorem ran_out {tag : Nat → Tag} {d m : Nat} {c : Ctl} {L : Ents} {fit : Bool} {f : Dir → Int × Dir} {w w0 : World} (hc : Chg (· = d) w w0) {e : Ending} {w' : World}
    (h : Ran tag d m c L fit (fun x w' => x = (f (dirOf L)).1 ∧ Out tag d m ⟨c.begun fit, (f (dirOf L)).2⟩ w w') w0 e w') :
    e = .returned (.int .i64 (Mod.run ⟨c, dirOf L⟩ fit f).1) ∧ Out tag d m (Mod.run ⟨c, dirOf L⟩ fit f).2 w w' := by
  obtain ⟨x, rfl, ⟨h1, rfl, h3, h4⟩ | ⟨h1, rfl, h3⟩⟩ := h
  · unfold Mod.run; rw [if_pos h1]
    exact ⟨rfl, Out.same h3 (hc.trans h4)⟩
  · unfold Mod.run; rw [if_neg (fun e => e h1)]
    exact ⟨rfl, h3⟩

set_option maxRecDepth 100000 in
theorem sync_any (tag : Nat → Tag) (w : World) (d m : Nat) (c : Ctl) (L : Ents) (D : DiskAt tag w d m c L) (s : ByteArray) (hs : s.size ≤ maxLen) :
    Calls Tryz.prog 65 #[ptr d, .string s] w fun e w' => e = .returned (.int .i64 (Mod.sync ⟨c, dirOf L⟩ s.data.toList).1) ∧ Out tag d m (Mod.sync ⟨c, dirOf L⟩ s.data.toList).2 w w' := by
  have hr := onfile_sync tag w d m c L D s hs true (fun x w' => x = (syncD s.data.toList (dirOf L)).1 ∧ Out tag d m ⟨c.begun (true && nameOk s), (syncD s.data.toList (dirOf L)).2⟩ w w')
    (fun _ hg w1 D1 hc => by
      have e : syncD s.data.toList (dirOf L) = (14, dirOf L) := by unfold syncD onD; rw [dirOf_get, hg]; rfl
      rw [e]; exact ⟨rfl, Out.same D1 hc⟩)
    (fun _ b F hg w1 D1 hc => by
      obtain ⟨v, Q, hf⟩ := D1.file hg
      have e : syncD s.data.toList (dirOf L) = (0, ins (dirOf L) s.data.toList F.sync) := by unfold syncD onD; rw [dirOf_get, hg]; rfl
      rw [e]
      refine Gives.mono (sync1_any tag w1 _ b F v Q hf) ?_
      rintro x w' ⟨rfl, ht⟩
      exact ⟨rfl, (D1.filed hg ht).after hc D.root.tagd⟩)
  have HR := hid hr
  clear hr D
  go_enter Tryz.func65, Tryz.ntmps65
  go_wp2_with fail
  refine HR.out.mono ?_
  rintro e w1 ⟨x, rfl, h⟩
  have HH := hid h
  clear h
  go_wp2
  go_ret
  have := ran_out (f := syncD s.data.toList) (Chg.refl _ w) ⟨x, rfl, HH.out⟩
  rw [Bool.true_and, nameOk_fit] at this
  exact this

set_option maxRecDepth 100000 in
theorem cut_any (tag : Nat → Tag) (w : World) (d m : Nat) (c : Ctl) (L : Ents) (D : DiskAt tag w d m c L) (s : ByteArray) (hs : s.size ≤ maxLen) (i : Int) :
    Calls Tryz.prog 69 #[ptr d, .string s, .int .i64 i] w fun e w' => e = .returned (.int .i64 (Mod.cut ⟨c, dirOf L⟩ s.data.toList i).1) ∧ Out tag d m (Mod.cut ⟨c, dirOf L⟩ s.data.toList i).2 w w' := by
  have hmf : ∀ (fn : Fn) (first cap : Array Value) (w : World), (Instr.makeFunc fn first cap).run Tryz.prog w = .ok (.func fn first cap) w := fun _ _ _ _ => rfl
  have hB : (w.alloc (.cells #[.int .i64 i] 3)).heap[w.heap.size]? = some (.cells #[.int .i64 i] 3 (0, 0)) := blk_new _ _
  have D0 := D.alloc (.cells #[.int .i64 i] 3)
  have hc0 : Chg (· = d) w (w.alloc (.cells #[.int .i64 i] 3)) := (Chg.refl _ w).alloc _
  have hdl := lt_of_block D.root.blk
  have hr := onfile_cut tag _ d m c L D0 s hs (decide (0 ≤ i)) (ptr w.heap.size) (fun x w' => x = (cutD s.data.toList i (dirOf L)).1 ∧ Out tag d m ⟨c.begun (decide (0 ≤ i) && nameOk s), (cutD s.data.toList i (dirOf L)).2⟩ w w')
    (fun _ hg w1 D1 hc => by
      have e : cutD s.data.toList i (dirOf L) = (14, dirOf L) := by unfold cutD onD; rw [dirOf_get, hg]; rfl
      rw [e]; exact ⟨rfl, Out.same D1 (hc0.trans hc)⟩)
    (fun hf0 b F hg w1 D1 hc => by
      obtain ⟨v, Q, hf⟩ := D1.file hg
      have hi : 0 ≤ i := by
        apply Decidable.byContradiction
        intro hneg
        have h1 : decide (0 ≤ i) = false := decide_eq_false hneg
        rw [h1] at hf0
        simp [Ctl.refusal] at hf0
      refine Gives.mono (cut1_any tag w1 _ b F v Q hf w.heap.size i hi (cell_of_one (hc.at hB (by omega)))) ?_
      intro x w' h
      unfold CutGives at h
      by_cases hlt : (F.ps.length : Int) < i
      · rw [if_pos hlt] at h
        have e : cutD s.data.toList i (dirOf L) = (14, dirOf L) := by unfold cutD onD; rw [dirOf_get, hg]; show (if _ then _ else _) = _; rw [if_pos hlt]
        rw [e]
        exact ⟨h.1, Out.same (D1.kept h.2 (fun _ _ => rfl) (fun _ h => h.elim)) ((hc0.trans hc).trans (h.2.mono (fun _ _ h => h.elim)))⟩
      · rw [if_neg hlt] at h
        have e : cutD s.data.toList i (dirOf L) = (0, ins (dirOf L) s.data.toList (F.cut i.toNat)) := by unfold cutD onD; rw [dirOf_get, hg]; show (if _ then _ else _) = _; rw [if_neg hlt]
        rw [e]
        exact ⟨h.1, (D1.filed hg h.2).after (hc0.trans hc) D.root.tagd⟩)
  have HR := hid hr
  have HC0 := hid hc0
  clear hr D D0 hc0 hB
  go_enter Tryz.func69, Tryz.ntmps69
  go_wp2_with fail
  refine HR.out.mono ?_
  rintro e w1 ⟨x, rfl, h⟩
  have HH := hid h
  clear h
  go_wp2
  go_ret
  have := ran_out (f := cutD s.data.toList i) HC0.out ⟨x, rfl, HH.out⟩
  rw [nameOk_fit] at this
  exact this

set_option maxRecDepth 100000 in
theorem drop_any (tag : Nat → Tag) (w : World) (d m : Nat) (c : Ctl) (L : Ents) (D : DiskAt tag w d m c L) (s : ByteArray) (hs : s.size ≤ maxLen) :
    Calls Tryz.prog 71 #[ptr d, .string s] w fun e w' => e = .returned (.int .i64 (Mod.drop ⟨c, dirOf L⟩ s.data.toList).1) ∧ Out tag d m (Mod.drop ⟨c, dirOf L⟩ s.data.toList).2 w w' := by
  have hmf : ∀ (fn : Fn) (first cap : Array Value) (w : World), (Instr.makeFunc fn first cap).run Tryz.prog w = .ok (.func fn first cap) w := fun _ _ _ _ => rfl
  have n1 := blk_alloc (blk_new w (.cells #[ptr d] 24)) (.cells #[.string s] tStr)
  have n2 := blk_new (w.alloc (.cells #[ptr d] 24)) (.cells #[.string s] tStr)
  have e1 : (w.alloc (.cells #[ptr d] 24)).heap.size = w.heap.size + 1 := by simp
  rw [e1] at n2
  have D0 := (D.alloc (.cells #[ptr d] 24)).alloc (.cells #[.string s] tStr)
  have hc0 : Chg (· = d) w ((w.alloc (.cells #[ptr d] 24)).alloc (.cells #[.string s] tStr)) := ((Chg.refl _ w).alloc _).alloc _
  have hdl := lt_of_block D.root.blk
  have hr := onfile_drop tag _ d m c L D0 s hs true (ptr w.heap.size) (ptr (w.heap.size + 1)) (fun x w' => x = (dropD s.data.toList (dirOf L)).1 ∧ Out tag d m ⟨c.begun (true && nameOk s), (dropD s.data.toList (dirOf L)).2⟩ w w')
    (fun _ hg w1 D1 hc => by
      have e : dropD s.data.toList (dirOf L) = (14, dirOf L) := by unfold dropD onD; rw [dirOf_get, hg]; rfl
      rw [e]; exact ⟨rfl, Out.same D1 (hc0.trans hc)⟩)
    (fun hf0 b F hg w1 D1 hc => by
      have e : dropD s.data.toList (dirOf L) = (0, del (dirOf L) s.data.toList) := by unfold dropD onD; rw [dirOf_get, hg]; rfl
      rw [e]
      refine Gives.mono (drop1_any tag w1 d m _ L D1 s hs b w.heap.size (w.heap.size + 1) (cell_of_one (hc.at n1 (by omega))) (cell_of_one (hc.at n2 (by omega)))) ?_
      rintro x w' ⟨rfl, h⟩
      exact ⟨rfl, h.after (hc0.trans hc) D.root.tagd⟩)
  have HR := hid hr
  have HC0 := hid hc0
  clear hr D D0 hc0 n1 n2
  go_enter Tryz.func71, Tryz.ntmps71
  go_wp2_with fail
  refine HR.out.mono ?_
  rintro e w1 ⟨x, rfl, h⟩
  have HH := hid h
  clear h
  go_wp2
  go_ret
  have := ran_out (f := dropD s.data.toList) HC0.out ⟨x, rfl, HH.out⟩
  rw [Bool.true_and, nameOk_fit] at this
  exact this

/-- Whoever owns nothing yet. -/
def norm (tag : Nat → Tag) (N : Nat) : Nat → Tag := fun k => if k < N then tag k else .other
theorem norm_lt (tag : Nat → Tag) {N k : Nat} (h : k < N) : norm tag N k = tag k := by simp [norm, h]
theorem norm_ge (tag : Nat → Tag) {N k : Nat} (h : N ≤ k) : norm tag N k = .other := by simp [norm, Nat.not_lt.2 h]
theorem DiskAt.norm {tag : Nat → Tag} {w : World} {d m : Nat} {c : Ctl} {L : Ents} (D : DiskAt tag w d m c L) : DiskAt (norm tag w.heap.size) w d m c L :=
  D.kept (Chg.refl (fun _ => False) w) (fun _ hk => norm_lt tag hk) (fun _ h => h.elim)
theorem Out.ofNorm {tag : Nat → Tag} {d m : Nat} {M : Mod} {w w' : World} (h : Out (Disk.norm tag w.heap.size) d m M w w') : Out tag d m M w w' := by
  obtain ⟨tag', L', h1, h2, h3, h4⟩ := h
  refine ⟨tag', L', h1, h2, fun k hk => (h3 k hk).trans (norm_lt tag hk), h4.mono ?_⟩
  intro k hk h
  unfold Mine at h ⊢
  rw [norm_lt tag hk] at h
  exact h
/-- What a read ends in. -/
def ReadOut (tag : Nat → Tag) (d m : Nat) (c : Ctl) (L : Ents) (n : Nam) (i : Int) (w : World) (e : Ending) (w' : World) : Prop :=
  e = .returned (.tuple #[.string ⟨(Mod.read ⟨c, dirOf L⟩ n i).1.toArray⟩, .int .i64 (Mod.read ⟨c, dirOf L⟩ n i).2.1]) ∧ Out tag d m (Mod.read ⟨c, dirOf L⟩ n i).2.2 w w'

set_option maxRecDepth 100000 in
theorem read_any (tag : Nat → Tag) (w : World) (d m : Nat) (c : Ctl) (L : Ents) (D : DiskAt tag w d m c L) (s : ByteArray) (hs : s.size ≤ maxLen) (i : Int) (hi : i ≤ 9223372036854775807) :
    Calls Tryz.prog 67 #[ptr d, .string s, .int .i64 i] w (ReadOut tag d m c L s.data.toList i w) := by
  replace D := D.norm
  have hmf : ∀ (fn : Fn) (first cap : Array Value) (w : World), (Instr.makeFunc fn first cap).run Tryz.prog w = .ok (.func fn first cap) w := fun _ _ _ _ => rfl
  have n1 := blk_alloc (blk_new w (.cells #[.int .i64 i] 3)) (.cells #[.string ⟨#[]⟩] tStr)
  have n2 := blk_new (w.alloc (.cells #[.int .i64 i] 3)) (.cells #[.string ⟨#[]⟩] tStr)
  have e1 : (w.alloc (.cells #[.int .i64 i] 3)).heap.size = w.heap.size + 1 := by simp
  rw [e1] at n2
  have D0 := (D.alloc (.cells #[.int .i64 i] 3)).alloc (.cells #[.string ⟨#[]⟩] tStr)
  have hc0 : Chg (· = d) w ((w.alloc (.cells #[.int .i64 i] 3)).alloc (.cells #[.string ⟨#[]⟩] tStr)) := ((Chg.refl _ w).alloc _).alloc _
  have hdl := lt_of_block D.root.blk
  have hml := D.mlt
  have hr := onfile_read (norm tag w.heap.size) _ d m c L D0 s hs true (ptr w.heap.size) (ptr (w.heap.size + 1)) (fun x w' => x = (readD s.data.toList i (dirOf L)).2 ∧ w'.heap[w.heap.size + 1]? = some (.cells #[.string ⟨(readD s.data.toList i (dirOf L)).1.toArray⟩] tStr (0, 0)) ∧ Out (norm tag w.heap.size) d m ⟨c.begun (true && nameOk s), dirOf L⟩ w w')
    (fun _ hg w1 D1 hc => by
      have e : readD s.data.toList i (dirOf L) = ([], 14) := by unfold readD; rw [dirOf_get, hg]; rfl
      rw [e]; exact ⟨rfl, hc.at n2 (by omega), Out.same D1 (hc0.trans hc)⟩)
    (fun hf0 b F hg w1 D1 hc => by
      obtain ⟨v, Q, hf⟩ := D1.file hg
      have e : readD s.data.toList i (dirOf L) = F.read i := by unfold readD; rw [dirOf_get, hg]; rfl
      rw [e]
      refine Gives.mono (read1_any (norm tag w.heap.size) w1 _ b F v Q hf w.heap.size (w.heap.size + 1) i hi (cell_of_one (hc.at n1 (by omega))) (hc.at n2 (by omega))) ?_
      rintro x w' ⟨rfl, h1, h2⟩
      refine ⟨rfl, h2, ?_⟩
      refine ⟨norm tag w.heap.size, L, D1.kept h1 (fun _ _ => rfl) (by rintro k rfl; exact norm_ge tag (by omega)), rfl, fun _ _ => rfl, ?_⟩
      refine ((hc0.trans hc).mono ?_).then h1 ?_
      · rintro k _ rfl; unfold Mine; rw [D.root.tagd]; simp
      · rintro k _ rfl; exact Or.inl (by omega))
  have hres : ∀ (x : Int) (w1 : World), (c.refusal (true && nameOk s) ≠ 0 ∧ x = c.refusal (true && nameOk s) ∧ DiskAt (norm tag w.heap.size) w1 d m (c.begun (true && nameOk s)) L ∧ Chg (· = d) ((w.alloc (.cells #[.int .i64 i] 3)).alloc (.cells #[.string ⟨#[]⟩] tStr)) w1) ∨
      (c.refusal (true && nameOk s) = 0 ∧ x = (readD s.data.toList i (dirOf L)).2 ∧ w1.heap[w.heap.size + 1]? = some (.cells #[.string ⟨(readD s.data.toList i (dirOf L)).1.toArray⟩] tStr (0, 0)) ∧ Out (norm tag w.heap.size) d m ⟨c.begun (true && nameOk s), dirOf L⟩ w w1) →
      x = (Mod.read ⟨c, dirOf L⟩ s.data.toList i).2.1 ∧ w1.cell? ⟨w.heap.size + 1, 0, none⟩ = some (.string ⟨(Mod.read ⟨c, dirOf L⟩ s.data.toList i).1.toArray⟩) ∧ Out tag d m (Mod.read ⟨c, dirOf L⟩ s.data.toList i).2.2 w w1 := by
    rw [Bool.true_and, nameOk_fit]
    rintro x w1 (⟨h1, rfl, h3, h4⟩ | ⟨h1, rfl, h3, h4⟩)
    · unfold Mod.read; rw [if_pos h1]
      exact ⟨rfl, cell_of_one (h4.at n2 (by omega)), Out.ofNorm (Out.same h3 (hc0.trans h4))⟩
    · unfold Mod.read; rw [if_neg (fun e => e h1)]
      exact ⟨rfl, cell_of_one h3, Out.ofNorm h4⟩
  have HR := hid hr
  have HRES := hid hres
  clear hr D D0 hc0 n1 n2 hres
  go_enter Tryz.func67, Tryz.ntmps67
  go_wp2_with fail
  refine HR.out.mono ?_
  rintro e w1 ⟨x, rfl, h⟩
  obtain ⟨rfl, hcell, hout⟩ := HRES.out _ _ h
  have HO := hid hout
  clear h hout
  go_wp2
  go_ret2
  exact ⟨rfl, HO.out⟩

end Disk
end Go.Proofs.YtgmbiiocjhkpdaaGreat
