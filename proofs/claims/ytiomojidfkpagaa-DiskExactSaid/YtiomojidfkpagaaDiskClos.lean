/-
  Contracts of the functions that the project's disk hands to onFile.
-/
import Derived.Test.YtiomojidfkpagaaDiskDir
import Derived.Test.YtiomojidfkpagaaDiskCut
import Derived.RegionTactic
namespace Go.Proofs.Ytiomojidfkpagaa
open Go.RowKit
namespace Disk
open Num (hid bcells)

set_option maxRecDepth 100000 in
theorem sync1_any (tag : Nat → Tag) (w : World) (n : Nam) (f : Nat) (F : Fil) (v : Value) (Q : Pls) (h : FileAt tag w n f F v Q) :
    Calls Try.prog 91 #[ptr f] w (Gives fun x w' => x = 0 ∧ FileTurned tag n f F.sync w w') := by
  have HH := hid h
  clear h
  go_enter Try.func91, Try.ntmps91
  go_wp2_with fail
  refine (fsync_any tag _ n f F v Q HH.out).mono ?_
  rintro e w1 ⟨rfl, ht⟩
  have HT := hid ht
  clear ht
  go_wp2
  go_ret
  exact ⟨0, rfl, rfl, HT.out⟩

/-- The number of a file's places, as the walk asks it. -/
theorem row_len {w : World} {v : Value} {Q : Pls} (h : w.ownsRow 0 tPlace 3 v Q.length (Pls.cells Q)) : (v = .slice none 0 0 ∧ Q = []) ∨ ∃ g cap, v = .slice (some ⟨g, 0, none⟩) Q.length cap ∧ Q.length ≤ cap ∧ cap ≤ maxLen := by
  rcases h.2 with ⟨hv, hn⟩ | ⟨g, cap, cur, hv, _, _, hn0, hm0, -, -⟩
  · exact Or.inl ⟨hv, List.eq_nil_of_length_eq_zero hn⟩
  · exact Or.inr ⟨g, cap, hv, hn0, hm0⟩

/-- What a cut of a file that is there gives. -/
def CutGives (tag : Nat → Tag) (n : Nam) (f : Nat) (F : Fil) (i : Int) (w : World) (x : Int) (w' : World) : Prop :=
  if (F.ps.length : Int) < i then x = 14 ∧ Chg (fun _ => False) w w' else x = 0 ∧ FileTurned tag n f (F.cut i.toNat) w w'
set_option maxRecDepth 100000 in
theorem cut1_any (tag : Nat → Tag) (w : World) (n : Nam) (f : Nat) (F : Fil) (v : Value) (Q : Pls) (h : FileAt tag w n f F v Q) (a : Nat) (i : Int) (hi : 0 ≤ i) (ha : w.cell? ⟨a, 0, none⟩ = some (.int .i64 i)) :
    Calls Try.prog 97 #[ptr f, ptr a] w (Gives (CutGives tag n f F i w)) := by
  have c0 : w.cell? ⟨f, 0, none⟩ = some v := blk_cell h.blk 0
  have hps : F.ps.length = Q.length := by rw [h.ps, List.length_map]
  have hlen := h.len
  obtain ⟨k, rfl⟩ : ∃ k : Nat, i = k := ⟨i.toNat, by omega⟩
  have HH := hid h
  have hrow := row_len h.row
  by_cases hlt : Q.length < k
  · have HP := hid hps
    have HL := hid hlt
    have hlt2 : ((Q.length : Nat) : Int) < (k : Int) := by omega
    rcases hrow with ⟨rfl, rfl⟩ | ⟨g, cap, rfl, hn0, hm0⟩
    · have hlt3 : (0 : Int) < (k : Int) := hlt2
      clear h hps hlt hlt2
      go_enter Try.func97, Try.ntmps97
      go_wp2
      go_region
      all_goals
        go_wp2
        go_ret
        refine ⟨14, rfl, ?_⟩
        unfold CutGives
        rw [if_pos (by have := HP.out; have := HL.out; omega)]
        exact ⟨rfl, (Chg.refl _ _).drew⟩
    · clear h hps hlt hlt2
      have hlt := HL.out
      go_enter Try.func97, Try.ntmps97
      go_wp2
      go_region
      all_goals
        go_wp2
        go_ret
        refine ⟨14, rfl, ?_⟩
        unfold CutGives
        rw [if_pos (by have := HP.out; have := HL.out; omega)]
        exact ⟨rfl, (Chg.refl _ _).drew⟩
  · have HP := hid hps
    have hle : k ≤ Q.length := by omega
    have HC := hid (fcut_any tag w.drew n f F v Q h.drew k hle)
    have HL := hid hle
    rcases hrow with ⟨rfl, rfl⟩ | ⟨g, cap, rfl, hn0, hm0⟩
    · obtain rfl : k = 0 := by simpa using hle
      clear h hps hlt hle
      go_enter Try.func97, Try.ntmps97
      go_wp2
      go_region
      all_goals
        go_wp2_with fail
        refine HC.out.mono ?_
        rintro e w1 ⟨rfl, ht⟩
        have HT := hid ht
        clear ht
        go_wp2
        go_ret
        refine ⟨0, rfl, ?_⟩
        unfold CutGives
        rw [if_neg (by have := HP.out; have := HL.out; omega)]
        obtain ⟨t, v2, Q2, h1, h2, h3⟩ := HT.out
        exact ⟨rfl, t, v2, Q2, h1, h2, ((Chg.refl _ w).drew).trans h3⟩
    · clear h hps
      go_enter Try.func97, Try.ntmps97
      go_wp2
      go_region
      all_goals
        go_wp2_with fail
        refine HC.out.mono ?_
        rintro e w1 ⟨rfl, ht⟩
        have HT := hid ht
        clear ht
        go_wp2
        go_ret
        refine ⟨0, rfl, ?_⟩
        unfold CutGives
        rw [if_neg (by have := HP.out; have := HL.out; omega)]
        obtain ⟨t, v2, Q2, h1, h2, h3⟩ := HT.out
        exact ⟨rfl, t, v2, Q2, h1, h2, ((Chg.refl _ w).drew).trans h3⟩

/-- A call that takes a file away. -/
theorem DiskAt.dropped {tag : Nat → Tag} {w w' : World} {d m : Nat} {c : Ctl} {L : Ents} (D : DiskAt tag w d m c L) (n : Nam) (ho : Owns w' m (del L n)) (ht : w.mapTurned w' m) : Out tag d m ⟨c, del (dirOf L) n⟩ w w' := by
  have hg := ht.grown
  have hc : Chg (· = m) w w' := (Chg.refl _ w).grown hg (fun k hk => Or.inr (by cases hk; rfl))
  have hdm : ¬ d = m := fun e => by have h1 := D.root.tagd; rw [e, D.root.tagm] at h1; cases h1
  have hF : ∀ k, k = m → tag k ≠ .sec ∧ ∀ n, tag k ≠ .file n ∧ tag k ≠ .row n := by
    rintro k rfl; rw [D.root.tagm]; exact ⟨by simp, fun n => ⟨by simp, by simp⟩⟩
  refine ⟨tag, del L n, ⟨D.root.kept D.mlt hc (fun _ _ => rfl) hdm, ho, ?_, ?_⟩, dirOf_del L n, fun _ _ => rfl, hc.mono ?_⟩
  · intro e he
    exact (D.files.kept hc (fun _ _ => rfl) hF) e (mem_del he).1
  · have h1 : (del L n).length ≤ L.length := List.length_filter_le _ _
    have := D.few
    show (del L n).length ≤ 8
    omega
  · rintro k _ rfl; unfold Mine; rw [D.root.tagm]; simp

set_option maxRecDepth 100000 in
theorem drop1_any (tag : Nat → Tag) (w : World) (d m : Nat) (c : Ctl) (L : Ents) (D : DiskAt tag w d m c L) (s : ByteArray) (hs : s.size ≤ maxLen) (f a1 a2 : Nat)
    (b1 : w.cell? ⟨a1, 0, none⟩ = some (ptr d)) (b2 : w.cell? ⟨a2, 0, none⟩ = some (.string s)) :
    Calls Try.prog 99 #[ptr f, ptr a1, ptr a2] w (Gives fun x w' => x = 0 ∧ Out tag d m ⟨c, del (dirOf L) s.data.toList⟩ w w') := by
  obtain ⟨c0, -, -, -, -, -, -, -⟩ := root_cells D.root.blk
  have ho : Owns w.drew m L := D.owns
  obtain ⟨w', hrun, ho', ht⟩ := ho.drop s hs 0
  have hd := D.kept (tag' := tag) ((Chg.refl (fun _ => False) w).drew) (fun _ _ => rfl) (fun _ h => h.elim)
  have hout := hd.dropped s.data.toList ho' ht
  have HO := hid hout
  clear D ho ho' ht hd hout
  go_enter Try.func99, Try.ntmps99
  go_wp2
  go_region
  all_goals
    go_wp2
    go_ret
    obtain ⟨t, L', h1, h2, h3, h4⟩ := HO.out
    exact ⟨0, rfl, rfl, t, L', h1, h2, h3, ((Chg.refl _ w).drew).trans h4⟩

/-- What a read gives, and where its bytes lie. -/
def ReadGives (F : Fil) (i : Int) (a : Nat) (w : World) (x : Int) (w' : World) : Prop :=
  x = (F.read i).2 ∧ Chg (· = a) w w' ∧ w'.heap[a]? = some (.cells #[.string ⟨(F.read i).1.toArray⟩] tStr (0, 0))

theorem sec_cells {tag : Nat → Tag} {w : World} {b : Nat} {s : Sec} (h : SecAt tag w b s) : w.cell? ⟨b, 256, none⟩ = some (.bool s.isNone) ∧ ∀ j (hj : j < (s.getD zeros).length), w.cell? ⟨b, j, none⟩ = some (.int .u8 ((s.getD zeros)[j].toNat : Int)) := by
  have hl := h.len
  constructor
  · rw [blk_cell h.blk, secCells, List.getElem?_toArray, List.getElem?_append_right (by rw [Num.bcells_len, hl]; omega), Num.bcells_len, hl]; rfl
  · intro j hj
    rw [blk_cell h.blk, secCells, List.getElem?_toArray, List.getElem?_append_left (by rw [Num.bcells_len]; exact hj)]
    unfold bcells
    rw [List.getElem?_map, List.getElem?_eq_getElem hj]; rfl

set_option maxRecDepth 100000 in
theorem read1_any (tag : Nat → Tag) (w : World) (n : Nam) (f : Nat) (F : Fil) (v : Value) (Q : Pls) (h : FileAt tag w n f F v Q) (a1 a2 : Nat) (i : Int) (hi : i ≤ 9223372036854775807)
    (b1 : w.cell? ⟨a1, 0, none⟩ = some (.int .i64 i)) (b2 : w.heap[a2]? = some (.cells #[.string ⟨#[]⟩] tStr (0, 0))) :
    Calls Try.prog 93 #[ptr f, ptr a1, ptr a2] w (Gives (ReadGives F i a2 w)) := by
  have c0 : w.cell? ⟨f, 0, none⟩ = some v := blk_cell h.blk 0
  have hps : F.ps = Q.map (·.2) := h.ps
  have hlen := h.len
  have HB := hid b2
  have HPS := hid hps
  by_cases hneg : i < 0
  · have hr : F.read i = ([], 14) := by unfold Fil.read; rw [if_pos hneg]
    have HR := hid hr
    have hd : decide (i < 0) = true := decide_eq_true hneg
    clear hps b2 h hr
    go_enter Try.func93, Try.ntmps93
    go_wp2
    go_quiet (fail)
    go_wp2
    go_ret
    exact ⟨14, rfl, by rw [HR.out], (Chg.refl _ w).drewN _, by rw [HR.out]; exact HB.out⟩
  · obtain ⟨k, rfl⟩ : ∃ k : Nat, i = k := ⟨i.toNat, by omega⟩
    have hd : decide ((k : Int) < 0) = false := decide_eq_false (by omega)
    by_cases hlt : k < Q.length
    · have hp := h.pls Q[k] (List.getElem_mem hlt)
      obtain ⟨g, cap, hv, hle, hcap, hg⟩ := row_some h.row (by omega)
      subst hv
      have hpc := place_cells (i := k) h.row hlt rfl
      obtain ⟨k0, -, -, -, -, -⟩ := hpc
      obtain ⟨t0, ts⟩ := sec_cells hp.now
      have hl := hp.now.len
      have hd2 : decide (Q.length ≤ k) = false := decide_eq_false (by omega)
      have hfk : F.ps[k]? = some Q[k].2 := by rw [hps, List.getElem?_map, List.getElem?_eq_getElem hlt]; rfl
      have hr : F.read (k : Int) = readNow Q[k].2.now := by
        unfold Fil.read; rw [if_neg hneg]; simp only [Int.toNat_natCast, hfk]
      cases hn : Q[k].2.now with
      | none =>
        rw [hn] at t0 hr
        have t1 : _ = some (Value.bool true) := t0
        have HR := hid hr
        clear hps b2 h hr hp t0 ts hl hfk hn
        go_enter Try.func93, Try.ntmps93
        go_wp2
        go_quiet (fail)
        go_wp2
        go_quiet (fail)
        go_wp2
        go_ret
        exact ⟨13, rfl, by rw [HR.out]; rfl, (Chg.refl _ w).drewN _, by rw [HR.out]; exact HB.out⟩
      | some l =>
        rw [hn] at t0 hr ts hl
        have t1 : _ = some (Value.bool false) := t0
        have hconv : ∀ q, (convert 103 tStr (.slice (some ⟨Q[k].1.now, 0, none⟩) 256 256)).run Try.prog (w.drewN q) = .ok (.string ⟨l.toArray⟩) (w.drewN q) := fun q => by
          have hl2 : l.length = 256 := hl
          have := run_convert_bytes_back (P := Try.prog) (w.drewN q) 103 tStr 5 ⟨Q[k].1.now, 0, none⟩ 256 l Try.underlying103 Try.underlying5 Try.underlying9 (fun j hj => by
            rw [show (⟨Q[k].1.now, 0, none⟩ : Addr).add j = ⟨Q[k].1.now, j, none⟩ from by simp [Addr.add]; omega]
            exact ts j hj)
          rw [hl2] at this
          exact this
        have b20 := cell_of_one b2
        have f20 := free_of_one b2
        have HR := hid hr
        clear hps b2 h hr hp t0 ts hl hfk hn
        go_enter Try.func93, Try.ntmps93
        go_wp2
        go_quiet (fail)
        go_wp2
        go_quiet (fail)
        go_wp2
        go_ret
        refine ⟨0, rfl, by rw [HR.out]; rfl, ?_, ?_⟩
        · exact ((Chg.refl _ w).root 0 _).drewN _
        · rw [HR.out]
          exact one_setCell HB.out
    · have hfk : F.ps[k]? = none := by rw [hps, List.getElem?_map, List.getElem?_eq_none (by omega)]; rfl
      have hr : F.read (k : Int) = ([], 14) := by
        unfold Fil.read; rw [if_neg hneg]; simp only [Int.toNat_natCast, hfk]
      have HR := hid hr
      have hrow := row_len h.row
      have hd2 : decide (Q.length ≤ k) = true := decide_eq_true (by omega)
      rcases hrow with ⟨rfl, rfl⟩ | ⟨g, cap, rfl, hn0, hm0⟩
      · have hd3 : decide ((0 : Int) ≤ (k : Int)) = true := decide_eq_true (by omega)
        clear hps b2 h hr hfk hd2 hlt
        go_enter Try.func93, Try.ntmps93
        go_wp2
        go_quiet (fail)
        go_wp2
        go_ret
        exact ⟨14, rfl, by rw [HR.out], (Chg.refl _ w).drewN _, by rw [HR.out]; exact HB.out⟩
      · clear hps b2 h hr hfk hlt
        go_enter Try.func93, Try.ntmps93
        go_wp2
        go_quiet (fail)
        go_wp2
        go_ret
        exact ⟨14, rfl, by rw [HR.out], (Chg.refl _ w).drewN _, by rw [HR.out]; exact HB.out⟩

end Disk
end Go.Proofs.Ytiomojidfkpagaa
