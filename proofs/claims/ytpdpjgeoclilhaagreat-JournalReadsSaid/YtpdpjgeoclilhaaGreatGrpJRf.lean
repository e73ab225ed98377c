/-
  Put together: JouGJ, JouRJ, JouRFm, JouRBm.
-/
import Derived.Test.YtpdpjgeoclilhaaGreatGrpJA
import Derived.Test.YtpdpjgeoclilhaaGreatGrpJRe
import Derived.Test.YtpdpjgeoclilhaaGreatRefZeros
import Derived.Test.YtpdpjgeoclilhaaGreatJouSame
import Derived.Test.YtpdpjgeoclilhaaGreatGrpJD
/-
  What the reference's disk wants of a model, kept by the calls of Find and Back; plainly.
-/
namespace Go.Proofs.YtpdpjgeoclilhaaGreat
open Go.RowKit
namespace Jo
open Disk (Mod Fil Plc Sec Nam Dir Ctl)

/-- A file that fits. -/
def FOk (F : Option Fil) : Prop := ∀ G, F = some G → G.ps.length ≤ 16384 ∧ ∀ p ∈ G.ps, (p.now.getD Disk.zeros).length = 256
/-- A disk of at most two files that fit. -/
structure GJ (M : Mod) (D J : Option Fil) : Prop where
  fs : M.fs = dir2 D J
  ok : M.c.Ok
  d : FOk D
  j : FOk J
variable {M : Mod} {D J : Option Fil}
theorem GJ.good (h : GJ M D J) : Ref.Good M := by
  have hm : ∀ e ∈ M.fs, ∃ G, e.2 = G ∧ (D = some G ∨ J = some G) := by
    intro e he
    rw [h.fs] at he
    cases D <;> cases J <;> simp [dir2] at he <;> first | exact ⟨_, rfl, by rcases he with rfl | rfl <;> simp⟩ | exact ⟨_, rfl, by subst he; simp⟩
  refine ⟨h.ok, ?_, fun e he => ?_, fun e he => ?_, ?_⟩
  · rw [h.fs]; cases D <;> cases J <;> simp [dir2]
  · obtain ⟨G, rfl, hg | hg⟩ := hm e he
    · exact (h.d _ hg).1
    · exact (h.j _ hg).1
  · obtain ⟨G, rfl, hg | hg⟩ := hm e he
    · exact (h.d _ hg).2
    · exact (h.j _ hg).2
  · rw [h.fs]
    have hb := before_dj
    cases D <;> cases J <;> simp [dir2, hb]
theorem run_c (M : Mod) (fit : Bool) (f : Dir → Int × Dir) : (M.run fit f).2.c = M.c.begun fit := by
  unfold Disk.Mod.run
  split <;> rfl
theorem GJ.read (h : GJ M D J) (n : Nam) (i : Int) : GJ (M.read n i).2.2 D J := by
  unfold Disk.Mod.read
  split
  · exact ⟨h.fs, h.ok.begun _, h.d, h.j⟩
  · exact ⟨h.fs, h.ok.begun _, h.d, h.j⟩
theorem fok_write {F : Option Fil} (h : FOk F) {k : Nat} {l : List UInt8} (hl : l.length = 256) (hk : k = lenO F → lenO F < 16384) : FOk (some ((F.getD Disk.emptyFil).write k l)) := by
  intro G hG
  cases hG
  have h0 : (F.getD Disk.emptyFil).ps.length = lenO F := by cases F <;> rfl
  have h1 : (F.getD Disk.emptyFil).ps.length ≤ 16384 ∧ ∀ p ∈ (F.getD Disk.emptyFil).ps, (p.now.getD Disk.zeros).length = 256 := by
    cases F with
    | none => exact ⟨by decide, fun p hp => by cases hp⟩
    | some G => exact h G rfl
  generalize F.getD Disk.emptyFil = B at *
  unfold Disk.Fil.write
  split
  · rename_i e
    refine ⟨by simp; have := hk (by omega); omega, fun p hp => ?_⟩
    rcases List.mem_append.1 hp with hp | hp
    · exact h1.2 p hp
    · rw [List.mem_singleton] at hp
      subst hp
      exact hl
  · cases hg : B.ps[k]? with
    | none => exact h1
    | some q =>
      refine ⟨by simpa using h1.1, fun p hp => ?_⟩
      rcases List.mem_or_eq_of_mem_set hp with hp | hp
      · exact h1.2 p hp
      · subst hp
        exact hl
theorem GJ.write (h : GJ M D J) {k : Nat} {l : List UInt8} (hl : l.length = 256) : ∃ D', GJ (M.write dn k l).2 D' J := by
  have hc := run_c M (Disk.nameFit dn && decide (0 ≤ (k : Int)) && decide (l.length = 256)) (Disk.writeD M.c.room dn k l)
  have hok : (M.write dn k l).2.c.Ok := by
    show (M.run _ _).2.c.Ok
    rw [hc]
    exact h.ok.begun _
  rcases run_ways M (Disk.writeD M.c.room dn k l) with ⟨c, e, _⟩ | ⟨c, e, _⟩
  · refine ⟨D, ⟨?_, hok, h.d, h.j⟩⟩
    have hfit : (Disk.nameFit dn && decide (0 ≤ (k : Int)) && decide (l.length = 256)) = true := by simp [fit_d, hl]
    unfold Disk.Mod.write
    rw [hfit, e]
    exact h.fs
  · have hfit : (Disk.nameFit dn && decide (0 ≤ (k : Int)) && decide (l.length = 256)) = true := by simp [fit_d, hl]
    have hfs : (M.write dn k l).2.fs = (Disk.writeD M.c.room dn k l M.fs).2 := by
      unfold Disk.Mod.write
      rw [hfit, e]
    rw [h.fs] at hfs
    unfold Disk.writeD at hfs
    simp only [get_d, lens_mk] at hfs
    have h0 : (D.getD Disk.emptyFil).ps.length = lenO D := by cases D <;> rfl
    rw [h0] at hfs
    split at hfs
    · exact ⟨D, ⟨hfs, hok, h.d, h.j⟩⟩
    · split at hfs
      · exact ⟨D, ⟨hfs, hok, h.d, h.j⟩⟩
      · rename_i h1 h2
        refine ⟨_, ⟨hfs.trans (ins_d D J _), hok, ?_, h.j⟩⟩
        rw [Int.toNat_natCast]
        refine fok_write h.d hl fun hk => ?_
        have hr := h.ok.room
        rcases Nat.lt_or_ge (lenO D) 16384 with hh | hh
        · exact hh
        · exact absurd ⟨by omega, Or.inr (by omega)⟩ h2
theorem GJ.sync (h : GJ M D J) : ∃ D', GJ (M.sync dn).2 D' J := by
  have hok : (M.sync dn).2.c.Ok := by
    show (M.run _ _).2.c.Ok
    rw [run_c]
    exact h.ok.begun _
  rcases (does_sync_d h.fs).1 with ⟨_, _, e⟩ | ⟨_, e⟩
  · exact ⟨D, ⟨e, hok, h.d, h.j⟩⟩
  · refine ⟨_, ⟨e, hok, fun G hG => ?_, h.j⟩⟩
    cases D with
    | none => cases hG
    | some F =>
      cases hG
      refine ⟨by rw [sync_ps_len]; exact (h.d F rfl).1, fun p hp => ?_⟩
      obtain ⟨q, hq, rfl⟩ := List.mem_map.1 (show p ∈ F.ps.map fun p => (⟨p.now, some p.now, false⟩ : Plc) from hp)
      exact (h.d F rfl).2 q hq
theorem GJ.cut (h : GJ M D J) (k : Nat) : ∃ D', GJ (M.cut dn k).2 D' J := by
  have hok : (M.cut dn k).2.c.Ok := by
    show (M.run _ _).2.c.Ok
    rw [run_c]
    exact h.ok.begun _
  rcases (does_cut_d h.fs k).1 with ⟨_, _, e⟩ | ⟨_, e⟩
  · exact ⟨D, ⟨e, hok, h.d, h.j⟩⟩
  · refine ⟨_, ⟨e, hok, fun G hG => ?_, h.j⟩⟩
    cases D with
    | none => cases hG
    | some F =>
      cases hG
      exact ⟨by show (F.ps.take k).length ≤ _; rw [List.length_take]; have := (h.d F rfl).1; omega, fun p hp => (h.d F rfl).2 p (List.mem_of_mem_take hp)⟩
theorem GJ.drop (h : GJ M D J) : ∃ J', GJ (M.drop jn).2 D J' := by
  have hok : (M.drop jn).2.c.Ok := by
    show (M.run _ _).2.c.Ok
    rw [run_c]
    exact h.ok.begun _
  rcases (does_drop_j h.fs).1 with ⟨_, _, e⟩ | ⟨_, e⟩
  · exact ⟨J, ⟨e, hok, h.d, h.j⟩⟩
  · exact ⟨none, ⟨e, hok, h.d, fun G hG => by cases hG⟩⟩
end Jo
end Go.Proofs.YtpdpjgeoclilhaaGreat

/-
  Contracts of the reference's disk beside rows of the call's own.
-/
namespace Go.Proofs.YtpdpjgeoclilhaaGreat
open Go.RowKit Go.Shelf
namespace Jo
open Num (hid)
open Disk (Mod Fil Plc Sees Stays Ctl)
open Mem (Bs bs tS ptr blk_cell blk_free blk_new blk_set blk_other blk_alloc row_kept row_shape row_type)
open Ref (Refs RSees)

structure RJ (R0 X : Nat → Prop) (r : Nat) (M : Mod) (w0 w : World) : Prop where
  refs : ∃ R, Refs R r M w ∧ ∀ k, R k → ¬ X k ∧ k < w.heap.size ∧ (R0 k ∨ w0.heap.size ≤ k)
  good : ∃ D J, GJ M D J
  chg : Disk.Chg R0 w0 w
variable {R0 X X' : Nat → Prop} {r : Nat} {M M' : Mod} {w0 w w' : World}
theorem RJ.start {R : Nat → Prop} (h : Refs R r M w) (hR : ∀ k, R k → k < w.heap.size) (hg : ∃ D J, GJ M D J) : RJ R (fun _ => False) r M w w :=
  ⟨⟨R, h, fun k hk => ⟨fun x => x, hR k hk, Or.inl hk⟩⟩, hg, Disk.Chg.refl _ _⟩
/-- Where the call's own rows turn, and new ones come. -/
theorem RJ.side {F : Nat → Prop} (h : RJ R0 X r M w0 w) (hc : Disk.Chg F w w') (hF : ∀ k, F k → X k ∧ w0.heap.size ≤ k) (hX : ∀ k, X' k → X k ∨ w.heap.size ≤ k) : RJ R0 X' r M w0 w' := by
  obtain ⟨⟨R, h1, h2⟩, hg, h3⟩ := h
  refine ⟨⟨R, h1.apart hc (fun k hk hR => (h2 k hR).1 (hF k hk).1), fun k hk => ⟨fun hx => ?_, Nat.lt_of_lt_of_le (h2 k hk).2.1 hc.size, (h2 k hk).2.2⟩⟩, hg, h3.then hc (fun i _ hi => Or.inl (hF i hi).2)⟩
  rcases hX k hx with e | e
  · exact (h2 k hk).1 e
  · have := (h2 k hk).2.1
    omega
theorem RJ.on (h : RJ R0 X r M w0 w) (hb : Below w.heap.size w w') : RJ R0 X r M w0 w' := h.side (F := fun _ => False) (Disk.Chg.of_below hb) (fun _ x => x.elim) (fun _ x => Or.inl x)
/-- What a call of the reference's wants, and what it leaves. -/
theorem RJ.call (h : RJ R0 X r M w0 w) (hX : ∀ k, X k → k < w.heap.size) : ∃ R', RSees R' r M w ∧ ∀ M' w', Refs R' r M' w' → Disk.Chg R' w w' → (∃ D J, GJ M' D J) → RJ R0 X r M' w0 w' ∧ Disk.Chg (fun k => ¬ X k) w w' := by
  obtain ⟨⟨R, h1, h2⟩, hg, h3⟩ := h
  have hno : ∀ k, (R k ∨ w.heap.size ≤ k) → ¬ X k := fun k hk hx => by
    rcases hk with e | e
    · exact (h2 k e).1 hx
    · have := hX k hx
      omega
  have hs := h3.size
  refine ⟨fun k => R k ∨ w.heap.size ≤ k, ⟨h1.mono (fun g _ hg => Or.inl hg), ?_, fun b hb => Or.inr hb⟩, fun M' w' k1 k2 k3 => ⟨⟨⟨fun k => (R k ∨ w.heap.size ≤ k) ∧ k < w'.heap.size, k1.mono (fun g hlt hg => ⟨hg, hlt⟩), fun k hk => ⟨hno k hk.1, hk.2, ?_⟩⟩, k3, h3.then k2 (fun i _ hi => ?_)⟩, k2.mono (fun k _ hk => hno k hk)⟩⟩
  · obtain ⟨D, J, g⟩ := hg
    exact g.good
  · rcases hk.1 with e | e
    · exact (h2 k e).2.2
    · exact Or.inr (by omega)
  · rcases hi with e | e
    · exact ((h2 i e).2.2).symm
    · exact Or.inl (by omega)
theorem rread_jn (h : RJ R0 X r M w0 w) (hX : ∀ k, X k → k < w.heap.size) (i : Nat) (hi : i ≤ 16384) :
    Calls Tryz.prog 48 #[ptr r, .string jS, .int .i64 (i : Nat)] w fun e w' => e = .returned (.tuple #[.string (bs (M.read jn i).1), .int .i64 (M.read jn i).2.1]) ∧ RJ R0 X r (M.read jn i).2.2 w0 w' ∧ Disk.Chg (fun k => ¬ X k) w w' := by
  obtain ⟨R', h1, h2⟩ := h.call hX
  obtain ⟨D, J, g⟩ := h.good
  refine (Ref.read_ref h1 jS (by decide) (i : Int) (by omega)).mono ?_
  rintro e w' ⟨rfl, k1, k2⟩
  exact ⟨rfl, h2 _ w' k1 k2 ⟨D, J, g.read jn i⟩⟩
theorem rwrite_dn (h : RJ R0 X r M w0 w) (hX : ∀ k, X k → k < w.heap.size) (i : Nat) (K N S : Nat) (dd : ByteArray) (hd : dd.size = 232) :
    Calls Tryz.prog 54 #[ptr r, .string dS, .int .i64 (i : Nat), .string (Seal.sealS K N S dd)] w fun e w' => e = .returned (.int .i64 (M.write dn i (Seal.sealL K N S dd.data.toList)).1) ∧ RJ R0 X r (M.write dn i (Seal.sealL K N S dd.data.toList)).2 w0 w' ∧ Disk.Chg (fun k => ¬ X k) w w' := by
  obtain ⟨R', h1, h2⟩ := h.call hX
  obtain ⟨D, J, g⟩ := h.good
  have hl : (Seal.sealL K N S dd.data.toList).length = 256 := by rw [Seal.seal_len]; have : dd.data.toList.length = dd.size := rfl; omega
  obtain ⟨D', g'⟩ := g.write (k := i) hl
  refine (Ref.write_ref h1 dS (by decide) (i : Int) (Seal.sealS K N S dd) (by rw [Seal.sealS_size, hd]; decide)).mono ?_
  rintro e w' ⟨rfl, k1, k2⟩
  rw [Seal.sealS_list] at k1 ⊢
  exact ⟨rfl, h2 _ w' k1 k2 ⟨D', J, g'⟩⟩
theorem rsync_dn (h : RJ R0 X r M w0 w) (hX : ∀ k, X k → k < w.heap.size) :
    Calls Tryz.prog 57 #[ptr r, .string dS] w fun e w' => e = .returned (.int .i64 (M.sync dn).1) ∧ RJ R0 X r (M.sync dn).2 w0 w' ∧ Disk.Chg (fun k => ¬ X k) w w' := by
  obtain ⟨R', h1, h2⟩ := h.call hX
  obtain ⟨D, J, g⟩ := h.good
  obtain ⟨D', g'⟩ := g.sync
  refine (Ref.sync_ref h1 dS (by decide)).mono ?_
  rintro e w' ⟨rfl, k1, k2⟩
  exact ⟨rfl, h2 _ w' k1 k2 ⟨D', J, g'⟩⟩
theorem rcut_dn (h : RJ R0 X r M w0 w) (hX : ∀ k, X k → k < w.heap.size) (n : Nat) :
    Calls Tryz.prog 56 #[ptr r, .string dS, .int .i64 (n : Nat)] w fun e w' => e = .returned (.int .i64 (M.cut dn n).1) ∧ RJ R0 X r (M.cut dn n).2 w0 w' ∧ Disk.Chg (fun k => ¬ X k) w w' := by
  obtain ⟨R', h1, h2⟩ := h.call hX
  obtain ⟨D, J, g⟩ := h.good
  obtain ⟨D', g'⟩ := g.cut n
  refine (Ref.cut_ref h1 dS (by decide) (n : Int)).mono ?_
  rintro e w' ⟨rfl, k1, k2⟩
  exact ⟨rfl, h2 _ w' k1 k2 ⟨D', J, g'⟩⟩
theorem rdrop_jn (h : RJ R0 X r M w0 w) (hX : ∀ k, X k → k < w.heap.size) :
    Calls Tryz.prog 58 #[ptr r, .string jS] w fun e w' => e = .returned (.int .i64 (M.drop jn).1) ∧ RJ R0 X r (M.drop jn).2 w0 w' ∧ Disk.Chg (fun k => ¬ X k) w w' := by
  obtain ⟨R', h1, h2⟩ := h.call hX
  obtain ⟨D, J, g⟩ := h.good
  obtain ⟨J', g'⟩ := g.drop
  refine (Ref.drop_ref h1 jS (by decide)).mono ?_
  rintro e w' ⟨rfl, k1, k2⟩
  exact ⟨rfl, h2 _ w' k1 k2 ⟨D, J', g'⟩⟩
theorem rsize_s (h : RJ R0 X r M w0 w) (s : ByteArray) :
    Calls Tryz.prog 22 #[ptr r, .string s] w fun e w' => e = .returned (.int .i64 (M.size s.data.toList)) ∧ w = w' := by
  obtain ⟨⟨R, ⟨v, E, a, k, m, D, hE⟩, -⟩, ⟨D', J', g⟩, -⟩ := h
  have H := Ref.rsize_any D (Ref.few_ens g.good hE) s
  rw [hE] at H
  exact H
theorem rsize_jn (h : RJ R0 X r M w0 w) : Calls Tryz.prog 22 #[ptr r, .string jS] w fun e w' => e = .returned (.int .i64 (M.size jn)) ∧ w = w' := rsize_s h jS
theorem rsize_dn (h : RJ R0 X r M w0 w) : Calls Tryz.prog 22 #[ptr r, .string dS] w fun e w' => e = .returned (.int .i64 (M.size dn)) ∧ w = w' := rsize_s h dS

set_option maxRecDepth 100000 in
theorem bad_any (e : Int) (w : World) : Calls Tryz.prog 55 #[.int .i64 e] w fun x w' => x = .returned (.int .i64 (if e = 14 then 30 else e)) ∧ w = w' := by
  by_cases h : e = 14
  · subst h
    go_enter Tryz.func55, Tryz.ntmps55
    go_wp2
    go_ret
    exact ⟨rfl, rfl⟩
  · have h1 : (e == 14) = false := by simp [h]
    rw [if_neg h]
    have H := hid h
    clear h
    go_enter Tryz.func55, Tryz.ntmps55
    go_wp2
    go_ret
    exact ⟨rfl, rfl⟩
set_option maxRecDepth 100000 in
set_option maxHeartbeats 1000000 in
/-- Whether all numbers lie below one. -/
theorem below_any {w : World} {v : Value} {l : List Rec} (hl : l.length ≤ 100000) (h : PgR w v l) (n : Nat) :
    Calls Tryz.prog 51 #[v, .int .i64 (n : Nat)] w fun e w' => e = .returned (.bool (l.all fun x => decide (x.1 < n))) ∧ w = w' := by
  obtain ⟨ao, cap, rfl, hx⟩ := h
  obtain ⟨B, hB⟩ : ∃ B, (l.all fun x => decide (x.1 < n)) = B := ⟨_, rfl⟩
  rw [hB]
  have HBB := hid hB
  have HX := hid hx
  clear hx hB
  go_enter Tryz.func51, Tryz.ntmps51
  go_wp2
  go_loopw [5] (fun i wr => ∃ k : Nat, k ≤ l.length ∧ i = .int .i64 k ∧ Hid (wr = w ∧ (l.take k).all (fun x => decide (x.1 < n)) = true)) (fun i _ => l.length - (intOf i).toNat)
  case atStart => exact ⟨0, Nat.zero_le _, rfl, hid ⟨rfl, by simp⟩⟩
  case round =>
    obtain ⟨k, hk, rfl, HA⟩ := hrel
    obtain ⟨hww, -⟩ := HA.out
    subst hww
    by_cases hlt : (k : Int) < (l.length : Int)
    · have hkl : k < l.length := by omega
      obtain ⟨g, rfl, hc, a1, a2⟩ := HX.out k hkl
      have hkc : (k : Int) < (cap : Int) := by omega
      have hw1 : wrap64 ((k : Int) + 1) = (k : Int) + 1 := by rw [Num.wrap_i]; omega
      have htk : l.take (k + 1) = l.take k ++ [l[k]] := by rw [List.take_add_one, List.getElem?_eq_getElem hkl]; rfl
      by_cases hn : (l[k].1 : Int) < (n : Int)
      · have HA2 : Hid (wr = wr ∧ (l.take (k + 1)).all (fun x => decide (x.1 < n)) = true) := hid ⟨rfl, by
          rw [htk, List.all_append, HA.out.2]
          simp
          omega⟩
        have hn2 : ¬ (n : Int) ≤ (l[k].1 : Int) := by omega
        generalize l[k] = x at *
        clear htk
        go_wp2
        go_roundw
        case rel => exact ⟨k + 1, by omega, by go_num, hid ⟨trivial, HA2.out.2⟩⟩
        case measure => simp [intOf]; omega
      · have hn2 : (n : Int) ≤ (l[k].1 : Int) := by omega
        have e : B = false := by
          rw [← HBB.out, List.all_eq_false]
          exact ⟨l[k], List.getElem_mem hkl, by simp; omega⟩
        subst e
        clear htk
        generalize l[k] = x at *
        go_wp2
        go_ret
        exact ⟨rfl, rfl⟩
    · obtain rfl : k = l.length := by omega
      have e : B = true := by rw [← HBB.out]; have := HA.out.2; rwa [List.take_length] at this
      subst e
      go_wp2
      go_ret
      exact ⟨rfl, rfl⟩
end Jo
end Go.Proofs.YtpdpjgeoclilhaaGreat

/-
  The reference's foot, plainly: the same feet are right.
-/
namespace Go.Proofs.YtpdpjgeoclilhaaGreat
open Go.RowKit
namespace Jo
open Disk (Mod Fil Plc Sec Nam Dir Ctl)
open Num (fixF unfF)
open Mem (Bs bs)
theorem fix_unf (l : List UInt8) : fixF l.length (unfF 0 l) = l := by
  have key : ∀ r : List UInt8, fixF r.length (unfF 0 r.reverse) = r.reverse := by
    intro r
    induction r with
    | nil => rfl
    | cons b r ih =>
      have hb : b.toNat < 256 := b.toNat_lt
      rw [List.reverse_cons, Num.unfF_append, List.length_cons, fixF]
      have e1 : (unfF 0 r.reverse * 256 + b.toNat) / 256 = unfF 0 r.reverse := by omega
      have e2 : UInt8.ofNat (unfF 0 r.reverse * 256 + b.toNat) = b := by
        apply UInt8.toNat_inj.1
        rw [Num.ofNat_toNat]; omega
      rw [e1, e2, ih]
  have h := key l.reverse
  simpa using h
def aN (d : Bs) : Nat := unfF 0 (d.take 4)
def bN (d : Bs) : Nat := unfF 0 ((d.take 8).drop 4)
theorem aN_is (d : Bs) : Seal.numAt d 0 4 = aN d := by unfold Seal.numAt aN; rw [List.drop_zero]
def fullD (d : Bs) : Bool := decide (d.take 8 ++ List.replicate 224 0 = d)
def rFoot (f : Fnd) (N : Nat) (d : Bs) : Bool :=
  fullD d && decide (N = f.recs.length - f.counted) && decide (bN d = f.feet) && decide (aN d ≤ 4096) && (decide (f.feet = 0) || decide (aN d = f.pages)) && f.recs.all (fun x => decide (x.1 < aN d))
theorem unf_lt4 (l : Bs) (h : l.length = 4) : unfF 0 l < 4294967296 := by
  have := fix_unf l
  have h2 := Num.unf_fix l.length (unfF 0 l)
  rw [this, h] at h2
  have := Nat.mod_lt (unfF 0 l) (show 0 < 256 ^ 4 by decide)
  omega
theorem eight (d : Bs) (hd : d.length = 232) : d.take 8 = fixF 4 (aN d) ++ fixF 4 (bN d) := by
  have e1 : (d.take 4).length = 4 := by rw [List.length_take]; omega
  have e2 : ((d.take 8).drop 4).length = 4 := by rw [List.length_drop, List.length_take]; omega
  have h1 := fix_unf (d.take 4)
  have h2 := fix_unf ((d.take 8).drop 4)
  rw [e1] at h1
  rw [e2] at h2
  unfold aN bN
  rw [h1, h2]
  have : d.take 4 = (d.take 8).take 4 := by rw [List.take_take]; rfl
  rw [this, List.take_append_drop]
theorem fix_inj {a b : Nat} (ha : a < 4294967296) (hb : b < 4294967296) (h : fixF 4 a = fixF 4 b) : a = b := by
  have h1 := Num.unf_fix 4 a
  have h2 := Num.unf_fix 4 b
  rw [h] at h1
  have e : (256 : Nat) ^ 4 = 4294967296 := by decide
  rw [e] at h1 h2
  rw [Nat.mod_eq_of_lt ha] at h1
  rw [Nat.mod_eq_of_lt hb] at h2
  omega
theorem foot_iff (d : Bs) (hd : d.length = 232) (p k : Nat) (hp : p < 4294967296) (hk : k < 4294967296) : d = footL p k ↔ fullD d = true ∧ aN d = p ∧ bN d = k := by
  have ha : aN d < 4294967296 := unf_lt4 _ (by rw [List.length_take]; omega)
  have hb : bN d < 4294967296 := unf_lt4 _ (by rw [List.length_drop, List.length_take]; omega)
  have h8 := eight d hd
  constructor
  · intro h
    have ht : d.take 8 = fixF 4 p ++ fixF 4 k := by
      rw [h]
      unfold footL
      rw [List.take_append_of_le_length (by rw [List.length_append, Num.fixF_length, Num.fixF_length]; decide), List.take_of_length_le (by rw [List.length_append, Num.fixF_length, Num.fixF_length]; decide)]
    rw [h8] at ht
    obtain ⟨e1, e2⟩ := List.append_inj ht (by rw [Num.fixF_length, Num.fixF_length])
    refine ⟨?_, fix_inj ha hp e1, fix_inj hb hk e2⟩
    unfold fullD
    rw [h8, e1, e2]
    exact decide_eq_true h.symm
  · rintro ⟨h1, rfl, rfl⟩
    unfold fullD at h1
    have := of_decide_eq_true h1
    rw [h8] at this
    exact this.symm
/-- What holds of what was found so far. -/
structure Fk (k : Nat) (f : Fnd) : Prop where
  bi : Bi k f
  beg : f.begun = decide (0 < k)
  abv : ∀ a, f.above ≤ a ↔ f.recs.all (fun x => decide (x.1 < a)) = true
theorem fk0 : Fk 0 f0 := ⟨bi0, rfl, fun a => by simp [f0]⟩
theorem Fk.take {k : Nat} {f g : Fnd} {l : List UInt8} (h : Fk k f) (e : takeF f l = some g) : Fk (k + 1) g := by
  refine ⟨h.bi.take e, ?_, ?_⟩
  · unfold takeF at e
    repeat' split at e
    all_goals first | cases e | skip
    all_goals simp
  · intro a
    unfold takeF at e
    repeat' split at e
    all_goals first | cases e | skip
    · have := h.abv a
      simp only [List.all_append, Bool.and_eq_true, ← this, List.all_cons, List.all_nil, Bool.and_true, decide_eq_true_eq]
      omega
    · exact h.abv a
theorem rfoot_is {k : Nat} {f : Fnd} (h : Fk k f) (hk : k ≤ 16384) (N : Nat) (d : Bs) (hd : d.length = 232) : rFoot f N d = rightNd f N d ∧ (rFoot f N d = true → footPd f d = aN d) := by
  have hb := h.bi
  have hft : f.feet < 4294967296 := by have := hb.feet; omega
  have hpg : f.pages < 4294967296 := by have := hb.pages; omega
  have ha : aN d < 4294967296 := unf_lt4 _ (by rw [List.length_take]; omega)
  have key : rFoot f N d = true ↔ rightNd f N d = true := by
    unfold rFoot rightNd footPd
    rw [aN_is]
    by_cases h0 : f.feet = 0
    · simp only [h0, if_pos, Bool.and_eq_true, decide_eq_true_eq, decide_true, Bool.true_or, Bool.and_true]
      have := foot_iff d hd (aN d) 0 ha (by decide)
      have := h.abv (aN d)
      simp_all
      constructor
      · rintro ⟨⟨⟨⟨a1, a2⟩, a3⟩, a4⟩, a5⟩; exact ⟨⟨⟨a4, a5⟩, a2⟩, a1, a3⟩
      · rintro ⟨⟨⟨a4, a5⟩, a2⟩, a1, a3⟩; exact ⟨⟨⟨⟨a1, a2⟩, a3⟩, a4⟩, a5⟩
    · simp only [h0, if_false, Bool.and_eq_true, decide_eq_true_eq, decide_false, Bool.false_or]
      have h1 := foot_iff d hd f.pages f.feet hpg hft
      have h2 := h.abv f.pages
      rw [h1, h2]
      have hp := hb.pages
      constructor
      · rintro ⟨⟨⟨⟨⟨a1, a2⟩, a3⟩, a4⟩, a5⟩, a6⟩
        rw [a5] at a6
        exact ⟨⟨⟨hp, a6⟩, a2⟩, a1, a5, a3⟩
      · rintro ⟨⟨⟨a4, a6⟩, a2⟩, a1, a5, a3⟩
        rw [← a5] at a6 a4
        exact ⟨⟨⟨⟨⟨a1, a2⟩, a3⟩, a4⟩, a5⟩, a6⟩
  refine ⟨by cases h1 : rFoot f N d <;> cases h2 : rightNd f N d <;> simp_all, fun h1 => ?_⟩
  unfold footPd
  split
  · exact aN_is d
  · rename_i h0
    unfold rFoot at h1
    simp only [h0, Bool.and_eq_true, decide_eq_true_eq, decide_false, Bool.false_or] at h1
    exact h1.1.2.symm
/-- A torn sector reads as nothing. -/
theorem read_torn (M : Mod) (i : Nat) (h : (M.read jn i).2.1 = 13) : (M.read jn i).1 = [] := by
  rcases (read_ways M i).2 with ⟨_, h2, _, h4⟩ | ⟨h1, h2, _⟩
  · exact h4
  · rw [h1]
    rw [h2] at h
    unfold Disk.readD Disk.Fil.read Disk.readNow at *
    repeat' split at h
    all_goals first | (simp at h; done) | skip
    all_goals simp_all
    all_goals exact (congrArg Prod.fst (if_neg (by omega) : (if (i : Int) < 0 then (([] : List UInt8), (14 : Int)) else ([], 13)) = ([], 13)))
end Jo
end Go.Proofs.YtpdpjgeoclilhaaGreat

/-
  The reference's Back, plainly: number by number it writes what the project writes.
-/
namespace Go.Proofs.YtpdpjgeoclilhaaGreat
open Go.RowKit
namespace Jo
open Disk (Mod Fil Plc Sec Nam Dir Ctl)
open Mem (Bs bs)
/-- The numbers from n on, below P, that are told. -/
def numsFrom (l : List Rec) (n P : Nat) : List Nat := (List.range' n (P - n)).filter fun n => l.any fun r => r.1 == n
theorem nums_from {l : List Rec} {P : Nat} (hP : P ≤ 4096) (h : ∀ r ∈ l, r.1 < P) : numsOf l = numsFrom l 0 P := by
  unfold numsOf numsFrom
  have e : List.range 4096 = List.range' 0 P ++ List.range' P (4096 - P) := by
    rw [List.range_eq_range']
    have := @List.range'_append_1 0 P (4096 - P)
    rw [Nat.zero_add] at this
    rw [this]
    congr 1
    omega
  rw [e, List.filter_append, Nat.sub_zero]
  have e2 : (List.range' P (4096 - P)).filter (fun n => l.any fun r => r.1 == n) = [] := by
    rw [List.filter_eq_nil_iff]
    intro n hn hx
    obtain ⟨r, hr, hrn⟩ := List.any_eq_true.1 hx
    have h1 := h r hr
    have h2 := List.mem_range'_1.1 hn
    have h3 : r.1 = n := by simpa using hrn
    omega
  rw [e2, List.append_nil]
theorem from_end (l : List Rec) (P : Nat) : numsFrom l P P = [] := by
  unfold numsFrom
  rw [Nat.sub_self]
  rfl
theorem from_cons {l : List Rec} {n P : Nat} (hn : n < P) : numsFrom l n P = if l.any (fun r => r.1 == n) then n :: numsFrom l (n + 1) P else numsFrom l (n + 1) P := by
  unfold numsFrom
  have e : P - n = (P - (n + 1)) + 1 := by omega
  rw [e, List.range'_succ, List.filter_cons]
/-- A number that isn't told, one that is. -/
theorem from_none {l : List Rec} {n P : Nat} (hn : n < P) (h : ∀ r ∈ l, r.1 ≠ n) : numsFrom l n P = numsFrom l (n + 1) P := by
  rw [from_cons hn, if_neg]
  intro hx
  obtain ⟨r, hr, hrn⟩ := List.any_eq_true.1 hx
  exact h r hr (by simpa using hrn)
theorem from_some {l : List Rec} {n P i : Nat} (hn : n < P) (hi : i < l.length) (hx : l[i].1 = n) : numsFrom l n P = n :: numsFrom l (n + 1) P := by
  rw [from_cons hn, if_pos]
  exact List.any_eq_true.2 ⟨l[i], List.getElem_mem hi, by simpa using hx⟩
theorem first_at {l : List Rec} {n i : Nat} (hi : i < l.length) (h : ∀ r ∈ l.take i, r.1 ≠ n) (hx : l[i].1 = n) : firstD l n = l[i].2 := by
  have hf : l.find? (fun r => r.1 == n) = some l[i] := by
    have e : l = l.take i ++ l[i] :: l.drop (i + 1) := by rw [← List.drop_eq_getElem_cons hi, List.take_append_drop]
    have hn : (l.take i).find? (fun r => r.1 == n) = none := List.find?_eq_none.2 (fun r hr hc => h r hr (by simpa using hc))
    have e2 : (l.take i ++ l[i] :: l.drop (i + 1)).find? (fun r => r.1 == n) = some l[i] := by
      rw [List.find?_append, hn, List.find?_cons_of_pos (by simpa using hx)]
      rfl
    rw [← e] at e2
    exact e2
  unfold firstD
  rw [hf]
  rfl
/-- Behind a write: the error as Back tells it, or the next. -/
theorem writes_bad {l : List Rec} {n : Nat} {r : List Nat} {M : Mod} (h : (M.write dn n (Seal.sealL 1 n 0 (firstD l n))).1 ≠ 0) : writesM l (n :: r) M = ((if (M.write dn n (Seal.sealL 1 n 0 (firstD l n))).1 = 14 then 30 else (M.write dn n (Seal.sealL 1 n 0 (firstD l n))).1), (M.write dn n (Seal.sealL 1 n 0 (firstD l n))).2) := by
  unfold writesM
  split
  · rfl
  · rfl
theorem writes_good {l : List Rec} {n : Nat} {r : List Nat} {M : Mod} (h : (M.write dn n (Seal.sealL 1 n 0 (firstD l n))).1 = 0) : writesM l (n :: r) M = writesM l r (M.write dn n (Seal.sealL 1 n 0 (firstD l n))).2 := by
  conv => lhs; unfold writesM
  rw [h, if_neg (by decide), if_neg (by decide)]
theorem sync_not14 {M : Mod} {F : Fil} {J : Option Fil} (h : M.fs = dir2 (some F) J) : (M.sync dn).1 ≠ 14 := by
  unfold Disk.Mod.sync
  rw [fit_d]
  rcases run_ways M (Disk.syncD dn) with ⟨c, e, hne, hc⟩ | ⟨c, e, hc⟩
  · rw [e]
    have := ref_vals M.c
    show M.c.refusal true ≠ 14
    omega
  · rw [e]
    unfold Disk.syncD Disk.onD
    rw [h, get_d]
    simp
theorem cut_not14 {M : Mod} {F : Fil} {J : Option Fil} (h : M.fs = dir2 (some F) J) {k : Nat} (hk : k ≤ F.ps.length) : (M.cut dn k).1 ≠ 14 := by
  have hfit : (decide (0 ≤ (k : Int)) && Disk.nameFit dn) = true := by simp [fit_d]
  unfold Disk.Mod.cut
  rw [hfit]
  rcases run_ways M (Disk.cutD dn k) with ⟨c, e, hne, hc⟩ | ⟨c, e, hc⟩
  · rw [e]
    have := ref_vals M.c
    show M.c.refusal true ≠ 14
    omega
  · rw [e]
    unfold Disk.cutD Disk.onD
    rw [h, get_d]
    simp only [ins_d]
    rw [if_neg (by omega)]
    simp
/-- What comes behind the writes, as the reference does it: cut where there is more, sync where there is a file. -/
structure Behind (P : Nat) (M : Mod) : Prop where
  none : M.size dn < 0 → cutsM P M = (0, M) ∧ ¬ (P : Int) < M.size dn
  cutE : (P : Int) < M.size dn → (M.cut dn P).1 ≠ 0 → cutsM P M = (M.cut dn P) ∧ (M.cut dn P).1 ≠ 14
  cutO : (P : Int) < M.size dn → (M.cut dn P).1 = 0 → cutsM P M = (M.cut dn P).2.sync dn ∧ 0 ≤ (M.cut dn P).2.size dn ∧ ((M.cut dn P).2.sync dn).1 ≠ 14
  sync : 0 ≤ M.size dn → ¬ (P : Int) < M.size dn → cutsM P M = M.sync dn ∧ (M.sync dn).1 ≠ 14
theorem behind {M : Mod} {D J : Option Fil} (h : M.fs = dir2 D J) (P : Nat) : Behind P M := by
  have hs := size_d h
  refine ⟨fun h1 => ⟨?_, by omega⟩, fun h1 h2 => ?_, fun h1 h2 => ?_, fun h1 h2 => ?_⟩
  · unfold cutsM
    rw [if_pos h1]
  · have h3 : ¬ M.size dn < 0 := by omega
    refine ⟨by unfold cutsM; rw [if_neg h3, if_pos h1, if_pos h2], ?_⟩
    cases D with
    | none => rw [hs] at h3; exact absurd (by decide) h3
    | some F => exact cut_not14 h (by rw [hs] at h1; have : (P : Int) < (F.ps.length : Int) := h1; omega)
  · have h3 : ¬ M.size dn < 0 := by omega
    have h4 : (M.cut dn P).2.fs = dir2 (D.map fun F => F.cut P) J := by
      rcases (does_cut_d h P).1 with ⟨e, _, _⟩ | ⟨_, e⟩
      · exact absurd h2 e
      · exact e
    refine ⟨by unfold cutsM; rw [if_neg h3, if_pos h1, if_neg (by rw [h2]; decide)], ?_, ?_⟩
    · rw [size_d h4]
      cases D with
      | none => rw [hs] at h3; exact absurd (by decide) h3
      | some F => exact Int.natCast_nonneg _
    · cases D with
      | none => rw [hs] at h3; exact absurd (by decide) h3
      | some F => exact sync_not14 h4
  · refine ⟨by unfold cutsM; rw [if_neg (by omega), if_neg h2], ?_⟩
    cases D with
    | none => rw [hs] at h1; exact absurd h1 (by decide)
    | some F => exact sync_not14 h
/-- What holds of what counts. -/
structure Pk (f : Fnd) : Prop where
  lt : ∀ r ∈ f.recs, r.1 < f.above
  cnt : ∀ r ∈ f.recs.take f.counted, r.1 < f.pages
  pages : f.pages ≤ 4096
  le : f.counted ≤ f.recs.length
theorem pk0 : Pk f0 := ⟨fun r hr => (by cases hr), fun r hr => (by cases hr), by decide, Nat.le_refl _⟩
theorem Pk.take {f g : Fnd} {l : List UInt8} (h : Pk f) (e : takeF f l = some g) : Pk g := by
  unfold takeF at e
  repeat' split at e
  all_goals first | cases e | skip
  · refine ⟨fun r hr => ?_, fun r hr => ?_, h.pages, ?_⟩
    · rcases List.mem_append.1 hr with hr | hr
      · have := h.lt r hr
        show r.1 < max f.above (kN l + 1)
        omega
      · rw [List.mem_singleton] at hr
        subst hr
        show kN l < max f.above (kN l + 1)
        omega
    · rw [List.take_append_of_le_length h.le] at hr
      exact h.cnt r hr
    · show f.counted ≤ (f.recs ++ _).length
      rw [List.length_append]
      have := h.le
      omega
  · rename_i hr
    have hr2 : rightFoot f l = true := by simpa using hr
    unfold rightFoot at hr2
    simp only [Bool.and_eq_true, decide_eq_true_eq] at hr2
    obtain ⟨⟨⟨h1, h2⟩, h3⟩, h4⟩ := hr2
    refine ⟨h.lt, fun r hr => ?_, h1, Nat.le_refl _⟩
    have h5 := h.lt r (List.mem_of_mem_take hr)
    show r.1 < footP f l
    omega
theorem pk_find : ∀ (k i : Nat) (f : Fnd) (M : Mod), Pk f → Pk (findN k i f M).2.1
  | 0, _, _, _, h => h
  | k + 1, i, f, M, h => by
    unfold findN
    split
    · exact h
    · cases ht : takeF f (M.read jn i).1 with
      | none => exact h
      | some g => exact pk_find k (i + 1) g _ (h.take ht)
theorem pages_ok (M : Mod) : ansP (findM M) ≤ 4096 ∧ ∀ r ∈ ansL (findM M), r.1 < ansP (findM M) := by
  have h : Pk (findM M).2.1 := pk_find _ _ _ _ pk0
  unfold ansP ansL
  split
  · exact ⟨h.pages, h.cnt⟩
  · exact ⟨by decide, fun r hr => (by cases hr)⟩
end Jo
end Go.Proofs.YtpdpjgeoclilhaaGreat
