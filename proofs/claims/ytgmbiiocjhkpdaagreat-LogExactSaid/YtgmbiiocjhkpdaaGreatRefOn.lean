/-
  The reference's On.
-/
import Derived.Test.YtgmbiiocjhkpdaaGreatRefFated
import Derived.Test.YtgmbiiocjhkpdaaGreatDiskOn
namespace Go.Proofs.YtgmbiiocjhkpdaaGreat
open Go.RowKit
namespace Ref
open Disk
open Num (hid bcells)
section
variable {R : Nat → Prop} {w : World} {r : Nat} {v : Value} {E : Ens} {c : Ctl} {a k m : Int} {l : List Int}

/-- Behind j rounds: the files that woke, in a row of their own. -/
structure OnR (R : Nat → Prop) (w : World) (r : Nat) (v : Value) (E : Ens) (c : Ctl) (a k m : Int) (l : List Int) (j : Nat) (v' : Value) (E' : Ens) (wr : World) : Prop where
  disk : DiskR R wr r v E c a k m
  row : Row R wr tF 5 v' E'.length (Ens.cells E')
  low : ∀ g, v'.ownBlock = some g → w.heap.size ≤ g
  files : ∀ x ∈ E', FileR R wr x.1 x.2.1 x.2.2
  dir : Ens.dir E' = wakes l 0 ((Ens.dir E).take j)
  few : E'.length ≤ j
  chg : Chg (· = r) w wr
theorem OnR.on {j : Nat} {v' : Value} {E' : Ens} {wr W : World} (h : OnR R w r v E c a k m l j v' E' wr) (hb : Below wr.heap.size wr W) : OnR R w r v E c a k m l j v' E' W :=
  have C : Chg (fun _ => False) wr W := Chg.of_below hb
  ⟨h.disk.kept C (fun h => h) (fun _ _ h => h) (Apart.none _), h.row.kept C (fun _ _ h => h), h.low, fun x hx => (h.files x hx).kept C (Apart.none _), h.dir, h.few, h.chg.trans (Chg.of_below hb)⟩
theorem OnR.skip {j : Nat} {v' : Value} {E' : Ens} {wr : World} (h : OnR R w r v E c a k m l j v' E' wr) (hd : wakes l 0 ((Ens.dir E).take (j + 1)) = wakes l 0 ((Ens.dir E).take j)) : OnR R w r v E c a k m l (j + 1) v' E' wr :=
  ⟨h.disk, h.row, h.low, h.files, h.dir.trans hd.symm, Nat.le_succ_of_le h.few, h.chg⟩
theorem OnR.push {j : Nat} {v' : Value} {E' : Ens} {W : World} (h : OnR R w r v E c a k m l j v' E' W) (hR : ∀ b, w.heap.size ≤ b → R b) (hr : r < w.heap.size) (hvo : ∀ g, v.ownBlock = some g → g < w.heap.size) {f : FR} {n : Nam} {F : Fil} (hf : FileR R W f n F) {v2 : Value} {w2 : World}
    (ho : w2.ownsRow 0 tF 5 v2 (E'.length + 1) (Ens.cells E' ++ f.cells)) (hc : Chg (fun k => v'.ownBlock = some k) W w2) (hw : ∀ k, v2.ownBlock = some k → v'.ownBlock = some k ∨ W.heap.size ≤ k) (hd : wakes l 0 ((Ens.dir E).take (j + 1)) = wakes l 0 ((Ens.dir E).take j) ++ [(n, F)]) :
    OnR R w r v E c a k m l (j + 1) v2 (E' ++ [(f, (n, F))]) w2 := by
  have hA : Apart (fun k => v'.ownBlock = some k) W := by
    intro k hk cur t fz hb
    obtain ⟨cur', hh⟩ := row_type h.row.1 hk
    rw [hb] at hh
    simp only [Option.some.injEq, Obj.cells.injEq] at hh
    rw [hh.2.1]
    decide
  have hlow : ∀ g, v2.ownBlock = some g → w.heap.size ≤ g := fun g hg => by
    rcases hw g hg with e | e
    · exact h.low g e
    · have := h.chg.size; omega
  have he : Ens.cells (E' ++ [(f, (n, F))]) = Ens.cells E' ++ f.cells := by rw [Ens.cells_append]; simp [Ens.cells]
  refine ⟨h.disk.kept hc (fun e => by have := h.low r e; omega) (fun g hg e => by have := h.low g e; have := hvo g hg; omega) hA, ⟨?_, fun g hg => hR g (hlow g hg)⟩, hlow, ?_, ?_, ?_, h.chg.then hc (fun i _ hi => Or.inl (h.low i hi))⟩
  · rw [he, List.length_append]
    exact ho
  · intro x hx
    rcases List.mem_append.1 hx with hx | hx
    · exact (h.files x hx).kept hc hA
    · rw [List.mem_singleton] at hx
      subst hx
      exact hf.kept hc hA
  · rw [hd, ← h.dir]
    unfold Ens.dir
    rw [List.map_append]
    rfl
  · rw [List.length_append]
    have := h.few
    simp only [List.length_singleton]
    omega
theorem dir_take (j : Nat) (hj : j < E.length) : (Ens.dir E).take (j + 1) = (Ens.dir E).take j ++ [E[j].2] := by
  rw [List.take_succ_eq_append_getElem (by rw [dir_len]; exact hj), dir_at]
theorem met_next (j : Nat) (hj : j < E.length) : metAll ((Ens.dir E).take (j + 1)) = counts (metAll ((Ens.dir E).take j)) E[j].2.2.ps := by
  rw [dir_take j hj]
  unfold metAll
  rw [List.foldl_append]
  rfl
theorem wakes_next (l : List Int) (j : Nat) (hj : j < E.length) : wakes l 0 ((Ens.dir E).take (j + 1)) = wakes l 0 ((Ens.dir E).take j) ++ (if E[j].2.2.lives l (metAll ((Ens.dir E).take j)) then [(E[j].2.1, E[j].2.2.woken l (metAll ((Ens.dir E).take j)))] else []) := by
  rw [dir_take j hj, wakes_append]
  simp only [wakes, List.append_nil]
  rfl
theorem met_few (fs : Dir) (h : ∀ e ∈ fs, e.2.ps.length ≤ 16384) : lensD fs ≤ fs.length * 16384 := by
  induction fs with
  | nil => exact Nat.le_refl _
  | cons e t ih =>
    have h1 := ih (fun x hx => h x (List.mem_cons_of_mem _ hx))
    have h2 := h e List.mem_cons_self
    unfold lensD at h1 ⊢
    rw [List.map_cons, List.sum_cons, List.length_cons]
    omega

set_option maxRecDepth 100000 in
set_option maxHeartbeats 4000000 in
theorem ron_up (D : DiskR R w r v E c a k m) (hR : ∀ b, w.heap.size ≤ b → R b) (hE8 : E.length ≤ 8) (hps : ∀ x ∈ E, x.2.2.ps.length ≤ 16384) (hd : c.down = true) (fv : Value) (hI : IntsAt w fv l) (hll : l.length ≤ maxLen) (hfv : ∀ b o n cap, fv = .slice (some ⟨b, o, none⟩) n cap → n ≠ 0 → ¬ R b) :
    Calls Tryz.prog 28 #[ptr r, fv] w fun e w' => e = .returned (.tuple #[]) ∧ RefOut R w r ⟨{ c with down := false }, wakes l 0 (Ens.dir E)⟩ w' := by
  obtain ⟨q0, q1, q2, q3, q4, q5, q6, q7⟩ := D.roots
  obtain ⟨z0, z1, z2, z3, z4, z5, z6, z7⟩ := D.frees
  rw [hd] at q2
  have hr := lt_of_block D.blk
  have hRr := D.own
  have hvo : ∀ g, v.ownBlock = some g → g < w.heap.size := fun g hg => (D.row.1.lt g hg).2
  have C1 : Chg (· = r) w (w.setCell ⟨r, 2, none⟩ (.bool false)) := (Chg.refl _ _).root _ _
  have D1 : DiskR R (w.setCell ⟨r, 2, none⟩ (.bool false)) r v E { c with down := false } a k m := D.turn C1 (blk_set D.blk 2 _) D.ctl
  have hs1 : (w.setCell ⟨r, 2, none⟩ (.bool false)).heap.size = w.heap.size := set_size ..
  have hb2 : Below (w.setCell ⟨r, 2, none⟩ (.bool false)).heap.size (w.setCell ⟨r, 2, none⟩ (.bool false)) ((w.setCell ⟨r, 2, none⟩ (.bool false)).alloc (.cells #[] tF)) := (Below.refl _ _).alloc (Nat.le_refl _) _
  have O0 : OnR R w r v E { c with down := false } a k m l 0 (.slice (some ⟨w.heap.size, 0, none⟩) 0 0) [] ((w.setCell ⟨r, 2, none⟩ (.bool false)).alloc (.cells #[] tF)) := by
    refine ⟨D1.kept (F := fun _ => False) (Chg.of_below hb2) (fun h => h) (fun _ _ h => h) (Apart.none _), ⟨?_, fun g hg => hR g (by simp [Value.ownBlock] at hg; omega)⟩, fun g hg => by simp [Value.ownBlock] at hg; omega, fun x hx => (by cases hx), ?_, Nat.le_refl _, C1.trans (Chg.of_below hb2)⟩
    · have := World.ownsRow_made (w.setCell ⟨r, 2, none⟩ (.bool false)) #[] 0 (e := tF) (size := 5) (Nat.zero_le _) (by decide) rfl
      rw [hs1] at this
      exact this
    · rw [List.take_zero]
      rfl
  have HO := hid O0
  have HD := hid D1
  have hmk : ∀ j, j ≤ E.length → metAll ((Ens.dir E).take j) ≤ 1000000 := fun j hj => by
    have h1 := metAll_le ((Ens.dir E).take j)
    have h2 := lensD_take (Ens.dir E) j
    have h3 := met_few (Ens.dir E) (fun e he => by
      unfold Ens.dir at he
      obtain ⟨x, hx, rfl⟩ := List.mem_map.1 he
      exact hps x hx)
    rw [dir_len] at h3
    have : E.length * 16384 ≤ 8 * 16384 := Nat.mul_le_mul_right _ hE8
    omega
  obtain ⟨ao, cap, hv, hao⟩ := row_shape D.row.1
  subst hv
  have HMK := hid hmk
  clear O0 D1 C1 hb2 q1 q3 q4 q5 q6 q7 z1 z3 z4 z5 z6 z7 hmk
  go_enter Tryz.func28, Tryz.ntmps28
  go_wp2_with fail
  go_loopw [4, 5, 6] (fun o u i wr => ∃ (j : Nat) (E' : Ens), j ≤ E.length ∧ i = .int .i64 j ∧ u = .int .i64 (metAll ((Ens.dir E).take j) : Nat) ∧ OnR R w r (.slice ao E.length cap) E { c with down := false } a k m l j o E' wr) (fun _ _ i _ => E.length - (intOf i).toNat)
  case atStart => exact ⟨0, [], Nat.zero_le _, rfl, rfl, HO.out⟩
  case round =>
    obtain ⟨j, E', hj, rfl, rfl, hO⟩ := hrel
    have HOn := hid hO
    have p0 := hO.disk.roots.1
    have hrw := lt_of_block hO.disk.blk
    obtain ⟨aO, cO, hvO, haO⟩ := row_shape hO.row.1
    subst hvO
    by_cases hlt : j < E.length
    · obtain ⟨g, hg, hgl⟩ := hao (by omega)
      subst hg
      obtain ⟨aN, cN, aS, cS, aW, cW, eN, eS, eW, x0, x1, x2, x3, x4⟩ := hO.disk.file hlt
      have hF := hO.disk.files E[j] (List.getElem_mem hlt)
      have hgr := (hO.disk.row.1.lt g rfl).2
      have hsz := hO.chg.size
      have hIr : IntsAt wr fv l := hI.kept hO.chg (fun b o n cap e hn hb => hfv b o n cap e hn (by rw [hb]; exact hRr))
      have hps' := hps E[j] (List.getElem_mem hlt)
      have HM := hid (met_next j hlt)
      have HW := hid (wakes_next l j hlt)
      have H1 := fated_any hF (fun b hb => hR b (by omega)) hps' fv l hIr hll (metAll ((Ens.dir E).take j)) (HMK.out j hj)
      obtain ⟨K, hK⟩ : ∃ K, metAll ((Ens.dir E).take j) = K := ⟨_, rfl⟩
      have HK := hid hK
      rw [hK] at H1 ⊢
      generalize hX : E[j].1 = X at *
      obtain ⟨xn, xv, xs, xw, xu⟩ := X
      simp only at eN eS eW x0 x4 H1
      subst eN eS eW
      have H1 := hid H1
      clear hO hIr hF hK
      go_wp2_with fail
      refine H1.out.mono ?_
      rintro e w5 ⟨⟨f', rfl, hf'⟩, hb5⟩
      have O5 := hid (HOn.out.on hb5)
      obtain ⟨fn, fno, fsa, fwa, fsu⟩ := f'
      simp only
      obtain ⟨n1, n2, eN, -⟩ := row_shape hf'.now.1
      obtain ⟨n3, n4, eS, -⟩ := row_shape hf'.safe.1
      obtain ⟨n5, n6, eW, -⟩ := row_shape hf'.wait.1
      simp only at eN eS eW
      subst eN eS eW
      have hsu : fsu = E[j].2.2.sure := hf'.sure
      have HF := hid hf'
      have hWL := woken_len E[j].2.2 l K
      have HLV := hid (show E[j].2.2.lives l K = (fsu || (E[j].2.2.woken l K).ps.length != 0) by rw [hWL, hsu]; rfl)
      obtain ⟨N, hN⟩ : ∃ N, (E[j].2.2.woken l K).ps.length = N := ⟨_, rfl⟩
      have HN := hid hN
      rw [hN]
      have hbW : Below w5.heap.size w5 (w5.alloc (.cells #[.string fn, .slice n1 N n2, .slice n3 N n4, .slice n5 N n6, .bool true] tF)) := (Below.refl _ _).alloc (Nat.le_refl _) _
      have hbV : Below w5.heap.size w5 (w5.alloc (.cells #[.string fn, .slice n1 N n2, .slice n3 N n4, .slice n5 N n6, .bool false] tF)) := (Below.refl _ _).alloc (Nat.le_refl _) _
      have O6 := O5.out.on hbW
      have hf5 := HF.out
      rw [hN] at hf5
      have hf6 : FileR R (w5.alloc (.cells #[.string fn, .slice n1 N n2, .slice n3 N n4, .slice n5 N n6, .bool true] tF)) ⟨fn, .slice n1 N n2, .slice n3 N n4, .slice n5 N n6, true⟩ E[j].2.1 (E[j].2.2.woken l K) := by
        have := hf5.kept (F := fun _ => False) (Chg.of_below hbW) (Apart.none _)
        exact ⟨this.name, rfl, this.now, this.safe, this.wait⟩
      obtain ⟨v2, w6, hr6, ho6, hc6, hw6⟩ := push_file O6.row.1 ⟨fn, .slice n1 N n2, .slice n3 N n4, .slice n5 N n6, true⟩ ⟨rfl, rfl, rfl⟩ (by have := O6.few; omega)
      have O7 := fun hd => hid (OnR.push O6 hR hr hvo hf6 ho6 hc6 hw6 hd)
      obtain ⟨a2, c2, e2, -⟩ := row_shape ho6
      subst e2
      rw [show (w5.alloc (.cells #[.string fn, .slice n1 N n2, .slice n3 N n4, .slice n5 N n6, .bool true] tF)).heap.size = w5.heap.size + 1 by simp] at hr6
      have HR6 := hid hr6
      have HV := hid (O5.out.on hbV)
      clear hf' hsu hWL hN hb5 H1 O6 hf5 hf6 hr6 ho6 hc6 hw6 hbW hbV
      cases fsu with
      | true =>
        have O8 := O7 (by rw [HW.out, HK.out, if_pos (by rw [HLV.out]; rfl)])
        clear O7
        go_wp2_with (at_builtin; refine wpList_append_run rfl (.tmp 54) (.tmp 56) tFs tFs rfl _ _ (by simp [Act.eval]) (by simp [Act.eval]) HR6.out ?_)
        go_roundw
        case rel => exact ⟨j + 1, _, by omega, congrArg (Value.int .i64) (by omega), by rw [HM.out, HK.out], O8.out⟩
        case measure => simp [intOf]; omega
      | false =>
        by_cases h0 : N = 0
        · have O8 := hid (HV.out.skip (by rw [HW.out, HK.out, if_neg (by rw [HLV.out, HN.out, h0]; decide), List.append_nil]))
          clear O7
          subst h0
          go_wp2_with fail
          go_roundw
          case rel => exact ⟨j + 1, _, by omega, congrArg (Value.int .i64) (by omega), by rw [HM.out, HK.out], O8.out⟩
          case measure => simp [intOf]; omega
        · have hpos : 0 < N := by omega
          have O8 := O7 (by rw [HW.out, HK.out, if_pos (by rw [HLV.out, HN.out]; simpa using h0)])
          clear O7
          go_wp2_with (at_builtin; refine wpList_append_run rfl (.tmp 54) (.tmp 56) tFs tFs rfl _ _ (by simp [Act.eval]) (by simp [Act.eval]) HR6.out ?_)
          go_roundw
          case rel => exact ⟨j + 1, _, by omega, congrArg (Value.int .i64) (by omega), by rw [HM.out, HK.out], O8.out⟩
          case measure => simp [intOf]; omega
    · have hjq : j = E.length := by omega
      subst hjq
      have zf := HOn.out.disk.frees.1
      go_wp2_with fail
      go_end0
      have D' := HOn.out.disk.rowed HOn.out.row HOn.out.files
      exact ⟨rfl, ⟨_, E', a, k, m, D'.1, HOn.out.dir.trans (by rw [List.take_of_length_le (by rw [dir_len]; exact Nat.le_refl _)])⟩, (HOn.out.chg.trans D'.2).mono (fun k _ e => by rw [e]; exact hRr)⟩

set_option maxRecDepth 100000 in
/-- On, up or down. -/
theorem ron_any {M : Mod} (hG : Good M) (h : Refs R r M w) (hR : ∀ b, w.heap.size ≤ b → R b) (fv : Value) (hI : IntsAt w fv l) (hll : l.length ≤ maxLen) (hfv : ∀ b o n cap, fv = .slice (some ⟨b, o, none⟩) n cap → n ≠ 0 → ¬ R b) :
    Calls Tryz.prog 28 #[ptr r, fv] w fun e w' => e = .returned (.tuple #[]) ∧ RefOut R w r (M.on l) w' := by
  obtain ⟨v, E, a, k, m, D, hE⟩ := h
  have h8 : E.length ≤ 8 := by
    rw [← dir_len, hE]
    exact hG.few
  have hps : ∀ x ∈ E, x.2.2.ps.length ≤ 16384 := fun x hx => hG.lens x.2 (by
    rw [← hE]
    exact List.mem_map_of_mem hx)
  cases hd : M.c.down with
  | true =>
    have H := ron_up D hR h8 hps hd fv hI hll hfv
    have e : M.on l = ⟨{ M.c with down := false }, wakes l 0 M.fs⟩ := by
      unfold Mod.on
      rw [if_pos hd]
    rw [hE] at H
    rw [e]
    exact H
  | false =>
    have e : M.on l = M := by
      unfold Mod.on
      rw [if_neg (by rw [hd]; decide)]
    rw [e]
    have HD := hid D
    have HE := hid hE
    obtain ⟨-, -, q2, -⟩ := D.roots
    rw [hd] at q2
    clear e D hE h8 hps
    go_enter Tryz.func28, Tryz.ntmps28
    go_wp2_with fail
    first
      | go_end0
      | (try simp only [Exit.inBlock, Exit.then]); refine bodyPost_ret (results_none rfl _ _ _) rfl ?_
    exact ⟨rfl, ⟨v, E, a, k, m, HD.out, HE.out⟩, Chg.refl _ _⟩
end
end Ref
end Go.Proofs.YtgmbiiocjhkpdaaGreat
