/-
  Put together: LogPK, LogPO, LogPI, LogPG.
-/
import Derived.Test.YtgmbiiocjhkpdaaGreatLogPR
/-
  Contracts of the project's log: keep (the first frames alone), Len, Sync, End, Back.
-/
namespace Go.Proofs.YtgmbiiocjhkpdaaGreat
open Go.RowKit Go.Shelf
namespace Lo
open Num (hid)
open Disk (Mod Fil Sees Stays)
open Mem (Bs bs tI Chg ptr blk_cell blk_free blk_new blk_set blk_other blk_alloc row_kept row_shape row_type append_from step_append_run wpList_append_run)
variable {O O' : Nat → Prop} {d m j b : Nat} {f f' : Value} {M M' : Mod} {fs fs' : List Fr} {w w' : World}
/-- The map is marked anew, up to k frames of gs. -/
structure KP (b : Nat) (gs : List Fr) (w1 : World) (k : Nat) (wr : World) : Prop where
  chg : Chg (· = b) w1 wr
  map : ∃ c, c ≤ k ∧ MapI wr b c (lookL (gs.take k))
theorem KP.mark {gs : List Fr} {w1 wr : World} {k : Nat} (h : KP b gs w1 k wr) (hk : k < gs.length) (hg : gs.length ≤ 20000) (hn : gs[k].1 < 4096) :
    ∃ w2, (Instr.mapUpdate tMi (.map (some b)) (.int .i64 (gs[k].1 : Nat)) (.int .i64 (k : Nat))).run Tryz.prog wr = .ok () w2 ∧ KP b gs w1 (k + 1) w2 := by
  obtain ⟨c, hc, hm⟩ := h.map
  obtain ⟨w2, hr, hm2, hc2⟩ := hm.put (wf_small (n := gs[k].1) (by omega)) (wf_small (n := k) (by omega)) (by omega)
  refine ⟨w2, hr, h.chg.trans hc2, c + 1, by omega, ?_⟩
  have e : gs.take (k + 1) = gs.take k ++ [gs[k]] := by rw [List.take_add_one, List.getElem?_eq_getElem hk]; rfl
  rw [e, lookL_snoc, List.length_take, Nat.min_eq_left (by omega)]
  exact hm2
theorem KP.alloc {gs : List Fr} {w1 wr : World} {k : Nat} (h : KP b gs w1 k wr) (o : Obj) : KP b gs w1 k (wr.alloc o) := by
  obtain ⟨c, hc, hm⟩ := h.map
  exact ⟨h.chg.alloc o, c, hc, hm.apart (F := fun _ => False) ((Chg.refl _ _).alloc o) (fun x => x)⟩
theorem KP.drew {gs : List Fr} {w1 wr : World} {k : Nat} (h : KP b gs w1 k wr) : KP b gs w1 k wr.drew := by
  obtain ⟨c, hc, hm⟩ := h.map
  exact ⟨h.chg.drew, c, hc, hm.apart (F := fun _ => False) ((Chg.refl _ _).drew) (fun x => x)⟩
theorem PL.kept_ {ao : Option Addr} {cap n : Nat} (h : PL O d m j b (.slice ao fs.length cap) M fs w) (hn : n ≤ fs.length) {wr : World} (hk : KP b (fs.take n) (w.setCell ⟨j, 1, none⟩ (.slice ao n cap)) n wr) : Left' O d m j b M (fs.take n) w wr := by
  obtain ⟨-, hcap, hrow⟩ := fr_cut h.row hn
  have hset : Chg (· = j) w (w.setCell ⟨j, 1, none⟩ (.slice ao n cap)) := (Chg.refl (· = j) w).root 1 _
  have hl : (fs.take n).length = n := by rw [List.length_take]; omega
  have eb : (Value.slice ao n cap).ownBlock = (Value.slice ao fs.length cap).ownBlock := by cases ao <;> rfl
  have hbox := blk_set h.box 1 (.slice ao n cap)
  obtain ⟨c, hc, hm⟩ := hk.map
  refine ⟨.slice ao n cap, h.turn (F := pX j b (.slice ao fs.length cap)) ((hset.mono (fun k _ e => Or.inl e)).trans (hk.chg.mono (fun k _ e => Or.inr (Or.inl e)))) (fun k e => e) (hk.chg.at ?_ h.ne) (row_kept (row_kept hrow hset (fun g hg e => h.nj (by rw [← eb, ← e]; exact hg))) hk.chg (fun g hg e => h.nb (by rw [← eb, ← e]; exact hg))) ⟨c, by rw [hl]; exact hc, ?_⟩ (fun k e => Or.inl (by rw [← eb]; exact e)) (by rw [hl]; have := h.few; omega) (fun x hx => h.small x (List.mem_of_mem_take hx)) (fun x hx => h.sums x (List.mem_of_mem_take hx))⟩
  · simpa [pCells] using hbox
  · have e : (fs.take n).take n = fs.take n := by rw [List.take_take, Nat.min_self]
    rw [e] at hm
    exact hm
theorem meas_lt {n k : Nat} (h : k < n) (hw : wrap64 ((k : Int) + 1) = (k : Int) + 1) : n - (intOf (.int .i64 (wrap64 ((k : Int) + 1)))).toNat < n - (intOf (.int .i64 (k : Int))).toNat := by rw [hw]; simp [intOf]; omega
set_option maxRecDepth 100000 in
set_option maxHeartbeats 4000000 in
theorem keep_any (h : PL O d m j b f M fs w) (n : Nat) (hn : n ≤ fs.length) : Calls Tryz.prog 70 #[ptr j, .int .i64 (n : Nat)] w fun e w' => e = .returned (.tuple #[]) ∧ Left' O d m j b M (fs.take n) w w' := by
  obtain ⟨ao, cap, rfl⟩ := h.shape
  obtain ⟨-, hcap, hrow⟩ := fr_cut h.row hn
  have hfew := h.few
  have c1 := h.c1
  have g1 : w.frozen? ⟨j, 1, none⟩ = false := blk_free h.box 1
  have lj := lt_of_block h.box
  obtain ⟨w1, hw1⟩ : ∃ x, w.setCell ⟨j, 1, none⟩ (.slice ao n cap) = x := ⟨_, rfl⟩
  have hset : Chg (· = j) w w1 := by rw [← hw1]; exact (Chg.refl (· = j) w).root 1 _
  have eb : (Value.slice ao n cap).ownBlock = (Value.slice ao fs.length cap).ownBlock := by cases ao <;> rfl
  have hbox1 : w1.heap[j]? = some (.cells (pCells d b (.slice ao n cap)) tLo (0, 0)) := by
    have := blk_set h.box 1 (.slice ao n cap)
    rw [← hw1]
    simpa [pCells] using this
  obtain ⟨c0, hc0, hm0⟩ := h.map
  obtain ⟨w2, hr2, hm2, hc2⟩ := (hm0.apart hset (fun e => h.ne e.symm)).clear 0
  have hrow1 := row_kept hrow hset (fun g hg e => h.nj (by rw [← eb, ← e]; exact hg))
  have hfb : ∀ g, (Value.slice ao n cap).ownBlock = some g → g ≠ b := fun g hg e => h.nb (by rw [← eb, ← e]; exact hg)
  have hl : (fs.take n).length = n := by rw [List.length_take]; omega
  obtain ⟨gs, hgs⟩ : ∃ gs, fs.take n = gs := ⟨_, rfl⟩
  have HEND : Hid (∀ wr, KP b gs w1 n wr → Left' O d m j b M gs w wr) := hid (fun wr hk => by subst hgs; subst hw1; exact h.kept_ hn hk)
  have HSM : Hid (∀ x ∈ gs, x.1 < 4096) := hid (fun x hx => h.small x (List.mem_of_mem_take (by rw [hgs]; exact hx)))
  rw [hgs] at hl hrow1 ⊢
  have HROW : Hid (∀ wr, Chg (· = b) w1 wr → wr.ownsRow 0 tFr 2 (.slice ao n cap) gs.length (gs.flatMap frV)) := hid (fun wr hc => row_kept hrow1 hc (fun g hg e => hfb g hg e))
  have hjb : ¬ j = b := h.ne
  have HB2 : Hid (∀ wr, Chg (· = b) w1 wr → wr.heap[j]? = some (.cells (pCells d b (.slice ao n cap)) tLo (0, 0))) := hid (fun wr hc => hc.at hbox1 hjb)
  have HK0 : Hid (KP b gs w1 0 w2) := hid ⟨hc2, 0, Nat.le_refl _, hm2⟩
  have HW := hid hw1
  have HL := hid hl
  have HFEW := hid hfew
  have HN := hid hn
  have k1 : w1.cell? ⟨j, 1, none⟩ = some (.slice ao n cap) := blk_cell hbox1 1
  have k2 : w1.cell? ⟨j, 2, none⟩ = some (.map (some b)) := blk_cell hbox1 2
  have hncap : (n : Int) ≤ (cap : Int) := by omega
  have HR2 := hid hr2
  clear h hrow hrow1 hset hm0 hc0 hm2 hc2 hw1 hgs hfb hbox1 hcap eb hl hfew hn hr2
  go_enter Tryz.func70, Tryz.ntmps70
  go_upto_region 1 with fail
  rw [HW.out]
  have hr2 := HR2.out
  go_upto_region 2 with fail
  have m1 : w2.cell? ⟨j, 1, none⟩ = some (.slice ao n cap) := blk_cell (HB2.out w2 HK0.out.chg) 1
  clear hr2 c1 g1 k1 k2
  go_wp2_with fail
  go_loopw [24] (fun iv wr => ∃ k : Nat, k ≤ n ∧ iv = .int .i64 k ∧ Hid (KP b gs w1 k wr)) (fun iv _ => n - (intOf iv).toNat)
  case atStart => exact ⟨0, Nat.zero_le _, rfl, HK0⟩
  case round =>
    obtain ⟨k, hk, rfl, HK⟩ := hrel
    by_cases hlt : (k : Int) < (n : Int)
    · have HLT : Hid (k < n) := hid (by omega)
      have hkl : k < gs.length := by have := HL.out; omega
      obtain ⟨g, rfl, hg, hc, q0, q1⟩ := fr_at (HROW.out wr HK.out.chg) k hkl
      have hsm := HSM.out gs[k] (List.getElem_mem hkl)
      obtain ⟨w3, hw3⟩ : ∃ x, wr.alloc (.cells #[.int .i64 (gs[k].1 : Nat), .int .u64 (gs[k].2 : Nat)] tFr) = x := ⟨_, rfl⟩
      have hK3 : KP b gs w1 k w3 := by rw [← hw3]; exact HK.out.alloc _
      have hq3 : w3.heap[wr.heap.size]? = some (.cells #[.int .i64 (gs[k].1 : Nat), .int .u64 (gs[k].2 : Nat)] tFr (0, 0)) := by rw [← hw3]; exact blk_new wr _
      obtain ⟨w4, hr4, hK4⟩ := hK3.drew.mark hkl (by have := HL.out; have := HN.out; have := HFEW.out; omega) hsm
      have t0 : w3.cell? ⟨wr.heap.size, 0, none⟩ = some (.int .i64 (gs[k].1 : Nat)) := blk_cell hq3 0
      have t2 : w3.cell? ⟨j, 2, none⟩ = some (.map (some b)) := blk_cell (HB2.out w3 hK3.chg) 2
      have HK4 := hid hK4
      have HR4 := hid hr4
      have HW3 := hid hw3
      have hwk : wrap64 ((k : Int) + 1) = (k : Int) + 1 := by rw [Num.wrap_i]; have := HN.out; have := HFEW.out; omega
      clear hK3 hq3 hK4 hr4 hsm hw3
      generalize gs[k] = x at *
      obtain ⟨x1, x2⟩ := x
      go_upto_region 5 with fail
      rw [HW3.out]
      have hr4 := HR4.out
      go_region
      go_wp2
      all_goals
        go_roundw
        case rel => exact ⟨k + 1, HLT.out, by go_num, HK4⟩
        case measure => exact meas_lt HLT.out hwk
    · obtain rfl : k = n := by omega
      go_wp2
      go_end0
      exact ⟨rfl, HEND.out wr HK.out⟩
end Lo
end Go.Proofs.YtgmbiiocjhkpdaaGreat

/-
  Contracts of the project's log: the disk's calls beside it; read, trim, Open.
-/
namespace Go.Proofs.YtgmbiiocjhkpdaaGreat
open Go.RowKit Go.Shelf
namespace Lo
open Num (hid)
open Disk (Mod Fil Sees Stays size_sees write_sees drop_sees sync_sees cut_sees read_sees)
open Mem (Bs bs tI Chg ptr blk_cell blk_free blk_new blk_set blk_other blk_alloc row_kept row_shape row_type)
variable {O O' : Nat → Prop} {d m j b : Nat} {f f' : Value} {M M' : Mod} {fs fs' : List Fr} {w w' : World}
theorem PL.size_ (h : PL O d m j b f M fs w) : Calls Tryz.prog 38 #[ptr d, .string lS] w fun e w' => e = .returned (.int .i64 (M.size ln)) ∧ w = w' := size_sees h.disk lS (by decide)
theorem PL.drop_ (h : PL O d m j b f M fs w) : Calls Tryz.prog 71 #[ptr d, .string lS] w fun e w' => e = .returned (.int .i64 (M.drop ln).1) ∧ PL O d m j b f (M.drop ln).2 fs w' ∧ Stays O w w' := by
  refine (drop_sees h.disk lS (by decide)).mono ?_
  rintro e w' ⟨rfl, h1, h2⟩
  exact ⟨rfl, h.over h1 h2, PL.stays h2⟩
theorem PL.sync_ (h : PL O d m j b f M fs w) : Calls Tryz.prog 65 #[ptr d, .string lS] w fun e w' => e = .returned (.int .i64 (M.sync ln).1) ∧ PL O d m j b f (M.sync ln).2 fs w' ∧ Stays O w w' := by
  refine (sync_sees h.disk lS (by decide)).mono ?_
  rintro e w' ⟨rfl, h1, h2⟩
  exact ⟨rfl, h.over h1 h2, PL.stays h2⟩
theorem PL.cut_ (h : PL O d m j b f M fs w) (k : Int) : Calls Tryz.prog 69 #[ptr d, .string lS, .int .i64 k] w fun e w' => e = .returned (.int .i64 (M.cut ln k).1) ∧ PL O d m j b f (M.cut ln k).2 fs w' ∧ Stays O w w' := by
  refine (cut_sees h.disk lS (by decide) k).mono ?_
  rintro e w' ⟨rfl, h1, h2⟩
  exact ⟨rfl, h.over h1 h2, PL.stays h2⟩
theorem PL.read_ (h : PL O d m j b f M fs w) (i : Nat) (hi : i ≤ 1000000) : Calls Tryz.prog 67 #[ptr d, .string lS, .int .i64 (i : Nat)] w fun e w' => e = .returned (.tuple #[.string (bs (M.read ln i).1), .int .i64 (M.read ln i).2.1]) ∧ PL O d m j b f (M.read ln i).2.2 fs w' ∧ Stays O w w' := by
  refine (read_sees h.disk lS (by decide) (i : Int) (by omega)).mono ?_
  rintro e w' ⟨rfl, h1, h2⟩
  exact ⟨rfl, h.over h1 h2, PL.stays h2⟩
theorem PL.write_ (h : PL O d m j b f M fs w) (i : Nat) (s : Bs) (hs : s.length = 256) : Calls Tryz.prog 56 #[ptr d, .string lS, .int .i64 (i : Nat), .string (bs s)] w fun e w' => e = .returned (.int .i64 (M.write ln i s).1) ∧ PL O d m j b f (M.write ln i s).2 fs w' ∧ Stays O w w' := by
  refine (write_sees h.disk lS (by decide) (i : Int) (bs s) (by rw [bs_len hs]; decide)).mono ?_
  rintro e w' ⟨rfl, h1, h2⟩
  exact ⟨rfl, h.over h1 h2, PL.stays h2⟩
/-- How many sectors a file has at most. -/
theorem size_le (h : Sees O d m M w) (n : Disk.Nam) : M.size n ≤ 16384 := by
  obtain ⟨tag, L, D, hL, _, _⟩ := h
  unfold Disk.Mod.size
  cases hg : Disk.get? M.fs n with
  | none => simp
  | some F =>
    rw [← hL] at hg
    have hm : (n, F) ∈ Disk.dirOf L := by
      unfold Disk.get? at hg
      obtain ⟨e, he, h2⟩ := Option.map_eq_some_iff.1 hg
      have h3 := List.mem_of_find?_eq_some he
      have h4 := List.find?_some he
      have h5 : e.1 = n := by simpa using h4
      rw [← h5, ← h2]
      exact h3
    obtain ⟨e, he, h2⟩ := List.mem_map.1 hm
    obtain ⟨v, Q, hf⟩ := D.files e he
    have hF : e.2.2 = F := (Prod.mk.inj h2).2
    show (F.ps.length : Int) ≤ 16384
    rw [← hF, hf.ps, List.length_map]
    have := hf.len
    omega
/-- While the sectors are read. -/
structure RdI (O : Nat → Prop) (d m j b : Nat) (X : Int × List Fr × Nat × Mod) (N i st : Nat) (w wr : World) : Prop where
  pl : ∃ f' fs' M', PL O d m j b f' M' fs' wr ∧ fs'.length ≤ i ∧ X = readP (N - i) i fs' st M'
  stays : Stays O w wr
def ReadPost (O : Nat → Prop) (d m j b : Nat) (X : Int × List Fr × Nat × Mod) (w : World) (e : Ending) (w' : World) : Prop :=
  e = .returned (.tuple #[.int .i64 (if X.1 = 0 then X.2.2.1 else 0 : Nat), .int .i64 X.1]) ∧ Left' O d m j b X.2.2.2 X.2.1 w w'
theorem read_end {X : Int × List Fr × Nat × Mod} {gs : List Fr} {st : Nat} (hX : X = (0, gs, st, M)) (h : PL O d m j b f M gs w') (hs : Stays O w w') :
    ReadPost O d m j b X w (.returned (.tuple #[.int .i64 (st : Nat), .int .i64 0])) w' := by
  subst hX
  exact ⟨rfl, f, h, hs⟩
theorem read_err {X : Int × List Fr × Nat × Mod} {gs : List Fr} {r : Int} (hr : r ≠ 0) (hX : X = (r, gs, 0, M)) (h : PL O d m j b f M gs w') (hs : Stays O w w') :
    ReadPost O d m j b X w (.returned (.tuple #[.int .i64 0, .int .i64 r])) w' := by
  subst hX
  refine ⟨?_, f, h, hs⟩
  show _ = Ending.returned (.tuple #[.int .i64 (if r = 0 then 0 else 0 : Nat), .int .i64 r])
  rw [if_neg hr]
  rfl
theorem meas_lt' {n k : Nat} (h : k < n) : n - (intOf (.int .i64 ((k : Int) + 1))).toNat < n - (intOf (.int .i64 (k : Int))).toNat := by simp [intOf]; omega
theorem sub_succ {N i : Nat} (h : i < N) : N - i = (N - (i + 1)) + 1 := by omega
theorem readP_succ (k i : Nat) (fs : List Fr) (st : Nat) (M : Mod) : readP (k + 1) i fs st M =
    if (M.read ln i).2.1 ≠ 0 ∧ (M.read ln i).2.1 ≠ 13 then ((M.read ln i).2.1, fs, 0, (M.read ln i).2.2)
    else match takeP i fs (M.read ln i).1 with
      | none => (0, fs, st, (M.read ln i).2.2)
      | some g => readP k (i + 1) g.1 (if g.2 then i + 1 else st) (M.read ln i).2.2 := rfl
theorem takeP_len {i : Nat} {fs : List Fr} {s : Bs} {g : List Fr × Bool} (h : takeP i fs s = some g) : g.1.length ≤ fs.length + 1 ∧ (i = 0 → g.1 = fs) := by
  unfold takeP at h
  split at h
  · split at h
    · cases h; exact ⟨Nat.le_succ _, fun _ => rfl⟩
    · cases h
  · rename_i hi
    split at h
    · cases h
    · split at h
      · cases h
      · cases h; exact ⟨by rw [List.length_append]; exact Nat.le_refl _, fun e => absurd e hi⟩
set_option maxRecDepth 100000 in
set_option maxHeartbeats 4000000 in
theorem read_any_ (h : PL O d m j b f M [] w) : Calls Tryz.prog 49 #[ptr j] w (ReadPost O d m j b (readP (M.size ln).toNat 0 [] 0 M) w) := by
  obtain ⟨X, hX⟩ : ∃ X, readP (M.size ln).toNat 0 [] 0 M = X := ⟨_, rfl⟩
  rw [hX]
  have HSZ := hid h.size_
  have hle := size_le h.disk ln
  have c0 := h.c0
  have HI0 : Hid (RdI O d m j b X (M.size ln).toNat 0 0 w w) := hid ⟨⟨f, [], M, h, Nat.le_refl _, by rw [Nat.sub_zero]; exact hX.symm⟩, Disk.Stays.refl _ _⟩
  obtain ⟨n, hn⟩ : ∃ n, (M.size ln).toNat = n := ⟨_, rfl⟩
  obtain ⟨sz, hsz⟩ : ∃ sz, M.size ln = sz := ⟨_, rfl⟩
  rw [hn] at HI0
  rw [hsz] at HSZ hle hn
  have hn2 : n ≤ 16384 := by omega
  have HNS : Hid (sz.toNat = n) := hid hn
  clear h hX hn hsz
  go_enter Tryz.func49, Tryz.ntmps49
  go_wp2_with fail
  refine HSZ.out.mono ?_
  rintro e w1 ⟨rfl, rfl⟩
  clear c0
  go_wp2_with fail
  go_loopw [4, 15] (fun sv iv wr => ∃ i st : Nat, i ≤ n ∧ sv = .int .i64 st ∧ iv = .int .i64 i ∧ Hid (RdI O d m j b X n i st w wr)) (fun _ iv _ => n - (intOf iv).toNat)
  case atStart => exact ⟨0, 0, Nat.zero_le _, rfl, rfl, HI0⟩
  case round =>
    obtain ⟨i, st, hi, rfl, rfl, HI⟩ := hrel
    obtain ⟨⟨f1, fs1, M1, hpl, hlen, hx⟩, hst⟩ := HI.out
    have HST := hid hst
    by_cases hlt : (i : Int) < sz
    · have HLT : Hid (i < n) := hid (by have := HNS.out; omega)
      rw [sub_succ HLT.out, readP_succ] at hx
      have HL := hid hlen
      have HPL := hid hpl
      have hrd := hpl.read_ i (by omega)
      have e0 := hpl.c0
      obtain ⟨Y, hY⟩ : ∃ Y, M1.read ln i = Y := ⟨_, rfl⟩
      rw [hY] at hx hrd
      obtain ⟨s, r, M2⟩ := Y
      have hfl : fs1.length < 20000 := by omega
      by_cases hr : r ≠ 0 ∧ r ≠ 13
      · have hr1 : (r != 0) = true := by simp [hr.1]
        have hr2 : (r != 13) = true := by simp [hr.2]
        have hx2 : X = (r, fs1, 0, M2) := hx.trans (if_pos hr)
        have HX2 := hid hx2
        have HR0 := hid hr.1
        have HRD := hid hrd
        clear hr hx hx2 hrd hY hpl hst hlen
        go_wp2_with fail
        refine HRD.out.mono ?_
        rintro e w2 ⟨rfl, h2, hs2⟩
        have HEND := hid (read_err HR0.out HX2.out h2 (HST.out.trans hs2))
        clear h2 hs2 e0
        go_wp2
        refine bodyPost_ret (v := .tuple #[.int .i64 0, .int .i64 r]) (by simp [results, go_sem]) rfl ?_
        exact HEND.out
      · have hr' : r = 0 ∨ r = 13 := by
          by_cases h0 : r = 0
          · exact Or.inl h0
          · by_cases h1 : r = 13
            · exact Or.inr h1
            · exact absurd ⟨h0, h1⟩ hr
        have hx2 := hx.trans (if_neg hr)
        have HRD := hid hrd
        have HFL := hid hfl
        clear hr hx hrd hY hpl hst hlen hfl
        cases htp : takeP i fs1 s with
        | none =>
          simp only [htp] at hx2
          have HX2 := hid hx2
          have HTP := hid htp
          clear hx2 htp
          rcases hr' with rfl | rfl
          all_goals
            go_wp2_with fail
            refine HRD.out.mono ?_
            rintro e w2 ⟨rfl, h2, hs2⟩
            have H2 := hid h2
            have HS2 := hid (HST.out.trans hs2)
            have htr := takeRight_any h2 i (by omega) s HFL.out
            rw [HTP.out] at htr
            have HTR := hid htr
            clear h2 hs2 e0 htr
            go_wp2_with fail
            refine HTR.out.mono ?_
            rintro e w3 ⟨rfl, f3, h3, hs3⟩
            have HEND := hid (read_end HX2.out h3 (HS2.out.trans hs3))
            clear h3 hs3
            go_wp2
            refine bodyPost_ret (v := .tuple #[.int .i64 (st : Nat), .int .i64 0]) (by simp [results, go_sem]) rfl ?_
            exact HEND.out
        | some g =>
          obtain ⟨gs, c⟩ := g
          simp only [htp] at hx2
          have HX2 := hid hx2
          have HTP := hid htp
          have HGL : Hid (gs.length ≤ i + 1) := hid (by have h1 : gs.length ≤ fs1.length + 1 := (takeP_len htp).1; have := HL.out; omega)
          have hwk : wrap64 ((i : Int) + 1) = (i : Int) + 1 := by rw [Num.wrap_i]; omega
          clear hx2 htp
          cases c
          all_goals
            rcases hr' with rfl | rfl
            all_goals
              go_wp2_with fail
              refine HRD.out.mono ?_
              rintro e w2 ⟨rfl, h2, hs2⟩
              have H2 := hid h2
              have HS2 := hid (HST.out.trans hs2)
              have htr := takeRight_any h2 i (by omega) s HFL.out
              rw [HTP.out] at htr
              have HTR := hid htr
              clear h2 hs2 e0 htr
              go_wp2_with fail
              refine HTR.out.mono ?_
              rintro e w3 ⟨rfl, f3, h3, hs3⟩
              have HNX := hid (RdI.mk ⟨f3, gs, M2, h3, HGL.out, HX2.out⟩ (HS2.out.trans hs3))
              clear h3 hs3
              go_wp2
              go_roundw
              case rel => exact ⟨i + 1, _, HLT.out, by go_num, by go_num, HNX⟩
              case measure => exact meas_lt' HLT.out
    · have hin : i = n := by have := HNS.out; omega
      subst hin
      rw [Nat.sub_self] at hx
      have HEND := hid (read_end (st := st) hx hpl hst)
      clear hx hpl hst hlen
      go_wp2
      refine bodyPost_ret (v := .tuple #[.int .i64 (st : Nat), .int .i64 0]) (by simp [results, go_sem]) rfl ?_
      exact HEND.out
end Lo
end Go.Proofs.YtgmbiiocjhkpdaaGreat

/-
  Contract of the project's log: trim; Open.
-/
namespace Go.Proofs.YtgmbiiocjhkpdaaGreat
open Go.RowKit Go.Shelf
namespace Lo
open Num (hid)
open Disk (Mod Fil Sees Stays size_sees write_sees drop_sees sync_sees cut_sees read_sees)
open Mem (Bs bs tI Chg ptr blk_cell blk_free blk_new blk_set blk_other blk_alloc row_kept row_shape row_type)
variable {O O' : Nat → Prop} {d m j b : Nat} {f f' : Value} {M M' : Mod} {fs fs' : List Fr} {w w' : World}
theorem max_pred (st : Nat) : max ((st : Int) - 1) 0 = ((st - 1 : Nat) : Int) := by omega
def TrimPost (O : Nat → Prop) (d m j b : Nat) (X : Int × Mod) (gs : List Fr) (w : World) (e : Ending) (w' : World) : Prop := e = .returned (.int .i64 X.1) ∧ Left' O d m j b X.2 gs w w'
set_option maxRecDepth 100000 in
set_option maxHeartbeats 4000000 in
theorem trim_any (h : PL O d m j b f M fs w) (st : Nat) (hst : st - 1 ≤ fs.length) : Calls Tryz.prog 50 #[ptr j, .int .i64 (st : Nat)] w (TrimPost O d m j b (trimP st M) (fs.take (st - 1)) w) := by
  obtain ⟨X, hX⟩ : ∃ X, trimP st M = X := ⟨_, rfl⟩
  rw [hX]
  have hX' : (if 0 ≤ M.size ln ∧ st = 0 then M.drop ln else if (st : Int) < M.size ln then M.cut ln st else (0, M)) = X := hX
  have HK := hid (keep_any h (st - 1) hst)
  have hmx := max_pred st
  obtain ⟨gs, hgs⟩ : ∃ gs, fs.take (st - 1) = gs := ⟨_, rfl⟩
  rw [hgs] at HK ⊢
  have hmn : (st : Int) ≤ 100000 := by have := h.few; omega
  obtain ⟨q, hq⟩ : ∃ q, st - 1 = q := ⟨_, rfl⟩
  rw [hq] at HK hmx
  clear h hX hgs hst hq
  go_enter Tryz.func50, Tryz.ntmps50
  go_wp2_with fail
  refine HK.out.mono ?_
  rintro e w1 ⟨rfl, f1, h1, hs1⟩
  have H1 := hid h1
  have HS1 := hid hs1
  have HSZ := hid h1.size_
  have c1 := h1.c0
  clear h1 hs1
  by_cases h0 : 0 ≤ M.size ln ∧ st = 0
  · have HX : Hid (X = M.drop ln) := hid (hX'.symm.trans (if_pos h0))
    obtain ⟨h0a, rfl⟩ := h0
    clear hX'
    generalize M.size ln = sz at *
    go_wp2_with fail
    refine HSZ.out.mono ?_
    rintro e w2 ⟨rfl, rfl⟩
    go_wp2_with fail
    refine H1.out.drop_.mono ?_
    rintro e w3 ⟨rfl, h3, hs3⟩
    have HEND : Hid (TrimPost O d m j b X gs w (.returned (.int .i64 (M.drop ln).1)) w3) := hid (by rw [HX.out]; exact ⟨rfl, f1, h3, HS1.out.trans hs3⟩)
    clear h3 hs3 c1
    go_wp2
    go_ret
    exact HEND.out
  · by_cases hc : (st : Int) < M.size ln
    · have HX : Hid (X = M.cut ln st) := hid (hX'.symm.trans ((if_neg h0).trans (if_pos hc)))
      have hst0 : ((st : Int) == 0) = false := by simp; omega
      have hsz0 : 0 ≤ M.size ln := by omega
      clear hX' h0
      generalize M.size ln = sz at *
      go_wp2_with fail
      refine HSZ.out.mono ?_
      rintro e w2 ⟨rfl, rfl⟩
      go_wp2_with fail
      refine (H1.out.cut_ (st : Int)).mono ?_
      rintro e w3 ⟨rfl, h3, hs3⟩
      have HEND : Hid (TrimPost O d m j b X gs w (.returned (.int .i64 (M.cut ln st).1)) w3) := hid (by rw [HX.out]; exact ⟨rfl, f1, h3, HS1.out.trans hs3⟩)
      clear h3 hs3 c1
      go_wp2
      go_ret
      exact HEND.out
    · have HX : Hid (X = (0, M)) := hid (hX'.symm.trans ((if_neg h0).trans (if_neg hc)))
      have HEND : Hid (TrimPost O d m j b X gs w (.returned (.int .i64 0)) w1) := hid (by rw [HX.out]; exact ⟨rfl, f1, H1.out, HS1.out⟩)
      by_cases hsz0 : 0 ≤ M.size ln
      · have hst0 : ((st : Int) == 0) = false := by simp; omega
        clear hX' h0
        generalize M.size ln = sz at *
        go_wp2_with fail
        refine HSZ.out.mono ?_
        rintro e w2 ⟨rfl, rfl⟩
        go_wp2
        go_ret
        exact HEND.out
      · clear hX' h0
        generalize M.size ln = sz at *
        go_wp2_with fail
        refine HSZ.out.mono ?_
        rintro e w2 ⟨rfl, rfl⟩
        go_wp2
        go_ret
        exact HEND.out
theorem readP_len : ∀ (k i : Nat) (fs : List Fr) (st : Nat) (M : Mod), st - 1 ≤ fs.length → (0 < i → i ≤ fs.length + 1) → (i = 0 → fs = []) →
    (readP k i fs st M).2.2.1 - 1 ≤ (readP k i fs st M).2.1.length
  | 0, i, fs, st, M, h, _, _ => h
  | k + 1, i, fs, st, M, h, hi, h0 => by
    rw [readP_succ]
    split
    · exact Nat.zero_le _
    · cases htp : takeP i fs (M.read ln i).1 with
      | none => exact h
      | some g =>
        have h1 : i + 1 ≤ g.1.length + 1 := by
          unfold takeP at htp
          split at htp
          · omega
          · split at htp
            · cases htp
            · split at htp
              · cases htp
              · cases htp
                have := hi (by omega)
                rw [List.length_append]
                show i + 1 ≤ fs.length + 1 + 1
                omega
        have h2 : fs.length ≤ g.1.length := by
          unfold takeP at htp
          split at htp
          · split at htp
            · cases htp; exact Nat.le_refl _
            · cases htp
          · split at htp
            · cases htp
            · split at htp
              · cases htp
              · cases htp; rw [List.length_append]; exact Nat.le_add_right _ _
        refine readP_len k (i + 1) g.1 _ _ ?_ (fun _ => h1) (fun e => by omega)
        split <;> omega
/-- Behind Open: a log, or an error and none. -/
def OpenPost (O : Nat → Prop) (d m : Nat) (X : Int × Option (List Fr) × Mod) (w : World) (e : Ending) (w' : World) : Prop :=
  match X.2.1 with
  | none => X.1 ≠ 0 ∧ e = .returned (.tuple #[.pointer none, .int .i64 X.1]) ∧ Sees O d m X.2.2 w' ∧ Stays O w w'
  | some fs => X.1 = 0 ∧ ∃ j b f, e = .returned (.tuple #[ptr j, .int .i64 0]) ∧ PL O d m j b f X.2.2 fs w' ∧ Stays O w w'
theorem PL.seen (h : PL O d m j b f M fs w) : Sees O d m M w := h.disk.fewer (fun _ hk => Or.inl hk)
theorem open_is (M : Mod) : openP M =
    (let R := readP (M.size ln).toNat 0 [] 0 M
     let T := trimP R.2.2.1 R.2.2.2
     if R.1 ≠ 0 then (R.1, none, R.2.2.2) else if T.1 ≠ 0 then (T.1, none, T.2) else (0, some (R.2.1.take (R.2.2.1 - 1)), T.2)) := rfl
set_option maxRecDepth 100000 in
set_option maxHeartbeats 4000000 in
theorem open_any_ (h : Sees O d m M w) : Calls Tryz.prog 10 #[ptr d] w (OpenPost O d m (openP M) w) := by
  have hmk := run_makeMap (P := Tryz.prog) tMi w
  obtain ⟨hpl, hbl⟩ := PL.new h
  obtain ⟨X, hX⟩ : ∃ X, openP M = X := ⟨_, rfl⟩
  rw [hX]
  rw [open_is] at hX
  have hle := readP_len (M.size ln).toNat 0 [] 0 M (Nat.le_refl _) (fun e => absurd e (by decide)) (fun _ => rfl)
  have hrd := read_any_ hpl
  obtain ⟨R, hR⟩ : ∃ R, readP (M.size ln).toNat 0 [] 0 M = R := ⟨_, rfl⟩
  rw [hR] at hX hle hrd
  obtain ⟨r, gs, st, M1⟩ := R
  simp only at hX hle
  have HRD := hid hrd
  have HBL := hid hbl
  have HLE := hid hle
  clear h hpl hbl hR hle hrd
  by_cases hr : r = 0
  · subst hr
    rw [if_neg (by decide)] at hX
    have HX := hid hX
    clear hX
    go_enter Tryz.func10, Tryz.ntmps10
    go_wp2_with fail
    refine HRD.out.mono ?_
    rintro e w2 ⟨rfl, f2, h2, hs2⟩
    have HTR := hid (trim_any h2 st HLE.out)
    have HS2 := hid ((stays_of HBL.out).trans hs2)
    clear h2 hs2 hmk
    obtain ⟨T, hT⟩ : ∃ T, trimP st M1 = T := ⟨_, rfl⟩
    rw [hT] at HTR HX
    obtain ⟨t, M2⟩ := T
    by_cases ht : t = 0
    · subst ht
      have HX2 : Hid (X = (0, some (gs.take (st - 1)), M2)) := hid (HX.out.symm.trans (if_neg (fun h => h rfl)))
      clear hT HX
      go_wp2_with fail
      refine HTR.out.mono ?_
      rintro e w3 ⟨rfl, f3, h3, hs3⟩
      have HEND : Hid (OpenPost O d m X w (.returned (.tuple #[ptr (w.heap.size + 1), .int .i64 0])) w3) := hid (by rw [HX2.out]; exact ⟨rfl, _, _, f3, rfl, h3, HS2.out.trans hs3⟩)
      clear h3 hs3
      go_wp2
      refine bodyPost_ret (v := .tuple #[ptr (w.heap.size + 1), .int .i64 0]) (by simp [results, go_sem]) rfl ?_
      exact HEND.out
    · have ht1 : (t != 0) = true := by simp [ht]
      have HX2 : Hid (X = (t, none, M2)) := hid (HX.out.symm.trans (if_pos ht))
      have HT := hid ht
      clear hT HX ht
      go_wp2_with fail
      refine HTR.out.mono ?_
      rintro e w3 ⟨rfl, f3, h3, hs3⟩
      have HEND : Hid (OpenPost O d m X w (.returned (.tuple #[.pointer none, .int .i64 t])) w3) := hid (by rw [HX2.out]; exact ⟨HT.out, rfl, h3.seen, HS2.out.trans hs3⟩)
      clear h3 hs3
      go_wp2
      refine bodyPost_ret (v := .tuple #[.pointer none, .int .i64 t]) (by simp [results, go_sem]) rfl ?_
      exact HEND.out
  · have hr1 : (r != 0) = true := by simp [hr]
    have HX2 : Hid (X = (r, none, M1)) := hid (hX.symm.trans (if_pos hr))
    have HR0 := hid hr
    clear hX hr
    go_enter Tryz.func10, Tryz.ntmps10
    go_wp2_with fail
    refine HRD.out.mono ?_
    rintro e w2 ⟨rfl, f2, h2, hs2⟩
    have HEND : Hid (OpenPost O d m X w (.returned (.tuple #[.pointer none, .int .i64 r])) w2) := hid (by rw [HX2.out]; exact ⟨HR0.out, rfl, h2.seen, (stays_of HBL.out).trans hs2⟩)
    clear h2 hs2 hmk
    go_wp2
    refine bodyPost_ret (v := .tuple #[.pointer none, .int .i64 r]) (by simp [results, go_sem]) rfl ?_
    exact HEND.out
end Lo
end Go.Proofs.YtgmbiiocjhkpdaaGreat

/-
  Contracts of the project's log: Len, Sync, End, Back, Pages.
-/
namespace Go.Proofs.YtgmbiiocjhkpdaaGreat
open Go.RowKit Go.Shelf
namespace Lo
open Num (hid)
open Disk (Mod Fil Sees Stays size_sees write_sees drop_sees sync_sees cut_sees read_sees)
open Mem (Bs bs tI Chg ptr blk_cell blk_free blk_new blk_set blk_other blk_alloc row_kept row_shape row_type)
variable {O O' : Nat → Prop} {d m j b : Nat} {f f' : Value} {M M' : Mod} {fs fs' : List Fr} {w w' : World}
set_option maxRecDepth 100000 in
theorem len_any (h : PL O d m j b f M fs w) : Calls Tryz.prog 29 #[ptr j] w fun e w' => e = .returned (.int .i64 (fs.length : Nat)) ∧ w = w' := by
  obtain ⟨ao, cap, rfl⟩ := h.shape
  have c1 := h.c1
  clear h
  go_enter Tryz.func29, Tryz.ntmps29
  go_wp2
  go_ret
  exact ⟨rfl, rfl⟩
set_option maxRecDepth 100000 in
set_option maxHeartbeats 1000000 in
theorem sync_any (h : PL O d m j b f M fs w) : Calls Tryz.prog 15 #[ptr j] w fun e w' => e = .returned (.int .i64 (syncM M).1) ∧ PL O d m j b f (syncM M).2 fs w' ∧ Stays O w w' := by
  have hm : syncM M = if M.size ln < 0 then (0, M) else M.sync ln := rfl
  obtain ⟨X, hX⟩ : ∃ X, syncM M = X := ⟨_, rfl⟩
  rw [hX] at hm ⊢
  have c0 := h.c0
  have HS := hid h.size_
  have H := hid h
  clear h hX
  go_enter Tryz.func15, Tryz.ntmps15
  by_cases hs : M.size ln < 0
  · rw [if_pos hs] at hm
    have HM := hid hm
    clear hm
    generalize M.size ln = sz at *
    go_wp2_with fail
    refine HS.out.mono ?_
    rintro e w1 ⟨rfl, rfl⟩
    go_wp2
    go_ret
    rw [HM.out]
    exact ⟨rfl, H.out, Disk.Stays.refl _ _⟩
  · rw [if_neg hs] at hm
    have HM := hid hm
    clear hm
    generalize M.size ln = sz at *
    go_wp2_with fail
    refine HS.out.mono ?_
    rintro e w1 ⟨rfl, rfl⟩
    go_wp2_with fail
    refine H.out.sync_.mono ?_
    rintro e w2 ⟨rfl, h2, hs2⟩
    have H2 := hid (And.intro h2 hs2)
    clear h2 hs2
    go_wp2
    go_ret
    rw [HM.out]
    exact ⟨rfl, H2.out⟩
def Post3 (O : Nat → Prop) (d m j b : Nat) (X : Int × List Fr × Mod) (w : World) (e : Ending) (w' : World) : Prop := e = .returned (.int .i64 X.1) ∧ Left' O d m j b X.2.2 X.2.1 w w'
theorem endP_is (fs : List Fr) (M : Mod) : endP fs M = if M.size ln < 0 then (0, [], M) else if (M.drop ln).1 = 0 then (0, [], (M.drop ln).2) else ((M.drop ln).1, fs, (M.drop ln).2) := by
  unfold endP
  split
  · rfl
  · split
    · rename_i h; rw [h]
    · rfl
set_option maxRecDepth 100000 in
set_option maxHeartbeats 1000000 in
theorem end_any (h : PL O d m j b f M fs w) : Calls Tryz.prog 21 #[ptr j] w (Post3 O d m j b (endP fs M) w) := by
  have hm := endP_is fs M
  obtain ⟨X, hX⟩ : ∃ X, endP fs M = X := ⟨_, rfl⟩
  rw [hX] at hm ⊢
  have c0 := h.c0
  have HS := hid h.size_
  have H := hid h
  clear h hX
  go_enter Tryz.func21, Tryz.ntmps21
  by_cases hs : M.size ln < 0
  · rw [if_pos hs] at hm
    have HM := hid hm
    clear hm
    generalize M.size ln = sz at *
    go_wp2_with fail
    refine HS.out.mono ?_
    rintro e w1 ⟨rfl, rfl⟩
    go_wp2_with fail
    refine (keep_any H.out 0 (Nat.zero_le _)).mono ?_
    rintro e w2 ⟨rfl, hl⟩
    have HEND : Hid (Post3 O d m j b X w (.returned (.int .i64 0)) w2) := hid (by rw [HM.out]; exact ⟨rfl, by rw [List.take_zero] at hl; exact hl⟩)
    clear hl c0
    go_wp2
    go_ret
    exact HEND.out
  · rw [if_neg hs] at hm
    obtain ⟨Y, hY⟩ : ∃ Y, M.drop ln = Y := ⟨_, rfl⟩
    have HD := hid H.out.drop_
    rw [hY] at hm HD
    obtain ⟨r, M2⟩ := Y
    by_cases hr : r = 0
    · subst hr
      have HM : Hid (X = (0, [], M2)) := hid (hm.trans (if_pos rfl))
      clear hm hY
      generalize M.size ln = sz at *
      go_wp2_with fail
      refine HS.out.mono ?_
      rintro e w1 ⟨rfl, rfl⟩
      go_wp2_with fail
      refine HD.out.mono ?_
      rintro e w2 ⟨rfl, h2, hs2⟩
      have H2 := hid (And.intro h2 hs2)
      clear h2 hs2 c0
      go_wp2_with fail
      refine (keep_any H2.out.1 0 (Nat.zero_le _)).mono ?_
      rintro e w3 ⟨rfl, hl⟩
      have HEND : Hid (Post3 O d m j b X w (.returned (.int .i64 0)) w3) := hid (by rw [HM.out]; exact ⟨rfl, by rw [List.take_zero] at hl; exact hl.pre H2.out.2⟩)
      clear hl
      go_wp2
      go_ret
      exact HEND.out
    · have hr1 : (r != 0) = true := by simp [hr]
      have HM : Hid (X = (r, fs, M2)) := hid (hm.trans (if_neg hr))
      clear hm hY hr
      generalize M.size ln = sz at *
      go_wp2_with fail
      refine HS.out.mono ?_
      rintro e w1 ⟨rfl, rfl⟩
      go_wp2_with fail
      refine HD.out.mono ?_
      rintro e w2 ⟨rfl, h2, hs2⟩
      have HEND : Hid (Post3 O d m j b X w (.returned (.int .i64 r)) w2) := hid (by rw [HM.out]; exact ⟨rfl, f, h2, hs2⟩)
      clear h2 hs2 c0
      go_wp2
      go_ret
      exact HEND.out
theorem row_zero {w : World} {base : Nat} {e : TypeId} {k : Nat} {v : Value} {n : Nat} {xs : List Value} (h : w.ownsRow base e k v n xs) : w.ownsRow 0 e k v n xs :=
  ⟨h.1, h.2.imp_right (fun ⟨g, cap, cur, e, _, r⟩ => ⟨g, cap, cur, e, Nat.zero_le _, r⟩)⟩
/-- Behind Pages: a row of numbers of the call's own. -/
structure PG' (w : World) (q : List Nat) (v : Value) (wr : World) : Prop where
  row : wr.ownsRow w.heap.size tI 1 v q.length (q.map fun n : Nat => Value.int .i64 (n : Int))
  bel : Below w.heap.size w wr
set_option maxRecDepth 100000 in
set_option maxHeartbeats 1000000 in
theorem pages_any (h : PL O d m j b f M fs w) : Calls Tryz.prog 32 #[ptr j] w fun e w' => ∃ v, e = .returned v ∧ PG' w (pagesM (fs.map (·.1))) v w' := by
  obtain ⟨c, hc, hm⟩ := h.map
  have hfew := h.few
  have hso := sortedI_any hm (by omega) (pages_sorted (fs.map (·.1))) (pages_mem h.small)
  have HSO := hid hso
  have HKE := hid (keysI_any (some b) w)
  have c2 := h.c2
  clear h hm hso hc
  go_enter Tryz.func32, Tryz.ntmps32
  go_wp2_with fail
  refine HKE.out.mono ?_
  rintro e w1 ⟨rfl, rfl⟩
  go_wp2_with fail
  refine HSO.out.mono ?_
  rintro e w2 ⟨v, rfl, hrow, hb⟩
  have HR := hid (PG'.mk hrow hb)
  obtain ⟨ao, cap, rfl, -⟩ := row_shape (row_zero hrow)
  clear hrow hb
  go_wp2
  go_ret
  exact ⟨_, rfl, HR.out⟩
end Lo
end Go.Proofs.YtgmbiiocjhkpdaaGreat
