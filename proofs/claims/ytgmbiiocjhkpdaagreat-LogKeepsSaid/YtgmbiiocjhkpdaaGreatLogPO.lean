/-
  Contracts of the project's log: the disk's calls beside it; read, trim, Open.
-/
import Derived.Test.YtgmbiiocjhkpdaaGreatLogPK
namespace Go.Proofs.YtgmbiiocjhkpdaaGreat
open Go.RowKit Go.Shelf
namespace Lo
open Num (hid)
open Disk (Mod Fil Sees Stays size_sees write_sees drop_sees sync_sees cut_sees read_sees)
open Mem (Bs bs tI Chg ptr blk_cell blk_free blk_new blk_set blk_other blk_alloc row_kept row_shape row_type)
variable {O O' : Nat → Prop} {d m j b : Nat} {f f' : Value} {M M' : Mod} {fs fs' : List Fr} {w w' : World}
theorem PL.size_ (h : PL O d m j b f M fs w) : Calls Tryz.prog 38 #[ptr d, .string lS] w fun e w' => e = .returned (.int .i64 (M.size ln)) ∧ w = w' := size_sees h.disk lS (by decide)
theorem PL.drop_ (h : PL O d m j b f M fs w) : Calls Tryz.prog 71 #[ptr d, .string lS] w fun e w' => e = .returned (.int .i64 (M.drop ln).1) ∧ PL O d m j b f (M.drop ln).2 fs w' ∧ Stays O w w' := by
  refine (drop_sees h.disk lS (by decide)).mono ?_
  rintro e w' ⟨rfl, h1, h2⟩
  exact ⟨rfl, h.over h1 h2, PL.stays h2⟩
theorem PL.sync_ (h : PL O d m j b f M fs w) : Calls Tryz.prog 65 #[ptr d, .string lS] w fun e w' => e = .returned (.int .i64 (M.sync ln).1) ∧ PL O d m j b f (M.sync ln).2 fs w' ∧ Stays O w w' := by
  refine (sync_sees h.disk lS (by decide)).mono ?_
  rintro e w' ⟨rfl, h1, h2⟩
  exact ⟨rfl, h.over h1 h2, PL.stays h2⟩
theorem PL.cut_ (h : PL O d m j b f M fs w) (k : Int) : Calls Tryz.prog 69 #[ptr d, .string lS, .int .i64 k] w fun e w' => e = .returned (.int .i64 (M.cut ln k).1) ∧ PL O d m j b f (M.cut ln k).2 fs w' ∧ Stays O w w' := by
  refine (cut_sees h.disk lS (by decide) k).mono ?_
  rintro e w' ⟨rfl, h1, h2⟩
  exact ⟨rfl, h.over h1 h2, PL.stays h2⟩
theorem PL.read_ (h : PL O d m j b f M fs w) (i : Nat) (hi : i ≤ 1000000) : Calls Tryz.prog 67 #[ptr d, .string lS, .int .i64 (i : Nat)] w fun e w' => e = .returned (.tuple #[.string (bs (M.read ln i).1), .int .i64 (M.read ln i).2.1]) ∧ PL O d m j b f (M.read ln i).2.2 fs w' ∧ Stays O w w' := by
  refine (read_sees h.disk lS (by decide) (i : Int) (by omega)).mono ?_
  rintro e w' ⟨rfl, h1, h2⟩
  exact ⟨rfl, h.over h1 h2, PL.stays h2⟩
theorem PL.write_ (h : PL O d m j b f M fs w) (i : Nat) (s : Bs) (hs : s.length = 256) : Calls Tryz.prog 56 #[ptr d, .string lS, .int .i64 (i : Nat), .string (bs s)] w fun e w' => e = .returned (.int .i64 (M.write ln i s).1) ∧ PL O d m j b f (M.write ln i s).2 fs w' ∧ Stays O w w' := by
  refine (write_sees h.disk lS (by decide) (i : Int) (bs s) (by rw [bs_len hs]; decide)).mono ?_
  rintro e w' ⟨rfl, h1, h2⟩
  exact ⟨rfl, h.over h1 h2, PL.stays h2⟩
/-- How many sectors a file has at most. -/
theorem size_le (h : Sees O d m M w) (n : Disk.Nam) : M.size n ≤ 16384 := by
  obtain ⟨tag, L, D, hL, _, _⟩ := h
  unfold Disk.Mod.size
  cases hg : Disk.get? M.fs n with
  | none => simp
  | some F =>
    rw [← hL] at hg
    have hm : (n, F) ∈ Disk.dirOf L := by
      unfold Disk.get? at hg
      obtain ⟨e, he, h2⟩ := Option.map_eq_some_iff.1 hg
      have h3 := List.mem_of_find?_eq_some he
      have h4 := List.find?_some he
      have h5 : e.1 = n := by simpa using h4
      rw [← h5, ← h2]
      exact h3
    obtain ⟨e, he, h2⟩ := List.mem_map.1 hm
    obtain ⟨v, Q, hf⟩ := D.files e he
    have hF : e.2.2 = F := (Prod.mk.inj h2).2
    show (F.ps.length : Int) ≤ 16384
    rw [← hF, hf.ps, List.length_map]
    have := hf.len
    omega
/-- While the sectors are read. -/
structure RdI (O : Nat → Prop) (d m j b : Nat) (X : Int × List Fr × Nat × Mod) (N i st : Nat) (w wr : World) : Prop where
  pl : ∃ f' fs' M', PL O d m j b f' M' fs' wr ∧ fs'.length ≤ i ∧ X = readP (N - i) i fs' st M'
  stays : Stays O w wr
def ReadPost (O : Nat → Prop) (d m j b : Nat) (X : Int × List Fr × Nat × Mod) (w : World) (e : Ending) (w' : World) : Prop :=
  e = .returned (.tuple #[.int .i64 (if X.1 = 0 then X.2.2.1 else 0 : Nat), .int .i64 X.1]) ∧ Left' O d m j b X.2.2.2 X.2.1 w w'
theorem read_end {X : Int × List Fr × Nat × Mod} {gs : List Fr} {st : Nat} (hX : X = (0, gs, st, M)) (h : PL O d m j b f M gs w') (hs : Stays O w w') :
    ReadPost O d m j b X w (.returned (.tuple #[.int .i64 (st : Nat), .int .i64 0])) w' := by
  subst hX
  exact ⟨rfl, f, h, hs⟩
theorem read_err {X : Int × List Fr × Nat × Mod} {gs : List Fr} {r : Int} (hr : r ≠ 0) (hX : X = (r, gs, 0, M)) (h : PL O d m j b f M gs w') (hs : Stays O w w') :
    ReadPost O d m j b X w (.returned (.tuple #[.int .i64 0, .int .i64 r])) w' := by
  subst hX
  refine ⟨?_, f, h, hs⟩
  show _ = Ending.returned (.tuple #[.int .i64 (if r = 0 then 0 else 0 : Nat), .int .i64 r])
  rw [if_neg hr]
  rfl
theorem meas_lt' {n k : Nat} (h : k < n) : n - (intOf (.int .i64 ((k : Int) + 1))).toNat < n - (intOf (.int .i64 (k : Int))).toNat := by simp [intOf]; omega
theorem sub_succ {N i : Nat} (h : i < N) : N - i = (N - (i + 1)) + 1 := by omega
theorem readP_succ (k i : Nat) (fs : List Fr) (st : Nat) (M : Mod) : readP (k + 1) i fs st M =
    if (M.read ln i).2.1 ≠ 0 ∧ (M.read ln i).2.1 ≠ 13 then ((M.read ln i).2.1, fs, 0, (M.read ln i).2.2)
    else match takeP i fs (M.read ln i).1 with
      | none => (0, fs, st, (M.read ln i).2.2)
      | some g => readP k (i + 1) g.1 (if g.2 then i + 1 else st) (M.read ln i).2.2 := rfl
theorem takeP_len {i : Nat} {fs : List Fr} {s : Bs} {g : List Fr × Bool} (h : takeP i fs s = some g) : g.1.length ≤ fs.length + 1 ∧ (i = 0 → g.1 = fs) := by
  unfold takeP at h
  split at h
  · split at h
    · cases h; exact ⟨Nat.le_succ _, fun _ => rfl⟩
    · cases h
  · rename_i hi
    split at h
    · cases h
    · split at h
      · cases h
      · cases h; exact ⟨by rw [List.length_append]; exact Nat.le_refl _, fun e => absurd e hi⟩
set_option maxRecDepth 100000 in
set_option maxHeartbeats 4000000 in
theorem read_any_ (h : PL O d m j b f M [] w) : Calls Tryz.prog 49 #[ptr j] w (ReadPost O d m j b (readP (M.size ln).toNat 0 [] 0 M) w) := by
  obtain ⟨X, hX⟩ : ∃ X, readP (M.size ln).toNat 0 [] 0 M = X := ⟨_, rfl⟩
  rw [hX]
  have HSZ := hid h.size_
  have hle := size_le h.disk ln
  have c0 := h.c0
  have HI0 : Hid (RdI O d m j b X (M.size ln).toNat 0 0 w w) := hid ⟨⟨f, [], M, h, Nat.le_refl _, by rw [Nat.sub_zero]; exact hX.symm⟩, Disk.Stays.refl _ _⟩
  obtain ⟨n, hn⟩ : ∃ n, (M.size ln).toNat = n := ⟨_, rfl⟩
  obtain ⟨sz, hsz⟩ : ∃ sz, M.size ln = sz := ⟨_, rfl⟩
  rw [hn] at HI0
  rw [hsz] at HSZ hle hn
  have hn2 : n ≤ 16384 := by omega
  have HNS : Hid (sz.toNat = n) := hid hn
  clear h hX hn hsz
  go_enter Tryz.func49, Tryz.ntmps49
  go_wp2_with fail
  refine HSZ.out.mono ?_
  rintro e w1 ⟨rfl, rfl⟩
  clear c0
  go_wp2_with fail
  go_loopw [4, 15] (fun sv iv wr => ∃ i st : Nat, i ≤ n ∧ sv = .int .i64 st ∧ iv = .int .i64 i ∧ Hid (RdI O d m j b X n i st w wr)) (fun _ iv _ => n - (intOf iv).toNat)
  case atStart => exact ⟨0, 0, Nat.zero_le _, rfl, rfl, HI0⟩
  case round =>
    obtain ⟨i, st, hi, rfl, rfl, HI⟩ := hrel
    obtain ⟨⟨f1, fs1, M1, hpl, hlen, hx⟩, hst⟩ := HI.out
    have HST := hid hst
    by_cases hlt : (i : Int) < sz
    · have HLT : Hid (i < n) := hid (by have := HNS.out; omega)
      rw [sub_succ HLT.out, readP_succ] at hx
      have HL := hid hlen
      have HPL := hid hpl
      have hrd := hpl.read_ i (by omega)
      have e0 := hpl.c0
      obtain ⟨Y, hY⟩ : ∃ Y, M1.read ln i = Y := ⟨_, rfl⟩
      rw [hY] at hx hrd
      obtain ⟨s, r, M2⟩ := Y
      have hfl : fs1.length < 20000 := by omega
      by_cases hr : r ≠ 0 ∧ r ≠ 13
      · have hr1 : (r != 0) = true := by simp [hr.1]
        have hr2 : (r != 13) = true := by simp [hr.2]
        have hx2 : X = (r, fs1, 0, M2) := hx.trans (if_pos hr)
        have HX2 := hid hx2
        have HR0 := hid hr.1
        have HRD := hid hrd
        clear hr hx hx2 hrd hY hpl hst hlen
        go_wp2_with fail
        refine HRD.out.mono ?_
        rintro e w2 ⟨rfl, h2, hs2⟩
        have HEND := hid (read_err HR0.out HX2.out h2 (HST.out.trans hs2))
        clear h2 hs2 e0
        go_wp2
        refine bodyPost_ret (v := .tuple #[.int .i64 0, .int .i64 r]) (by simp [results, go_sem]) rfl ?_
        exact HEND.out
      · have hr' : r = 0 ∨ r = 13 := by
          by_cases h0 : r = 0
          · exact Or.inl h0
          · by_cases h1 : r = 13
            · exact Or.inr h1
            · exact absurd ⟨h0, h1⟩ hr
        have hx2 := hx.trans (if_neg hr)
        have HRD := hid hrd
        have HFL := hid hfl
        clear hr hx hrd hY hpl hst hlen hfl
        cases htp : takeP i fs1 s with
        | none =>
          simp only [htp] at hx2
          have HX2 := hid hx2
          have HTP := hid htp
          clear hx2 htp
          rcases hr' with rfl | rfl
          all_goals
            go_wp2_with fail
            refine HRD.out.mono ?_
            rintro e w2 ⟨rfl, h2, hs2⟩
            have H2 := hid h2
            have HS2 := hid (HST.out.trans hs2)
            have htr := takeRight_any h2 i (by omega) s HFL.out
            rw [HTP.out] at htr
            have HTR := hid htr
            clear h2 hs2 e0 htr
            go_wp2_with fail
            refine HTR.out.mono ?_
            rintro e w3 ⟨rfl, f3, h3, hs3⟩
            have HEND := hid (read_end HX2.out h3 (HS2.out.trans hs3))
            clear h3 hs3
            go_wp2
            refine bodyPost_ret (v := .tuple #[.int .i64 (st : Nat), .int .i64 0]) (by simp [results, go_sem]) rfl ?_
            exact HEND.out
        | some g =>
          obtain ⟨gs, c⟩ := g
          simp only [htp] at hx2
          have HX2 := hid hx2
          have HTP := hid htp
          have HGL : Hid (gs.length ≤ i + 1) := hid (by have h1 : gs.length ≤ fs1.length + 1 := (takeP_len htp).1; have := HL.out; omega)
          have hwk : wrap64 ((i : Int) + 1) = (i : Int) + 1 := by rw [Num.wrap_i]; omega
          clear hx2 htp
          cases c
          all_goals
            rcases hr' with rfl | rfl
            all_goals
              go_wp2_with fail
              refine HRD.out.mono ?_
              rintro e w2 ⟨rfl, h2, hs2⟩
              have H2 := hid h2
              have HS2 := hid (HST.out.trans hs2)
              have htr := takeRight_any h2 i (by omega) s HFL.out
              rw [HTP.out] at htr
              have HTR := hid htr
              clear h2 hs2 e0 htr
              go_wp2_with fail
              refine HTR.out.mono ?_
              rintro e w3 ⟨rfl, f3, h3, hs3⟩
              have HNX := hid (RdI.mk ⟨f3, gs, M2, h3, HGL.out, HX2.out⟩ (HS2.out.trans hs3))
              clear h3 hs3
              go_wp2
              go_roundw
              case rel => exact ⟨i + 1, _, HLT.out, by go_num, by go_num, HNX⟩
              case measure => exact meas_lt' HLT.out
    · have hin : i = n := by have := HNS.out; omega
      subst hin
      rw [Nat.sub_self] at hx
      have HEND := hid (read_end (st := st) hx hpl hst)
      clear hx hpl hst hlen
      go_wp2
      refine bodyPost_ret (v := .tuple #[.int .i64 (st : Nat), .int .i64 0]) (by simp [results, go_sem]) rfl ?_
      exact HEND.out
end Lo
end Go.Proofs.YtgmbiiocjhkpdaaGreat
